/-
  DERIVED. GIVEN WITH THE SEED: THE CARDS: each row of YthbcfcbonmphfaaGreatDoorRows.lean that lists a variable, with what it lists TIED to the program's text (the seventh form; the later family's looks); each row that meets fmt, with fmt's text TOLD by the authors' own Lean function (tested against real Go, not proved from fmt's source: count such statements apart). THE CARD IS WHAT COUNTS. Prove the row's statement (the work); the ties are given (YthbcfcbonmphfaaGreatDoorTie.lean); close each card by the builder's one call (the guide's Derived/Test/ToyasCard.lean, 'card_holds'). Laid BY PROGRAM, IN A SANDBOX (cutbox-door.mjs). By AI agents, Wed Nov 11 2026. No macro, syntax, notation, axiom, sorry.
-/
import Derived.Test.YthbcfcbonmphfaaGreatDoorRows
import GoSem.ClaimSeven
namespace Go.Proofs.YthbcfcbonmphfaaGreatDoor
namespace Rows

/-- THE TIED CARD OF 'heartwoodlaw02.TermForms'. -/
def termFormsCard : Claim7 := { stood := { row := termFormsRow, standIns := [], harness := (true, "64734533744255193a41784fe1bd95d60c1ae69ee79cf79c8ac3d49de6d41335"), looks := false }, kinds := [], alts := [], laidByText := true, laidKinds := [.data], laidTests := true, laidLooks := .later }
def TermFormsCardSaid : Prop := Claim7.holds Tryz.pinned (.plain (OpenSpec.ofChange termFormsSpec)) termFormsCard

/-- THE SECOND FORM's CARD OF 'heartwoodlaw02.TermForms'. -/
def termFormsUptoCard : Claim7 := { stood := { row := termFormsUptoRow, standIns := [], harness := (true, "64734533744255193a41784fe1bd95d60c1ae69ee79cf79c8ac3d49de6d41335"), looks := false }, kinds := [], alts := [], laidByText := true, laidKinds := [.data], laidTests := true, laidLooks := .later }
def TermFormsUptoCardSaid : Prop := Claim7.holds Tryz.pinned (.plain (OpenSpec.upto termFormsSpec)) termFormsUptoCard
end Rows
end Go.Proofs.YthbcfcbonmphfaaGreatDoor
