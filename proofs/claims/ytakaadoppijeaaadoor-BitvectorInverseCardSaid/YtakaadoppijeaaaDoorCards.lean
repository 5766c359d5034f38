/-
  DERIVED. GIVEN WITH THE SEED: THE CARDS: each row of YtakaadoppijeaaaDoorRows.lean that lists a variable, with what it lists TIED to the program's text (the seventh form; the later family's looks); each row that meets fmt, with fmt's text TOLD by the authors' own Lean function (tested against real Go, not proved from fmt's source: count such statements apart). THE CARD IS WHAT COUNTS. Prove the row's statement (the work); the ties are given (YtakaadoppijeaaaDoorTie.lean); close each card by the builder's one call (the guide's Derived/Test/ToyasCard.lean, 'card_holds'). Laid BY PROGRAM, IN A SANDBOX (cutbox-door.mjs). By AI agents, Wed Nov 11 2026. No macro, syntax, notation, axiom, sorry.
-/
import Derived.Test.YtakaadoppijeaaaDoorRows
import GoSem.ClaimSeven
namespace Go.Proofs.YtakaadoppijeaaaDoor
namespace Rows

/-- THE TIED CARD OF 'heartwoodlaw21.BitvectorMakes'. -/
def bitvectorMakesCard : Claim7 := { stood := { row := bitvectorMakesRow, standIns := [], harness := (true, "8f1c749a1b92c13072069b9e49d393240d66e0003bc66bb41d20a487d07c21ad"), looks := false }, kinds := [], alts := [], laidByText := true, laidKinds := [.data], laidTests := true, laidLooks := .later }
def BitvectorMakesCardSaid : Prop := Claim7.holds Tryd.pinned (.plain (OpenSpec.ofChange bitvectorMakesSpec)) bitvectorMakesCard

/-- THE TIED CARD OF 'heartwoodlaw21.BitvectorRanks'. -/
def bitvectorRanksCard : Claim7 := { stood := { row := bitvectorRanksRow, standIns := [], harness := (true, "8f1c749a1b92c13072069b9e49d393240d66e0003bc66bb41d20a487d07c21ad"), looks := false }, kinds := [], alts := [], laidByText := true, laidKinds := [.data], laidTests := true, laidLooks := .later }
def BitvectorRanksCardSaid : Prop := Claim7.holds Tryd.pinned (.plain (OpenSpec.ofChange bitvectorRanksSpec)) bitvectorRanksCard

/-- THE TIED CARD OF 'heartwoodlaw21.BitvectorSteps'. -/
def bitvectorStepsCard : Claim7 := { stood := { row := bitvectorStepsRow, standIns := [], harness := (true, "8f1c749a1b92c13072069b9e49d393240d66e0003bc66bb41d20a487d07c21ad"), looks := false }, kinds := [], alts := [], laidByText := true, laidKinds := [.data], laidTests := true, laidLooks := .later }
def BitvectorStepsCardSaid : Prop := Claim7.holds Tryd.pinned (.plain (OpenSpec.ofChange bitvectorStepsSpec)) bitvectorStepsCard

/-- THE TIED CARD OF 'heartwoodlaw21.BitvectorCodes'. -/
def bitvectorCodesCard : Claim7 := { stood := { row := bitvectorCodesRow, standIns := [], harness := (true, "8f1c749a1b92c13072069b9e49d393240d66e0003bc66bb41d20a487d07c21ad"), looks := false }, kinds := [], alts := [], laidByText := true, laidKinds := [.data], laidTests := true, laidLooks := .later }
def BitvectorCodesCardSaid : Prop := Claim7.holds Tryd.pinned (.plain (OpenSpec.ofChange bitvectorCodesSpec)) bitvectorCodesCard

/-- THE TIED CARD OF 'heartwoodlaw21.BitvectorInverse'. -/
def bitvectorInverseCard : Claim7 := { stood := { row := bitvectorInverseRow, standIns := [], harness := (true, "8f1c749a1b92c13072069b9e49d393240d66e0003bc66bb41d20a487d07c21ad"), looks := false }, kinds := [], alts := [], laidByText := true, laidKinds := [.data], laidTests := true, laidLooks := .later }
def BitvectorInverseCardSaid : Prop := Claim7.holds Tryd.pinned (.plain (OpenSpec.ofChange bitvectorInverseSpec)) bitvectorInverseCard

/-- THE TIED CARD OF 'heartwoodlaw21.BitvectorNil'. -/
def bitvectorNilCard : Claim7 := { stood := { row := bitvectorNilRow, standIns := [], harness := (true, "8f1c749a1b92c13072069b9e49d393240d66e0003bc66bb41d20a487d07c21ad"), looks := false }, kinds := [], alts := [], laidByText := true, laidKinds := [.data], laidTests := true, laidLooks := .later }
def BitvectorNilCardSaid : Prop := Claim7.holds Tryd.pinned (.plain (OpenSpec.ofChange bitvectorNilSpec)) bitvectorNilCard

/-- THE SECOND FORM's CARD OF 'heartwoodlaw21.BitvectorMakes'. -/
def bitvectorMakesUptoCard : Claim7 := { stood := { row := bitvectorMakesUptoRow, standIns := [], harness := (true, "8f1c749a1b92c13072069b9e49d393240d66e0003bc66bb41d20a487d07c21ad"), looks := false }, kinds := [], alts := [], laidByText := true, laidKinds := [.data], laidTests := true, laidLooks := .later }
def BitvectorMakesUptoCardSaid : Prop := Claim7.holds Tryd.pinned (.plain (OpenSpec.upto bitvectorMakesSpec)) bitvectorMakesUptoCard

/-- THE SECOND FORM's CARD OF 'heartwoodlaw21.BitvectorRanks'. -/
def bitvectorRanksUptoCard : Claim7 := { stood := { row := bitvectorRanksUptoRow, standIns := [], harness := (true, "8f1c749a1b92c13072069b9e49d393240d66e0003bc66bb41d20a487d07c21ad"), looks := false }, kinds := [], alts := [], laidByText := true, laidKinds := [.data], laidTests := true, laidLooks := .later }
def BitvectorRanksUptoCardSaid : Prop := Claim7.holds Tryd.pinned (.plain (OpenSpec.upto bitvectorRanksSpec)) bitvectorRanksUptoCard

/-- THE SECOND FORM's CARD OF 'heartwoodlaw21.BitvectorSteps'. -/
def bitvectorStepsUptoCard : Claim7 := { stood := { row := bitvectorStepsUptoRow, standIns := [], harness := (true, "8f1c749a1b92c13072069b9e49d393240d66e0003bc66bb41d20a487d07c21ad"), looks := false }, kinds := [], alts := [], laidByText := true, laidKinds := [.data], laidTests := true, laidLooks := .later }
def BitvectorStepsUptoCardSaid : Prop := Claim7.holds Tryd.pinned (.plain (OpenSpec.upto bitvectorStepsSpec)) bitvectorStepsUptoCard

/-- THE SECOND FORM's CARD OF 'heartwoodlaw21.BitvectorCodes'. -/
def bitvectorCodesUptoCard : Claim7 := { stood := { row := bitvectorCodesUptoRow, standIns := [], harness := (true, "8f1c749a1b92c13072069b9e49d393240d66e0003bc66bb41d20a487d07c21ad"), looks := false }, kinds := [], alts := [], laidByText := true, laidKinds := [.data], laidTests := true, laidLooks := .later }
def BitvectorCodesUptoCardSaid : Prop := Claim7.holds Tryd.pinned (.plain (OpenSpec.upto bitvectorCodesSpec)) bitvectorCodesUptoCard

/-- THE SECOND FORM's CARD OF 'heartwoodlaw21.BitvectorInverse'. -/
def bitvectorInverseUptoCard : Claim7 := { stood := { row := bitvectorInverseUptoRow, standIns := [], harness := (true, "8f1c749a1b92c13072069b9e49d393240d66e0003bc66bb41d20a487d07c21ad"), looks := false }, kinds := [], alts := [], laidByText := true, laidKinds := [.data], laidTests := true, laidLooks := .later }
def BitvectorInverseUptoCardSaid : Prop := Claim7.holds Tryd.pinned (.plain (OpenSpec.upto bitvectorInverseSpec)) bitvectorInverseUptoCard

/-- THE SECOND FORM's CARD OF 'heartwoodlaw21.BitvectorNil'. -/
def bitvectorNilUptoCard : Claim7 := { stood := { row := bitvectorNilUptoRow, standIns := [], harness := (true, "8f1c749a1b92c13072069b9e49d393240d66e0003bc66bb41d20a487d07c21ad"), looks := false }, kinds := [], alts := [], laidByText := true, laidKinds := [.data], laidTests := true, laidLooks := .later }
def BitvectorNilUptoCardSaid : Prop := Claim7.holds Tryd.pinned (.plain (OpenSpec.upto bitvectorNilSpec)) bitvectorNilUptoCard
end Rows
end Go.Proofs.YtakaadoppijeaaaDoor
