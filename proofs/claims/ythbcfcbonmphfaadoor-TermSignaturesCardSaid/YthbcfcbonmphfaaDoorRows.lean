/-
  NARROWER THAN 'FOR EVERY INPUT', by the rows' own cells (each row's printed sentence says how): LexNames: laid · LexTokens: laid · LexJoins: laid · LexBack: laid · LexPlaces: laid · TermPaths: loops, laid · TermOrder: loops, laid · TermTexts: loops, laid · TermSignatures: laid · TermPuts: loops, laid.
  DERIVED. THE GIVEN ROWS OF THIS SEAT. 10 by the template 'for every input the law returns true; each argument reads behind the call as it read before'; 0 by the template 'total and deterministic' (their statements: YthbcfcbonmphfaaDoorTotals.lean).
  GIVEN WITH THE SEED: the statements are not yours to turn. If you find one false, say at which input.
  Laid BY PROGRAM, IN A SANDBOX (cutbox-rows.mjs): the forced cells as the released guide's own fill.sh prints them over the translation 6555d64a2f984481… (all of the seat's roots in one cut). By AI agents, Wed Nov 11 2026. No macro, syntax, notation, axiom, sorry.
-/
import Derived.Test.YthbcfcbonmphfaaDoorChecked
import GoSem.Claim
import GoSem.ClaimJoined
import GoSem.ClaimMapViews
import Derived.JoinedTies
import Derived.KernelRfl
namespace Go.Proofs.YthbcfcbonmphfaaDoor
/- THE CELL 'sum', in the pinned program and in every row, IS THE sha256 OF THE DUMP (.gsa) THAT YthbcfcbonmphfaaDoorProg.lean LOADS. Nothing in Lean hashes anything: it is a label: what it is worth is what the hold of that sum in a sandbox is worth. -/
noncomputable def Tryd.pinned : Pinned := { name := "ythbcfcbonmphfaadoor", sum := "6555d64a2f984481ab50be785f4a838662d932d2acec3254ca37d3cd1f1dbd68", checked := Tryd.checked }
namespace Rows
def none {H : Type} : Left H := { results := [], args := [] }

/- WHAT THE LISTED PACKAGE-LEVEL VARIABLES READ AS WHEN THE CALL BEGINS. Each datum BY PROGRAM (the guide's laid-datum.mjs) off the statement by which the dump's own 'gosem.cut.vars' lays the variable. In a bare row this is a premise. The card (YthbcfcbonmphfaaDoorCards.lean) ties it to the program's text. -/
def laid_heartwood_lex_pairs {H : Type} : DataW H := .agg [.lit (.string [61, 61]), .lit (.string [33, 61]), .lit (.string [60, 61]), .lit (.string [45, 62])]

/-- 'heartwoodlaw01.LexNames': WHATEVER THE INPUT: true; the input reads as it did. -/
def lexNamesSpec : ChangeSpec := { name := "lexNames", fn := fun _ => fun
  | [d1, d2] => { results := [.lit (.bool true)], args := [d1, d2] }
  | _ => none }
def lexNamesRow : OpenClaim := { program := "ythbcfcbonmphfaadoor", sum := "6555d64a2f984481ab50be785f4a838662d932d2acec3254ca37d3cd1f1dbd68", func := "heartwood/heartwoodlaw01.LexNames", spec := "lexNames", named := ["heartwood/lex.pairs"], apart := false, laid := [("heartwood/lex.pairs", laid_heartwood_lex_pairs)] }
def LexNamesSaid : Prop := lexNamesRow.holds Tryd.pinned (OpenSpec.ofChange lexNamesSpec)

/-- ITS FALSE NEIGHBOUR: 'it returns false'. Refute it at one input. -/
def lexNamesWrong : ChangeSpec := { name := "lexNames", fn := fun _ => fun
  | [d1, d2] => { results := [.lit (.bool false)], args := [d1, d2] }
  | _ => none }
def LexNamesWrongFalsely : Prop := lexNamesRow.holds Tryd.pinned (OpenSpec.ofChange lexNamesWrong)

/-- 'heartwoodlaw01.LexTokens': WHATEVER THE INPUT: true; the input reads as it did. -/
def lexTokensSpec : ChangeSpec := { name := "lexTokens", fn := fun _ => fun
  | [d] => { results := [.lit (.bool true)], args := [d] }
  | _ => none }
def lexTokensRow : OpenClaim := { program := "ythbcfcbonmphfaadoor", sum := "6555d64a2f984481ab50be785f4a838662d932d2acec3254ca37d3cd1f1dbd68", func := "heartwood/heartwoodlaw01.LexTokens", spec := "lexTokens", named := ["heartwood/lex.pairs"], apart := false, laid := [("heartwood/lex.pairs", laid_heartwood_lex_pairs)] }
def LexTokensSaid : Prop := lexTokensRow.holds Tryd.pinned (OpenSpec.ofChange lexTokensSpec)

/-- ITS FALSE NEIGHBOUR: 'it returns false'. Refute it at one input. -/
def lexTokensWrong : ChangeSpec := { name := "lexTokens", fn := fun _ => fun
  | [d] => { results := [.lit (.bool false)], args := [d] }
  | _ => none }
def LexTokensWrongFalsely : Prop := lexTokensRow.holds Tryd.pinned (OpenSpec.ofChange lexTokensWrong)

/-- 'heartwoodlaw01.LexJoins': WHATEVER THE INPUT: true; the input reads as it did. -/
def lexJoinsSpec : ChangeSpec := { name := "lexJoins", fn := fun _ => fun
  | [d] => { results := [.lit (.bool true)], args := [d] }
  | _ => none }
def lexJoinsRow : OpenClaim := { program := "ythbcfcbonmphfaadoor", sum := "6555d64a2f984481ab50be785f4a838662d932d2acec3254ca37d3cd1f1dbd68", func := "heartwood/heartwoodlaw01.LexJoins", spec := "lexJoins", unfollowed := true, recurses := true, named := ["heartwood/lex.pairs"], apart := false, laid := [("heartwood/lex.pairs", laid_heartwood_lex_pairs)] }
def LexJoinsSaid : Prop := lexJoinsRow.holds Tryd.pinned (OpenSpec.ofChange lexJoinsSpec)

/-- ITS FALSE NEIGHBOUR: 'it returns false'. Refute it at one input. -/
def lexJoinsWrong : ChangeSpec := { name := "lexJoins", fn := fun _ => fun
  | [d] => { results := [.lit (.bool false)], args := [d] }
  | _ => none }
def LexJoinsWrongFalsely : Prop := lexJoinsRow.holds Tryd.pinned (OpenSpec.ofChange lexJoinsWrong)

/-- 'heartwoodlaw01.LexBack': WHATEVER THE INPUT: true; the input reads as it did. -/
def lexBackSpec : ChangeSpec := { name := "lexBack", fn := fun _ => fun
  | [d] => { results := [.lit (.bool true)], args := [d] }
  | _ => none }
def lexBackRow : OpenClaim := { program := "ythbcfcbonmphfaadoor", sum := "6555d64a2f984481ab50be785f4a838662d932d2acec3254ca37d3cd1f1dbd68", func := "heartwood/heartwoodlaw01.LexBack", spec := "lexBack", unfollowed := true, recurses := true, named := ["heartwood/lex.pairs"], apart := false, laid := [("heartwood/lex.pairs", laid_heartwood_lex_pairs)] }
def LexBackSaid : Prop := lexBackRow.holds Tryd.pinned (OpenSpec.ofChange lexBackSpec)

/-- ITS FALSE NEIGHBOUR: 'it returns false'. Refute it at one input. -/
def lexBackWrong : ChangeSpec := { name := "lexBack", fn := fun _ => fun
  | [d] => { results := [.lit (.bool false)], args := [d] }
  | _ => none }
def LexBackWrongFalsely : Prop := lexBackRow.holds Tryd.pinned (OpenSpec.ofChange lexBackWrong)

/-- 'heartwoodlaw01.LexPlaces': WHATEVER THE INPUT: true; the input reads as it did. -/
def lexPlacesSpec : ChangeSpec := { name := "lexPlaces", fn := fun _ => fun
  | [d1, d2] => { results := [.lit (.bool true)], args := [d1, d2] }
  | _ => none }
def lexPlacesRow : OpenClaim := { program := "ythbcfcbonmphfaadoor", sum := "6555d64a2f984481ab50be785f4a838662d932d2acec3254ca37d3cd1f1dbd68", func := "heartwood/heartwoodlaw01.LexPlaces", spec := "lexPlaces", inPlace := ["internal/abi.NoEscape"], recurses := true, named := ["heartwood/lex.pairs"], apart := false, laid := [("heartwood/lex.pairs", laid_heartwood_lex_pairs)] }
def LexPlacesSaid : Prop := lexPlacesRow.holds Tryd.pinned (OpenSpec.ofChange lexPlacesSpec)

/-- ITS FALSE NEIGHBOUR: 'it returns false'. Refute it at one input. -/
def lexPlacesWrong : ChangeSpec := { name := "lexPlaces", fn := fun _ => fun
  | [d1, d2] => { results := [.lit (.bool false)], args := [d1, d2] }
  | _ => none }
def LexPlacesWrongFalsely : Prop := lexPlacesRow.holds Tryd.pinned (OpenSpec.ofChange lexPlacesWrong)

/-- 'heartwoodlaw02.TermPaths': WHATEVER THE INPUT: true; the input reads as it did. -/
def termPathsSpec : ChangeSpec := { name := "termPaths", fn := fun _ => fun
  | [d1, d2, d3] => { results := [.lit (.bool true)], args := [d1, d2, d3] }
  | _ => none }
def termPathsRow : OpenClaim := { program := "ythbcfcbonmphfaadoor", sum := "6555d64a2f984481ab50be785f4a838662d932d2acec3254ca37d3cd1f1dbd68", func := "heartwood/heartwoodlaw02.TermPaths", spec := "termPaths", inPlace := ["internal/abi.NoEscape", "internal/bytealg.MakeNoZero"], unfollowed := true, recurses := true, named := ["heartwood/lex.pairs"], loops := true, apart := false, laid := [("heartwood/lex.pairs", laid_heartwood_lex_pairs)] }
def TermPathsSaid : Prop := termPathsRow.holds Tryd.pinned (OpenSpec.ofChange termPathsSpec)

/-- ITS FALSE NEIGHBOUR: 'it returns false'. Refute it at one input. -/
def termPathsWrong : ChangeSpec := { name := "termPaths", fn := fun _ => fun
  | [d1, d2, d3] => { results := [.lit (.bool false)], args := [d1, d2, d3] }
  | _ => none }
def TermPathsWrongFalsely : Prop := termPathsRow.holds Tryd.pinned (OpenSpec.ofChange termPathsWrong)

/-- 'heartwoodlaw02.TermOrder': WHATEVER THE INPUT: true; the input reads as it did. -/
def termOrderSpec : ChangeSpec := { name := "termOrder", fn := fun _ => fun
  | [d1, d2, d3] => { results := [.lit (.bool true)], args := [d1, d2, d3] }
  | _ => none }
def termOrderRow : OpenClaim := { program := "ythbcfcbonmphfaadoor", sum := "6555d64a2f984481ab50be785f4a838662d932d2acec3254ca37d3cd1f1dbd68", func := "heartwood/heartwoodlaw02.TermOrder", spec := "termOrder", inPlace := ["internal/abi.NoEscape", "internal/bytealg.MakeNoZero", "internal/bytealg.abigen_runtime_cmpstring"], unfollowed := true, recurses := true, named := ["heartwood/lex.pairs"], loops := true, apart := false, laid := [("heartwood/lex.pairs", laid_heartwood_lex_pairs)] }
def TermOrderSaid : Prop := termOrderRow.holds Tryd.pinned (OpenSpec.ofChange termOrderSpec)

/-- ITS FALSE NEIGHBOUR: 'it returns false'. Refute it at one input. -/
def termOrderWrong : ChangeSpec := { name := "termOrder", fn := fun _ => fun
  | [d1, d2, d3] => { results := [.lit (.bool false)], args := [d1, d2, d3] }
  | _ => none }
def TermOrderWrongFalsely : Prop := termOrderRow.holds Tryd.pinned (OpenSpec.ofChange termOrderWrong)

/-- 'heartwoodlaw02.TermTexts': WHATEVER THE INPUT: true; the input reads as it did. -/
def termTextsSpec : ChangeSpec := { name := "termTexts", fn := fun _ => fun
  | [d1, d2] => { results := [.lit (.bool true)], args := [d1, d2] }
  | _ => none }
def termTextsRow : OpenClaim := { program := "ythbcfcbonmphfaadoor", sum := "6555d64a2f984481ab50be785f4a838662d932d2acec3254ca37d3cd1f1dbd68", func := "heartwood/heartwoodlaw02.TermTexts", spec := "termTexts", inPlace := ["internal/abi.NoEscape", "internal/bytealg.MakeNoZero"], unfollowed := true, recurses := true, named := ["heartwood/lex.pairs"], loops := true, apart := false, laid := [("heartwood/lex.pairs", laid_heartwood_lex_pairs)] }
def TermTextsSaid : Prop := termTextsRow.holds Tryd.pinned (OpenSpec.ofChange termTextsSpec)

/-- ITS FALSE NEIGHBOUR: 'it returns false'. Refute it at one input. -/
def termTextsWrong : ChangeSpec := { name := "termTexts", fn := fun _ => fun
  | [d1, d2] => { results := [.lit (.bool false)], args := [d1, d2] }
  | _ => none }
def TermTextsWrongFalsely : Prop := termTextsRow.holds Tryd.pinned (OpenSpec.ofChange termTextsWrong)

/-- 'heartwoodlaw02.TermSignatures': WHATEVER THE INPUT: true; the input reads as it did. -/
def termSignaturesSpec : ChangeSpec := { name := "termSignatures", fn := fun _ => fun
  | [d1, d2] => { results := [.lit (.bool true)], args := [d1, d2] }
  | _ => none }
def termSignaturesRow : OpenClaim := { program := "ythbcfcbonmphfaadoor", sum := "6555d64a2f984481ab50be785f4a838662d932d2acec3254ca37d3cd1f1dbd68", func := "heartwood/heartwoodlaw02.TermSignatures", spec := "termSignatures", inPlace := ["internal/abi.NoEscape", "internal/bytealg.MakeNoZero"], unfollowed := true, recurses := true, named := ["heartwood/lex.pairs"], apart := false, laid := [("heartwood/lex.pairs", laid_heartwood_lex_pairs)] }
def TermSignaturesSaid : Prop := termSignaturesRow.holds Tryd.pinned (OpenSpec.ofChange termSignaturesSpec)

/-- ITS FALSE NEIGHBOUR: 'it returns false'. Refute it at one input. -/
def termSignaturesWrong : ChangeSpec := { name := "termSignatures", fn := fun _ => fun
  | [d1, d2] => { results := [.lit (.bool false)], args := [d1, d2] }
  | _ => none }
def TermSignaturesWrongFalsely : Prop := termSignaturesRow.holds Tryd.pinned (OpenSpec.ofChange termSignaturesWrong)

/-- 'heartwoodlaw02.TermPuts': WHATEVER THE INPUT: true; the input reads as it did. -/
def termPutsSpec : ChangeSpec := { name := "termPuts", fn := fun _ => fun
  | [d1, d2, d3, d4, d5] => { results := [.lit (.bool true)], args := [d1, d2, d3, d4, d5] }
  | _ => none }
def termPutsRow : OpenClaim := { program := "ythbcfcbonmphfaadoor", sum := "6555d64a2f984481ab50be785f4a838662d932d2acec3254ca37d3cd1f1dbd68", func := "heartwood/heartwoodlaw02.TermPuts", spec := "termPuts", inPlace := ["internal/abi.NoEscape", "internal/bytealg.MakeNoZero"], unfollowed := true, recurses := true, named := ["heartwood/lex.pairs"], loops := true, apart := false, laid := [("heartwood/lex.pairs", laid_heartwood_lex_pairs)] }
def TermPutsSaid : Prop := termPutsRow.holds Tryd.pinned (OpenSpec.ofChange termPutsSpec)

/-- ITS FALSE NEIGHBOUR: 'it returns false'. Refute it at one input. -/
def termPutsWrong : ChangeSpec := { name := "termPuts", fn := fun _ => fun
  | [d1, d2, d3, d4, d5] => { results := [.lit (.bool false)], args := [d1, d2, d3, d4, d5] }
  | _ => none }
def TermPutsWrongFalsely : Prop := termPutsRow.holds Tryd.pinned (OpenSpec.ofChange termPutsWrong)

/- THE SECOND FORM. 'bulk': how many values and letters a reading holds, each counted each time it is reached (what is shared counts as often as it is met; a slice's spare places count too). A statement '..UptoSaid' is the law's where the arguments, and the package variables that the reading takes, are together of bulk at most 1048576: NARROWER than '..Said'. Prove '..Said' where nothing that the law and all that it calls make is longer than what came in: it says more and counts as full. Else prove '..UptoSaid'. A law counts once. -/
mutual
def uptoBulk {H : Type} : DataW H → Nat
  | .lit (.string bytes) => bytes.length + 1
  | .lit _ => 1
  | .nil => 1
  | .ptr d => uptoBulk d + 1
  | .slice elems spare => uptoBulkAll elems + uptoBulkAll spare + 1
  | .agg parts => uptoBulkAll parts + 1
  | .iface _ d => uptoBulk d + 1
  | .map entries => uptoBulkEntries entries + 1
  | .held _ => 1
def uptoBulkAll {H : Type} : List (DataW H) → Nat
  | [] => 0
  | d :: r => uptoBulk d + uptoBulkAll r
def uptoBulkEntries {H : Type} : List (Lit × DataW H) → Nat
  | [] => 0
  | x :: r => uptoBulkEntry x + uptoBulkEntries r
def uptoBulkEntry {H : Type} : Lit × DataW H → Nat
  | (.string bytes, d) => bytes.length + uptoBulk d + 1
  | (_, d) => uptoBulk d + 1
 end
def uptoSmall : (H : Type) → List (DataW H) → Bool := fun _ ds => decide (uptoBulkAll ds ≤ 1048576)
def OpenSpec.upto (s : _root_.Go.ChangeSpec) : _root_.Go.OpenSpec := { _root_.Go.OpenSpec.ofChange s with cond := some uptoSmall }

/-- 'heartwoodlaw01.LexNames', WHERE WHAT IT READS IS OF BULK AT MOST 1048576: true; the input reads as it did. -/
def lexNamesUptoRow : OpenClaim := { program := "ythbcfcbonmphfaadoor", sum := "6555d64a2f984481ab50be785f4a838662d932d2acec3254ca37d3cd1f1dbd68", func := "heartwood/heartwoodlaw01.LexNames", spec := "lexNames", named := ["heartwood/lex.pairs"], apart := false, laid := [("heartwood/lex.pairs", laid_heartwood_lex_pairs)], narrowed := true }
def LexNamesUptoSaid : Prop := lexNamesUptoRow.holds Tryd.pinned (OpenSpec.upto lexNamesSpec)

/-- 'heartwoodlaw01.LexTokens', WHERE WHAT IT READS IS OF BULK AT MOST 1048576: true; the input reads as it did. -/
def lexTokensUptoRow : OpenClaim := { program := "ythbcfcbonmphfaadoor", sum := "6555d64a2f984481ab50be785f4a838662d932d2acec3254ca37d3cd1f1dbd68", func := "heartwood/heartwoodlaw01.LexTokens", spec := "lexTokens", named := ["heartwood/lex.pairs"], apart := false, laid := [("heartwood/lex.pairs", laid_heartwood_lex_pairs)], narrowed := true }
def LexTokensUptoSaid : Prop := lexTokensUptoRow.holds Tryd.pinned (OpenSpec.upto lexTokensSpec)

/-- 'heartwoodlaw01.LexJoins', WHERE WHAT IT READS IS OF BULK AT MOST 1048576: true; the input reads as it did. -/
def lexJoinsUptoRow : OpenClaim := { program := "ythbcfcbonmphfaadoor", sum := "6555d64a2f984481ab50be785f4a838662d932d2acec3254ca37d3cd1f1dbd68", func := "heartwood/heartwoodlaw01.LexJoins", spec := "lexJoins", unfollowed := true, recurses := true, named := ["heartwood/lex.pairs"], apart := false, laid := [("heartwood/lex.pairs", laid_heartwood_lex_pairs)], narrowed := true }
def LexJoinsUptoSaid : Prop := lexJoinsUptoRow.holds Tryd.pinned (OpenSpec.upto lexJoinsSpec)

/-- 'heartwoodlaw01.LexBack', WHERE WHAT IT READS IS OF BULK AT MOST 1048576: true; the input reads as it did. -/
def lexBackUptoRow : OpenClaim := { program := "ythbcfcbonmphfaadoor", sum := "6555d64a2f984481ab50be785f4a838662d932d2acec3254ca37d3cd1f1dbd68", func := "heartwood/heartwoodlaw01.LexBack", spec := "lexBack", unfollowed := true, recurses := true, named := ["heartwood/lex.pairs"], apart := false, laid := [("heartwood/lex.pairs", laid_heartwood_lex_pairs)], narrowed := true }
def LexBackUptoSaid : Prop := lexBackUptoRow.holds Tryd.pinned (OpenSpec.upto lexBackSpec)

/-- 'heartwoodlaw01.LexPlaces', WHERE WHAT IT READS IS OF BULK AT MOST 1048576: true; the input reads as it did. -/
def lexPlacesUptoRow : OpenClaim := { program := "ythbcfcbonmphfaadoor", sum := "6555d64a2f984481ab50be785f4a838662d932d2acec3254ca37d3cd1f1dbd68", func := "heartwood/heartwoodlaw01.LexPlaces", spec := "lexPlaces", inPlace := ["internal/abi.NoEscape"], recurses := true, named := ["heartwood/lex.pairs"], apart := false, laid := [("heartwood/lex.pairs", laid_heartwood_lex_pairs)], narrowed := true }
def LexPlacesUptoSaid : Prop := lexPlacesUptoRow.holds Tryd.pinned (OpenSpec.upto lexPlacesSpec)

/-- 'heartwoodlaw02.TermPaths', WHERE WHAT IT READS IS OF BULK AT MOST 1048576: true; the input reads as it did. -/
def termPathsUptoRow : OpenClaim := { program := "ythbcfcbonmphfaadoor", sum := "6555d64a2f984481ab50be785f4a838662d932d2acec3254ca37d3cd1f1dbd68", func := "heartwood/heartwoodlaw02.TermPaths", spec := "termPaths", inPlace := ["internal/abi.NoEscape", "internal/bytealg.MakeNoZero"], unfollowed := true, recurses := true, named := ["heartwood/lex.pairs"], loops := true, apart := false, laid := [("heartwood/lex.pairs", laid_heartwood_lex_pairs)], narrowed := true }
def TermPathsUptoSaid : Prop := termPathsUptoRow.holds Tryd.pinned (OpenSpec.upto termPathsSpec)

/-- 'heartwoodlaw02.TermOrder', WHERE WHAT IT READS IS OF BULK AT MOST 1048576: true; the input reads as it did. -/
def termOrderUptoRow : OpenClaim := { program := "ythbcfcbonmphfaadoor", sum := "6555d64a2f984481ab50be785f4a838662d932d2acec3254ca37d3cd1f1dbd68", func := "heartwood/heartwoodlaw02.TermOrder", spec := "termOrder", inPlace := ["internal/abi.NoEscape", "internal/bytealg.MakeNoZero", "internal/bytealg.abigen_runtime_cmpstring"], unfollowed := true, recurses := true, named := ["heartwood/lex.pairs"], loops := true, apart := false, laid := [("heartwood/lex.pairs", laid_heartwood_lex_pairs)], narrowed := true }
def TermOrderUptoSaid : Prop := termOrderUptoRow.holds Tryd.pinned (OpenSpec.upto termOrderSpec)

/-- 'heartwoodlaw02.TermTexts', WHERE WHAT IT READS IS OF BULK AT MOST 1048576: true; the input reads as it did. -/
def termTextsUptoRow : OpenClaim := { program := "ythbcfcbonmphfaadoor", sum := "6555d64a2f984481ab50be785f4a838662d932d2acec3254ca37d3cd1f1dbd68", func := "heartwood/heartwoodlaw02.TermTexts", spec := "termTexts", inPlace := ["internal/abi.NoEscape", "internal/bytealg.MakeNoZero"], unfollowed := true, recurses := true, named := ["heartwood/lex.pairs"], loops := true, apart := false, laid := [("heartwood/lex.pairs", laid_heartwood_lex_pairs)], narrowed := true }
def TermTextsUptoSaid : Prop := termTextsUptoRow.holds Tryd.pinned (OpenSpec.upto termTextsSpec)

/-- 'heartwoodlaw02.TermSignatures', WHERE WHAT IT READS IS OF BULK AT MOST 1048576: true; the input reads as it did. -/
def termSignaturesUptoRow : OpenClaim := { program := "ythbcfcbonmphfaadoor", sum := "6555d64a2f984481ab50be785f4a838662d932d2acec3254ca37d3cd1f1dbd68", func := "heartwood/heartwoodlaw02.TermSignatures", spec := "termSignatures", inPlace := ["internal/abi.NoEscape", "internal/bytealg.MakeNoZero"], unfollowed := true, recurses := true, named := ["heartwood/lex.pairs"], apart := false, laid := [("heartwood/lex.pairs", laid_heartwood_lex_pairs)], narrowed := true }
def TermSignaturesUptoSaid : Prop := termSignaturesUptoRow.holds Tryd.pinned (OpenSpec.upto termSignaturesSpec)

/-- 'heartwoodlaw02.TermPuts', WHERE WHAT IT READS IS OF BULK AT MOST 1048576: true; the input reads as it did. -/
def termPutsUptoRow : OpenClaim := { program := "ythbcfcbonmphfaadoor", sum := "6555d64a2f984481ab50be785f4a838662d932d2acec3254ca37d3cd1f1dbd68", func := "heartwood/heartwoodlaw02.TermPuts", spec := "termPuts", inPlace := ["internal/abi.NoEscape", "internal/bytealg.MakeNoZero"], unfollowed := true, recurses := true, named := ["heartwood/lex.pairs"], loops := true, apart := false, laid := [("heartwood/lex.pairs", laid_heartwood_lex_pairs)], narrowed := true }
def TermPutsUptoSaid : Prop := termPutsUptoRow.holds Tryd.pinned (OpenSpec.upto termPutsSpec)

end Rows
end Go.Proofs.YthbcfcbonmphfaaDoor
