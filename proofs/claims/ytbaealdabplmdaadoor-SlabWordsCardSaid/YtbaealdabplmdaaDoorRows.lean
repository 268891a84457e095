/-
  NARROWER THAN 'FOR EVERY INPUT', by the rows' own cells (each row's printed sentence says how): SlabTells: laid · SlabTakes: laid · SlabFills: laid · SlabWords: laid · SlabOrder: laid.
  DERIVED. THE GIVEN ROWS OF THIS SEAT. 5 by the template 'for every input the law returns true; each argument reads behind the call as it read before'; 0 by the template 'total and deterministic' (their statements: YtbaealdabplmdaaDoorTotals.lean).
  GIVEN WITH THE SEED: the statements are not yours to turn. If you find one false, say at which input.
  Laid BY PROGRAM, IN A SANDBOX (cutbox-rows.mjs): the forced cells as the released guide's own fill.sh prints them over the translation 5b61000fb05fe2c9… (all of the seat's roots in one cut). By AI agents, Wed Nov 11 2026. No macro, syntax, notation, axiom, sorry.
-/
import Derived.Test.YtbaealdabplmdaaDoorChecked
import GoSem.Claim
import GoSem.ClaimJoined
import GoSem.ClaimMapViews
import Derived.JoinedTies
import Derived.KernelRfl
namespace Go.Proofs.YtbaealdabplmdaaDoor
/- THE CELL 'sum', in the pinned program and in every row, IS THE sha256 OF THE DUMP (.gsa) THAT YtbaealdabplmdaaDoorProg.lean LOADS. Nothing in Lean hashes anything: it is a label: what it is worth is what the hold of that sum in a sandbox is worth. -/
noncomputable def Tryd.pinned : Pinned := { name := "ytbaealdabplmdaadoor", sum := "5b61000fb05fe2c9e4f75d6e027d6bfa25db98182b1c635b7f414d95e5a87d6f", checked := Tryd.checked }
namespace Rows
def none {H : Type} : Left H := { results := [], args := [] }

/- WHAT THE LISTED PACKAGE-LEVEL VARIABLES READ AS WHEN THE CALL BEGINS. Each datum BY PROGRAM (the guide's laid-datum.mjs) off the statement by which the dump's own 'gosem.cut.vars' lays the variable. In a bare row this is a premise. The card (YtbaealdabplmdaaDoorCards.lean) ties it to the program's text. -/
def laid_math_bits_deBruijn64tab {H : Type} : DataW H := .agg [.lit (.int .u8 0), .lit (.int .u8 1), .lit (.int .u8 56), .lit (.int .u8 2), .lit (.int .u8 57), .lit (.int .u8 49), .lit (.int .u8 28), .lit (.int .u8 3), .lit (.int .u8 61), .lit (.int .u8 58), .lit (.int .u8 42), .lit (.int .u8 50), .lit (.int .u8 38), .lit (.int .u8 29), .lit (.int .u8 17), .lit (.int .u8 4), .lit (.int .u8 62), .lit (.int .u8 47), .lit (.int .u8 59), .lit (.int .u8 36), .lit (.int .u8 45), .lit (.int .u8 43), .lit (.int .u8 51), .lit (.int .u8 22), .lit (.int .u8 53), .lit (.int .u8 39), .lit (.int .u8 33), .lit (.int .u8 30), .lit (.int .u8 24), .lit (.int .u8 18), .lit (.int .u8 12), .lit (.int .u8 5), .lit (.int .u8 63), .lit (.int .u8 55), .lit (.int .u8 48), .lit (.int .u8 27), .lit (.int .u8 60), .lit (.int .u8 41), .lit (.int .u8 37), .lit (.int .u8 16), .lit (.int .u8 46), .lit (.int .u8 35), .lit (.int .u8 44), .lit (.int .u8 21), .lit (.int .u8 52), .lit (.int .u8 32), .lit (.int .u8 23), .lit (.int .u8 11), .lit (.int .u8 54), .lit (.int .u8 26), .lit (.int .u8 40), .lit (.int .u8 15), .lit (.int .u8 34), .lit (.int .u8 20), .lit (.int .u8 31), .lit (.int .u8 10), .lit (.int .u8 25), .lit (.int .u8 14), .lit (.int .u8 19), .lit (.int .u8 9), .lit (.int .u8 13), .lit (.int .u8 8), .lit (.int .u8 7), .lit (.int .u8 6)]

/-- 'stillroomlaw06.SlabTells': WHATEVER THE INPUT: true; the input reads as it did. -/
def slabTellsSpec : ChangeSpec := { name := "slabTells", fn := fun _ => fun
  | [d1, d2, d3] => { results := [.lit (.bool true)], args := [d1, d2, d3] }
  | _ => none }
def slabTellsRow : OpenClaim := { program := "ytbaealdabplmdaadoor", sum := "5b61000fb05fe2c9e4f75d6e027d6bfa25db98182b1c635b7f414d95e5a87d6f", func := "stillroom/stillroomlaw06.SlabTells", spec := "slabTells", named := ["math/bits.deBruijn64tab"], apart := false, laid := [("math/bits.deBruijn64tab", laid_math_bits_deBruijn64tab)] }
def SlabTellsSaid : Prop := slabTellsRow.holds Tryd.pinned (OpenSpec.ofChange slabTellsSpec)

/-- ITS FALSE NEIGHBOUR: 'it returns false'. Refute it at one input. -/
def slabTellsWrong : ChangeSpec := { name := "slabTells", fn := fun _ => fun
  | [d1, d2, d3] => { results := [.lit (.bool false)], args := [d1, d2, d3] }
  | _ => none }
def SlabTellsWrongFalsely : Prop := slabTellsRow.holds Tryd.pinned (OpenSpec.ofChange slabTellsWrong)

/-- 'stillroomlaw06.SlabTakes': WHATEVER THE INPUT: true; the input reads as it did. -/
def slabTakesSpec : ChangeSpec := { name := "slabTakes", fn := fun _ => fun
  | [d1, d2, d3] => { results := [.lit (.bool true)], args := [d1, d2, d3] }
  | _ => none }
def slabTakesRow : OpenClaim := { program := "ytbaealdabplmdaadoor", sum := "5b61000fb05fe2c9e4f75d6e027d6bfa25db98182b1c635b7f414d95e5a87d6f", func := "stillroom/stillroomlaw06.SlabTakes", spec := "slabTakes", named := ["math/bits.deBruijn64tab"], apart := false, laid := [("math/bits.deBruijn64tab", laid_math_bits_deBruijn64tab)] }
def SlabTakesSaid : Prop := slabTakesRow.holds Tryd.pinned (OpenSpec.ofChange slabTakesSpec)

/-- ITS FALSE NEIGHBOUR: 'it returns false'. Refute it at one input. -/
def slabTakesWrong : ChangeSpec := { name := "slabTakes", fn := fun _ => fun
  | [d1, d2, d3] => { results := [.lit (.bool false)], args := [d1, d2, d3] }
  | _ => none }
def SlabTakesWrongFalsely : Prop := slabTakesRow.holds Tryd.pinned (OpenSpec.ofChange slabTakesWrong)

/-- 'stillroomlaw06.SlabFills': WHATEVER THE INPUT: true; the input reads as it did. -/
def slabFillsSpec : ChangeSpec := { name := "slabFills", fn := fun _ => fun
  | [d1, d2] => { results := [.lit (.bool true)], args := [d1, d2] }
  | _ => none }
def slabFillsRow : OpenClaim := { program := "ytbaealdabplmdaadoor", sum := "5b61000fb05fe2c9e4f75d6e027d6bfa25db98182b1c635b7f414d95e5a87d6f", func := "stillroom/stillroomlaw06.SlabFills", spec := "slabFills", named := ["math/bits.deBruijn64tab"], apart := false, laid := [("math/bits.deBruijn64tab", laid_math_bits_deBruijn64tab)] }
def SlabFillsSaid : Prop := slabFillsRow.holds Tryd.pinned (OpenSpec.ofChange slabFillsSpec)

/-- ITS FALSE NEIGHBOUR: 'it returns false'. Refute it at one input. -/
def slabFillsWrong : ChangeSpec := { name := "slabFills", fn := fun _ => fun
  | [d1, d2] => { results := [.lit (.bool false)], args := [d1, d2] }
  | _ => none }
def SlabFillsWrongFalsely : Prop := slabFillsRow.holds Tryd.pinned (OpenSpec.ofChange slabFillsWrong)

/-- 'stillroomlaw06.SlabWords': WHATEVER THE INPUT: true; the input reads as it did. -/
def slabWordsSpec : ChangeSpec := { name := "slabWords", fn := fun _ => fun
  | [d1, d2] => { results := [.lit (.bool true)], args := [d1, d2] }
  | _ => none }
def slabWordsRow : OpenClaim := { program := "ytbaealdabplmdaadoor", sum := "5b61000fb05fe2c9e4f75d6e027d6bfa25db98182b1c635b7f414d95e5a87d6f", func := "stillroom/stillroomlaw06.SlabWords", spec := "slabWords", named := ["math/bits.deBruijn64tab"], apart := false, laid := [("math/bits.deBruijn64tab", laid_math_bits_deBruijn64tab)] }
def SlabWordsSaid : Prop := slabWordsRow.holds Tryd.pinned (OpenSpec.ofChange slabWordsSpec)

/-- ITS FALSE NEIGHBOUR: 'it returns false'. Refute it at one input. -/
def slabWordsWrong : ChangeSpec := { name := "slabWords", fn := fun _ => fun
  | [d1, d2] => { results := [.lit (.bool false)], args := [d1, d2] }
  | _ => none }
def SlabWordsWrongFalsely : Prop := slabWordsRow.holds Tryd.pinned (OpenSpec.ofChange slabWordsWrong)

/-- 'stillroomlaw06.SlabOrder': WHATEVER THE INPUT: true; the input reads as it did. -/
def slabOrderSpec : ChangeSpec := { name := "slabOrder", fn := fun _ => fun
  | [d] => { results := [.lit (.bool true)], args := [d] }
  | _ => none }
def slabOrderRow : OpenClaim := { program := "ytbaealdabplmdaadoor", sum := "5b61000fb05fe2c9e4f75d6e027d6bfa25db98182b1c635b7f414d95e5a87d6f", func := "stillroom/stillroomlaw06.SlabOrder", spec := "slabOrder", named := ["math/bits.deBruijn64tab"], apart := false, laid := [("math/bits.deBruijn64tab", laid_math_bits_deBruijn64tab)] }
def SlabOrderSaid : Prop := slabOrderRow.holds Tryd.pinned (OpenSpec.ofChange slabOrderSpec)

/-- ITS FALSE NEIGHBOUR: 'it returns false'. Refute it at one input. -/
def slabOrderWrong : ChangeSpec := { name := "slabOrder", fn := fun _ => fun
  | [d] => { results := [.lit (.bool false)], args := [d] }
  | _ => none }
def SlabOrderWrongFalsely : Prop := slabOrderRow.holds Tryd.pinned (OpenSpec.ofChange slabOrderWrong)

/- THE SECOND FORM. 'bulk': how many values and letters a reading holds, each counted each time it is reached (what is shared counts as often as it is met; a slice's spare places count too). A statement '..UptoSaid' is the law's where the arguments, and the package variables that the reading takes, are together of bulk at most 1048576: NARROWER than '..Said'. Prove '..Said' where nothing that the law and all that it calls make is longer than what came in: it says more and counts as full. Else prove '..UptoSaid'. A law counts once. -/
mutual
def uptoBulk {H : Type} : DataW H → Nat
  | .lit (.string bytes) => bytes.length + 1
  | .lit _ => 1
  | .nil => 1
  | .ptr d => uptoBulk d + 1
  | .slice elems spare => uptoBulkAll elems + uptoBulkAll spare + 1
  | .agg parts => uptoBulkAll parts + 1
  | .iface _ d => uptoBulk d + 1
  | .map entries => uptoBulkEntries entries + 1
  | .held _ => 1
def uptoBulkAll {H : Type} : List (DataW H) → Nat
  | [] => 0
  | d :: r => uptoBulk d + uptoBulkAll r
def uptoBulkEntries {H : Type} : List (Lit × DataW H) → Nat
  | [] => 0
  | x :: r => uptoBulkEntry x + uptoBulkEntries r
def uptoBulkEntry {H : Type} : Lit × DataW H → Nat
  | (.string bytes, d) => bytes.length + uptoBulk d + 1
  | (_, d) => uptoBulk d + 1
 end
def uptoSmall : (H : Type) → List (DataW H) → Bool := fun _ ds => decide (uptoBulkAll ds ≤ 1048576)
def OpenSpec.upto (s : _root_.Go.ChangeSpec) : _root_.Go.OpenSpec := { _root_.Go.OpenSpec.ofChange s with cond := some uptoSmall }

/-- 'stillroomlaw06.SlabTells', WHERE WHAT IT READS IS OF BULK AT MOST 1048576: true; the input reads as it did. -/
def slabTellsUptoRow : OpenClaim := { program := "ytbaealdabplmdaadoor", sum := "5b61000fb05fe2c9e4f75d6e027d6bfa25db98182b1c635b7f414d95e5a87d6f", func := "stillroom/stillroomlaw06.SlabTells", spec := "slabTells", named := ["math/bits.deBruijn64tab"], apart := false, laid := [("math/bits.deBruijn64tab", laid_math_bits_deBruijn64tab)], narrowed := true }
def SlabTellsUptoSaid : Prop := slabTellsUptoRow.holds Tryd.pinned (OpenSpec.upto slabTellsSpec)

/-- 'stillroomlaw06.SlabTakes', WHERE WHAT IT READS IS OF BULK AT MOST 1048576: true; the input reads as it did. -/
def slabTakesUptoRow : OpenClaim := { program := "ytbaealdabplmdaadoor", sum := "5b61000fb05fe2c9e4f75d6e027d6bfa25db98182b1c635b7f414d95e5a87d6f", func := "stillroom/stillroomlaw06.SlabTakes", spec := "slabTakes", named := ["math/bits.deBruijn64tab"], apart := false, laid := [("math/bits.deBruijn64tab", laid_math_bits_deBruijn64tab)], narrowed := true }
def SlabTakesUptoSaid : Prop := slabTakesUptoRow.holds Tryd.pinned (OpenSpec.upto slabTakesSpec)

/-- 'stillroomlaw06.SlabFills', WHERE WHAT IT READS IS OF BULK AT MOST 1048576: true; the input reads as it did. -/
def slabFillsUptoRow : OpenClaim := { program := "ytbaealdabplmdaadoor", sum := "5b61000fb05fe2c9e4f75d6e027d6bfa25db98182b1c635b7f414d95e5a87d6f", func := "stillroom/stillroomlaw06.SlabFills", spec := "slabFills", named := ["math/bits.deBruijn64tab"], apart := false, laid := [("math/bits.deBruijn64tab", laid_math_bits_deBruijn64tab)], narrowed := true }
def SlabFillsUptoSaid : Prop := slabFillsUptoRow.holds Tryd.pinned (OpenSpec.upto slabFillsSpec)

/-- 'stillroomlaw06.SlabWords', WHERE WHAT IT READS IS OF BULK AT MOST 1048576: true; the input reads as it did. -/
def slabWordsUptoRow : OpenClaim := { program := "ytbaealdabplmdaadoor", sum := "5b61000fb05fe2c9e4f75d6e027d6bfa25db98182b1c635b7f414d95e5a87d6f", func := "stillroom/stillroomlaw06.SlabWords", spec := "slabWords", named := ["math/bits.deBruijn64tab"], apart := false, laid := [("math/bits.deBruijn64tab", laid_math_bits_deBruijn64tab)], narrowed := true }
def SlabWordsUptoSaid : Prop := slabWordsUptoRow.holds Tryd.pinned (OpenSpec.upto slabWordsSpec)

/-- 'stillroomlaw06.SlabOrder', WHERE WHAT IT READS IS OF BULK AT MOST 1048576: true; the input reads as it did. -/
def slabOrderUptoRow : OpenClaim := { program := "ytbaealdabplmdaadoor", sum := "5b61000fb05fe2c9e4f75d6e027d6bfa25db98182b1c635b7f414d95e5a87d6f", func := "stillroom/stillroomlaw06.SlabOrder", spec := "slabOrder", named := ["math/bits.deBruijn64tab"], apart := false, laid := [("math/bits.deBruijn64tab", laid_math_bits_deBruijn64tab)], narrowed := true }
def SlabOrderUptoSaid : Prop := slabOrderUptoRow.holds Tryd.pinned (OpenSpec.upto slabOrderSpec)

end Rows
end Go.Proofs.YtbaealdabplmdaaDoor
