/-
  No cell of these rows narrows 'for every input' (looked for: loops, veiled, ifaces, maps, wideKeys, modest, calm, conditions, laid).
  DERIVED. THE GIVEN ROWS OF THIS SEAT. 5 by the template 'for every input the law returns true; each argument reads behind the call as it read before'; 0 by the template 'total and deterministic' (their statements: YtccdmcidfnmnjaaTotals.lean).
  GIVEN WITH THE SEED: the statements are not yours to turn. If you find one false, say at which input.
  Laid BY PROGRAM, IN A SANDBOX (cutbox-rows.mjs): the forced cells as the released guide's own fill.sh prints them over the translation 8201e77d745cf411… (all of the seat's roots in one cut). By AI agents, Wed Nov 11 2026. No macro, syntax, notation, axiom, sorry.
-/
import Derived.Test.YtccdmcidfnmnjaaChecked
import GoSem.Claim
import GoSem.ClaimJoined
import GoSem.ClaimMapViews
import Derived.JoinedTies
import Derived.KernelRfl
namespace Go.Proofs.Ytccdmcidfnmnjaa
/- THE CELL 'sum', in the pinned program and in every row, IS THE sha256 OF THE DUMP (.gsa) THAT YtccdmcidfnmnjaaProg.lean LOADS. Nothing in Lean hashes anything: it is a label: what it is worth is what the hold of that sum in a sandbox is worth. -/
noncomputable def Try.pinned : Pinned := { name := "ytccdmcidfnmnjaa", sum := "8201e77d745cf4118deecd86204de24f9e01993d2eed9937d711cc1b920dc9ee", checked := Try.checked }
namespace Rows
def none {H : Type} : Left H := { results := [], args := [] }

/-- 'stillroomlaw03.NvmActs': WHATEVER THE INPUT: true; the input reads as it did. -/
def nvmActsSpec : ChangeSpec := { name := "nvmActs", fn := fun _ => fun
  | [d1, d2] => { results := [.lit (.bool true)], args := [d1, d2] }
  | _ => none }
def nvmActsRow : OpenClaim := { program := "ytccdmcidfnmnjaa", sum := "8201e77d745cf4118deecd86204de24f9e01993d2eed9937d711cc1b920dc9ee", func := "stillroom/stillroomlaw03.NvmActs", spec := "nvmActs", unfollowed := true, recurses := true, apart := false }
def NvmActsSaid : Prop := nvmActsRow.holds Try.pinned (OpenSpec.ofChange nvmActsSpec)

/-- ITS FALSE NEIGHBOUR: 'it returns false'. Refute it at one input. -/
def nvmActsWrong : ChangeSpec := { name := "nvmActs", fn := fun _ => fun
  | [d1, d2] => { results := [.lit (.bool false)], args := [d1, d2] }
  | _ => none }
def NvmActsWrongFalsely : Prop := nvmActsRow.holds Try.pinned (OpenSpec.ofChange nvmActsWrong)

/-- 'stillroomlaw04.SureDurable': WHATEVER THE INPUT: true; the input reads as it did. -/
def sureDurableSpec : ChangeSpec := { name := "sureDurable", fn := fun _ => fun
  | [d1, d2, d3] => { results := [.lit (.bool true)], args := [d1, d2, d3] }
  | _ => none }
def sureDurableRow : OpenClaim := { program := "ytccdmcidfnmnjaa", sum := "8201e77d745cf4118deecd86204de24f9e01993d2eed9937d711cc1b920dc9ee", func := "stillroom/stillroomlaw04.SureDurable", spec := "sureDurable", unfollowed := true, recurses := true, apart := false }
def SureDurableSaid : Prop := sureDurableRow.holds Try.pinned (OpenSpec.ofChange sureDurableSpec)

/-- ITS FALSE NEIGHBOUR: 'it returns false'. Refute it at one input. -/
def sureDurableWrong : ChangeSpec := { name := "sureDurable", fn := fun _ => fun
  | [d1, d2, d3] => { results := [.lit (.bool false)], args := [d1, d2, d3] }
  | _ => none }
def SureDurableWrongFalsely : Prop := sureDurableRow.holds Try.pinned (OpenSpec.ofChange sureDurableWrong)

/-- 'stillroomlaw04.SureClears': WHATEVER THE INPUT: true; the input reads as it did. -/
def sureClearsSpec : ChangeSpec := { name := "sureClears", fn := fun _ => fun
  | [d1, d2, d3] => { results := [.lit (.bool true)], args := [d1, d2, d3] }
  | _ => none }
def sureClearsRow : OpenClaim := { program := "ytccdmcidfnmnjaa", sum := "8201e77d745cf4118deecd86204de24f9e01993d2eed9937d711cc1b920dc9ee", func := "stillroom/stillroomlaw04.SureClears", spec := "sureClears", unfollowed := true, recurses := true, apart := false }
def SureClearsSaid : Prop := sureClearsRow.holds Try.pinned (OpenSpec.ofChange sureClearsSpec)

/-- ITS FALSE NEIGHBOUR: 'it returns false'. Refute it at one input. -/
def sureClearsWrong : ChangeSpec := { name := "sureClears", fn := fun _ => fun
  | [d1, d2, d3] => { results := [.lit (.bool false)], args := [d1, d2, d3] }
  | _ => none }
def SureClearsWrongFalsely : Prop := sureClearsRow.holds Try.pinned (OpenSpec.ofChange sureClearsWrong)

/-- 'stillroomlaw04.SureAlone': WHATEVER THE INPUT: true; the input reads as it did. -/
def sureAloneSpec : ChangeSpec := { name := "sureAlone", fn := fun _ => fun
  | [d] => { results := [.lit (.bool true)], args := [d] }
  | _ => none }
def sureAloneRow : OpenClaim := { program := "ytccdmcidfnmnjaa", sum := "8201e77d745cf4118deecd86204de24f9e01993d2eed9937d711cc1b920dc9ee", func := "stillroom/stillroomlaw04.SureAlone", spec := "sureAlone", unfollowed := true, recurses := true, apart := false }
def SureAloneSaid : Prop := sureAloneRow.holds Try.pinned (OpenSpec.ofChange sureAloneSpec)

/-- ITS FALSE NEIGHBOUR: 'it returns false'. Refute it at one input. -/
def sureAloneWrong : ChangeSpec := { name := "sureAlone", fn := fun _ => fun
  | [d] => { results := [.lit (.bool false)], args := [d] }
  | _ => none }
def SureAloneWrongFalsely : Prop := sureAloneRow.holds Try.pinned (OpenSpec.ofChange sureAloneWrong)

/-- 'stillroomlaw04.SureBack': WHATEVER THE INPUT: true; the input reads as it did. -/
def sureBackSpec : ChangeSpec := { name := "sureBack", fn := fun _ => fun
  | [d1, d2, d3] => { results := [.lit (.bool true)], args := [d1, d2, d3] }
  | _ => none }
def sureBackRow : OpenClaim := { program := "ytccdmcidfnmnjaa", sum := "8201e77d745cf4118deecd86204de24f9e01993d2eed9937d711cc1b920dc9ee", func := "stillroom/stillroomlaw04.SureBack", spec := "sureBack", unfollowed := true, recurses := true, apart := false }
def SureBackSaid : Prop := sureBackRow.holds Try.pinned (OpenSpec.ofChange sureBackSpec)

/-- ITS FALSE NEIGHBOUR: 'it returns false'. Refute it at one input. -/
def sureBackWrong : ChangeSpec := { name := "sureBack", fn := fun _ => fun
  | [d1, d2, d3] => { results := [.lit (.bool false)], args := [d1, d2, d3] }
  | _ => none }
def SureBackWrongFalsely : Prop := sureBackRow.holds Try.pinned (OpenSpec.ofChange sureBackWrong)

/- THE SECOND FORM. 'bulk': how many values and letters a reading holds, each counted each time it is reached (what is shared counts as often as it is met; a slice's spare places count too). A statement '..UptoSaid' is the law's where the arguments, and the package variables that the reading takes, are together of bulk at most 1048576: NARROWER than '..Said'. Prove '..Said' where nothing that the law and all that it calls make is longer than what came in: it says more and counts as full. Else prove '..UptoSaid'. A law counts once. -/
mutual
def uptoBulk {H : Type} : DataW H → Nat
  | .lit (.string bytes) => bytes.length + 1
  | .lit _ => 1
  | .nil => 1
  | .ptr d => uptoBulk d + 1
  | .slice elems spare => uptoBulkAll elems + uptoBulkAll spare + 1
  | .agg parts => uptoBulkAll parts + 1
  | .iface _ d => uptoBulk d + 1
  | .map entries => uptoBulkEntries entries + 1
  | .held _ => 1
def uptoBulkAll {H : Type} : List (DataW H) → Nat
  | [] => 0
  | d :: r => uptoBulk d + uptoBulkAll r
def uptoBulkEntries {H : Type} : List (Lit × DataW H) → Nat
  | [] => 0
  | x :: r => uptoBulkEntry x + uptoBulkEntries r
def uptoBulkEntry {H : Type} : Lit × DataW H → Nat
  | (.string bytes, d) => bytes.length + uptoBulk d + 1
  | (_, d) => uptoBulk d + 1
 end
def uptoSmall : (H : Type) → List (DataW H) → Bool := fun _ ds => decide (uptoBulkAll ds ≤ 1048576)
def OpenSpec.upto (s : _root_.Go.ChangeSpec) : _root_.Go.OpenSpec := { _root_.Go.OpenSpec.ofChange s with cond := some uptoSmall }

/-- 'stillroomlaw03.NvmActs', WHERE WHAT IT READS IS OF BULK AT MOST 1048576: true; the input reads as it did. -/
def nvmActsUptoRow : OpenClaim := { program := "ytccdmcidfnmnjaa", sum := "8201e77d745cf4118deecd86204de24f9e01993d2eed9937d711cc1b920dc9ee", func := "stillroom/stillroomlaw03.NvmActs", spec := "nvmActs", unfollowed := true, recurses := true, apart := false, narrowed := true }
def NvmActsUptoSaid : Prop := nvmActsUptoRow.holds Try.pinned (OpenSpec.upto nvmActsSpec)

/-- 'stillroomlaw04.SureDurable', WHERE WHAT IT READS IS OF BULK AT MOST 1048576: true; the input reads as it did. -/
def sureDurableUptoRow : OpenClaim := { program := "ytccdmcidfnmnjaa", sum := "8201e77d745cf4118deecd86204de24f9e01993d2eed9937d711cc1b920dc9ee", func := "stillroom/stillroomlaw04.SureDurable", spec := "sureDurable", unfollowed := true, recurses := true, apart := false, narrowed := true }
def SureDurableUptoSaid : Prop := sureDurableUptoRow.holds Try.pinned (OpenSpec.upto sureDurableSpec)

/-- 'stillroomlaw04.SureClears', WHERE WHAT IT READS IS OF BULK AT MOST 1048576: true; the input reads as it did. -/
def sureClearsUptoRow : OpenClaim := { program := "ytccdmcidfnmnjaa", sum := "8201e77d745cf4118deecd86204de24f9e01993d2eed9937d711cc1b920dc9ee", func := "stillroom/stillroomlaw04.SureClears", spec := "sureClears", unfollowed := true, recurses := true, apart := false, narrowed := true }
def SureClearsUptoSaid : Prop := sureClearsUptoRow.holds Try.pinned (OpenSpec.upto sureClearsSpec)

/-- 'stillroomlaw04.SureAlone', WHERE WHAT IT READS IS OF BULK AT MOST 1048576: true; the input reads as it did. -/
def sureAloneUptoRow : OpenClaim := { program := "ytccdmcidfnmnjaa", sum := "8201e77d745cf4118deecd86204de24f9e01993d2eed9937d711cc1b920dc9ee", func := "stillroom/stillroomlaw04.SureAlone", spec := "sureAlone", unfollowed := true, recurses := true, apart := false, narrowed := true }
def SureAloneUptoSaid : Prop := sureAloneUptoRow.holds Try.pinned (OpenSpec.upto sureAloneSpec)

/-- 'stillroomlaw04.SureBack', WHERE WHAT IT READS IS OF BULK AT MOST 1048576: true; the input reads as it did. -/
def sureBackUptoRow : OpenClaim := { program := "ytccdmcidfnmnjaa", sum := "8201e77d745cf4118deecd86204de24f9e01993d2eed9937d711cc1b920dc9ee", func := "stillroom/stillroomlaw04.SureBack", spec := "sureBack", unfollowed := true, recurses := true, apart := false, narrowed := true }
def SureBackUptoSaid : Prop := sureBackUptoRow.holds Try.pinned (OpenSpec.upto sureBackSpec)

end Rows
end Go.Proofs.Ytccdmcidfnmnjaa
