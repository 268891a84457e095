
/- A job that came in, opened. -/
import Derived.Test.YtmelmiookkeoaaaDoorMem

import Derived.ProofKit

import Derived.OpenShut

import Derived.Deep.Fields

namespace Go.Proofs.YtmelmiookkeoaaaDoor

open Go.RowKit

section

open Go.ChangeShapes Go.WideShapes Go.ChangeAt Go.Deep

variable {H : Type} {enc : TypeId × Value → H} {w : World} {base b0 : Nat} {spare : Nat → Bool} {held : Bool} {r : Reach} {v : Value} {d : DataW H} {p : List MemPlace}

/-- A field of one cell, of a struct whose fields all are. -/
theorem field_one {P : Program} {fs : Array Field} {n : Nat} {cs : List Value} {xs : List (DataW H × List MemPlace)} (hone : oneCellFields P fs = true)
    (hg : ∀ (i : Nat) (f : Field), fs[i]? = some f → DataW.trod enc P w base spare held n f.type ((cs.drop f.offset).take (P.cellsOf f.type)) = xs[i]?) (i : Nat) (f : Field) (hf : fs[i]? = some f) (c : Value) (hc : cs[i]? = some c) :
    DataW.trod enc P w base spare held n f.type [c] = xs[i]? := by
  obtain ⟨o, k⟩ := hone_of hone i f hf
  have hi := (List.getElem?_eq_some_iff.1 hc).1
  have h := hg i f hf
  rw [o, k, List.drop_eq_getElem_cons hi, (List.getElem?_eq_some_iff.1 hc).2, List.take_succ_cons, List.take_zero] at h
  exact h
/-- A slice of words by its one cell. -/
theorem words_cell_in {n : Nat} {c : Value} {y : DataW H × List MemPlace} (h : DataW.trod enc Tryd.prog w base (fun _ => true) held n 31 [c] = some y) : ∃ A len cap zs, c = .slice A len cap ∧ IsInts .u64 w (.slice A len cap) zs := by
  rcases open_ints Tryd.underlying31 Tryd.underlying40 (by kernel_rfl) h with ⟨hcs, _⟩ | ⟨x, l, c', zs, hcs, _, hl, hm, hz, _, hcell, hwz⟩
  · simp only [List.cons.injEq, and_true] at hcs
    exact ⟨none, 0, 0, [], hcs, IsInts.nil _ _⟩
  · simp only [List.cons.injEq, and_true] at hcs
    exact ⟨_, _, _, zs.take l, hcs, IsInts.of_open hl hm (by simpa using hz) hcell hwz⟩


end

end Go.Proofs.YtmelmiookkeoaaaDoor
