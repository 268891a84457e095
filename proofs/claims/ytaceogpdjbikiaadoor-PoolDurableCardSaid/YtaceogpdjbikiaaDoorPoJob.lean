
/- An act, and an end, that came in by value, opened. -/
import Derived.Test.YtaceogpdjbikiaaDoorPoOp
import Derived.ProofKit
import Derived.OpenShut
import Derived.Deep.Fields
namespace Go.Proofs.YtaceogpdjbikiaaDoor

open Go.RowKit

section

open Go.ChangeShapes Go.WideShapes Go.ChangeAt Go.Deep

variable {H : Type} {enc : TypeId × Value → H} {w : World} {base b0 : Nat} {spare : Nat → Bool} {held : Bool} {r : Reach} {v : Value} {d : DataW H} {p : List MemPlace}

/-- A field of one cell, of a struct whose fields all are. -/
theorem field_one7 {P : Program} {fs : Array Field} {n : Nat} {cs : List Value} {xs : List (DataW H × List MemPlace)} (hone : oneCellFields P fs = true)
    (hg : ∀ (i : Nat) (f : Field), fs[i]? = some f → DataW.trod enc P w base spare held n f.type ((cs.drop f.offset).take (P.cellsOf f.type)) = xs[i]?) (i : Nat) (f : Field) (hf : fs[i]? = some f) (c : Value) (hc : cs[i]? = some c) :
    DataW.trod enc P w base spare held n f.type [c] = xs[i]? := by
  obtain ⟨o, k⟩ := hone_of hone i f hf
  have hi := (List.getElem?_eq_some_iff.1 hc).1
  have h := hg i f hf
  rw [o, k, List.drop_eq_getElem_cons hi, (List.getElem?_eq_some_iff.1 hc).2, List.take_succ_cons, List.take_zero] at h
  exact h
theorem bytes_cell_in {n : Nat} {c : Value} {y : DataW H × List MemPlace} (h : DataW.trod enc Tryd.prog w base (fun _ => true) held n 42 [c] = some y) : ∃ A len cap zs, c = .slice A len cap ∧ IsInts .u8 w (.slice A len cap) zs := by
  rcases open_ints Tryd.underlying42 Tryd.underlying5 (by kernel_rfl) h with ⟨hcs, _⟩ | ⟨x, l, c', zs, hcs, _, hl, hm, hz, _, hcell, hwz⟩
  · simp only [List.cons.injEq, and_true] at hcs
    exact ⟨none, 0, 0, [], hcs, IsInts.nil _ _⟩
  · simp only [List.cons.injEq, and_true] at hcs
    exact ⟨_, _, _, zs.take l, hcs, IsInts.of_open hl hm (by simpa using hz) hcell hwz⟩
theorem byte_in {q : Int} (w0 : (Lit.int .u8 q).wf = true) : ∃ k : Nat, q = (k : Int) ∧ k ≤ 255 := by
  have hk0 : 0 ≤ q ∧ q ≤ 255 := by
    simp [Lit.wf, IntKind.min, IntKind.max, IntKind.signed, IntKind.bits] at w0; omega
  obtain ⟨kk, rfl⟩ := Int.eq_ofNat_of_zero_le hk0.1
  exact ⟨kk, rfl, by omega⟩
theorem cellsAct7 : Tryd.prog.cellsOf 32 = 2 := by kernel_rfl
theorem cellsEnd7 : Tryd.prog.cellsOf 44 = 2 := by kernel_rfl
set_option maxRecDepth 100000 in
theorem open_act7 (hv : Value.okWide Tryd.prog w r b0 32 v) (h : DataW.Trod enc Tryd.prog w base (fun _ => true) held 32 v d p) :
    ∃ (k : Nat) (x : Int), v = .agg #[.int .u8 (k : Int), .int .i64 x] ∧ k ≤ 255 ∧ I64 x := by
  obtain ⟨cs, rfl, hsz⟩ := okWide_struct Tryd.underlying32 hv
  rw [cellsAct7] at hsz
  obtain ⟨fuel, hf⟩ := h
  obtain ⟨xs, n, _, _, _, hlen, hg⟩ := DataW.trod_struct Tryd.underlying32 hf
  obtain ⟨l⟩ := cs
  match l, hsz with
  | [c0, c1], _ =>
    match xs, hlen with
    | [y0, y1], _ =>
      have g0 := field_one7 (by kernel_rfl) hg 0 _ rfl c0 rfl
      have g1 := field_one7 (by kernel_rfl) hg 1 _ rfl c1 rfl
      obtain ⟨k, e0, _, w0⟩ := DataW.trod_int (x := y0) Tryd.underlying5 g0
      obtain ⟨x, e1, _, w1⟩ := DataW.trod_int (x := y1) Tryd.underlying3 g1
      simp only [List.cons.injEq, and_true] at e0 e1
      subst e0 e1
      obtain ⟨kk, rfl, hk⟩ := byte_in w0
      refine ⟨kk, x, rfl, hk, ?_⟩
      simp [Lit.wf, IntKind.min, IntKind.max, IntKind.signed, IntKind.bits] at w1
      unfold I64; omega
set_option maxRecDepth 100000 in
theorem open_end7 (hv : Value.okWide Tryd.prog w r b0 44 v) (h : DataW.Trod enc Tryd.prog w base (fun _ => true) held 44 v d p) :
    ∃ (k : Nat) (A : Option Addr) (len cap : Nat) (zs : List Int), v = .agg #[.int .u8 (k : Int), .slice A len cap] ∧ k ≤ 255 ∧ IsBytes w (.slice A len cap) zs := by
  obtain ⟨cs, rfl, hsz⟩ := okWide_struct Tryd.underlying44 hv
  rw [cellsEnd7] at hsz
  obtain ⟨fuel, hf⟩ := h
  obtain ⟨xs, n, _, _, _, hlen, hg⟩ := DataW.trod_struct Tryd.underlying44 hf
  obtain ⟨l⟩ := cs
  match l, hsz with
  | [c0, c1], _ =>
    match xs, hlen with
    | [y0, y1], _ =>
      have g0 := field_one7 (by kernel_rfl) hg 0 _ rfl c0 rfl
      have g1 := field_one7 (by kernel_rfl) hg 1 _ rfl c1 rfl
      obtain ⟨k, e0, _, w0⟩ := DataW.trod_int (x := y0) Tryd.underlying5 g0
      obtain ⟨A, len, cap, zs, rfl, hz⟩ := bytes_cell_in (y := y1) g1
      simp only [List.cons.injEq, and_true] at e0
      subst e0
      obtain ⟨kk, rfl, hk⟩ := byte_in w0
      exact ⟨kk, A, len, cap, zs, rfl, hk, hz⟩
end

end Go.Proofs.YtaceogpdjbikiaaDoor
