/- A job that came in, opened. -/
import Derived.Test.YtccdmcidfnmnjaaMem
import Derived.ProofKit
import Derived.OpenShut
import Derived.Deep.Fields
namespace Go.Proofs.Ytccdmcidfnmnjaa
open Go.RowKit

section
open Go.ChangeShapes Go.WideShapes Go.ChangeAt Go.Deep
variable {H : Type} {enc : TypeId × Value → H} {w : World} {base b0 : Nat} {spare : Nat → Bool} {held : Bool} {r : Reach} {v : Value} {d : DataW H} {p : List MemPlace}
/-- A field of one cell, of a struct whose fields all are. -/
theorem field_one {P : Program} {fs : Array Field} {n : Nat} {cs : List Value} {xs : List (DataW H × List MemPlace)} (hone : oneCellFields P fs = true)
    (hg : ∀ (i : Nat) (f : Field), fs[i]? = some f → DataW.trod enc P w base spare held n f.type ((cs.drop f.offset).take (P.cellsOf f.type)) = xs[i]?) (i : Nat) (f : Field) (hf : fs[i]? = some f) (c : Value) (hc : cs[i]? = some c) :
    DataW.trod enc P w base spare held n f.type [c] = xs[i]? := by
  obtain ⟨o, k⟩ := hone_of hone i f hf
  have hi := (List.getElem?_eq_some_iff.1 hc).1
  have h := hg i f hf
  rw [o, k, List.drop_eq_getElem_cons hi, (List.getElem?_eq_some_iff.1 hc).2, List.take_succ_cons, List.take_zero] at h
  exact h
/-- A slice of words by its one cell. -/
theorem words_cell_in {n : Nat} {c : Value} {y : DataW H × List MemPlace} (h : DataW.trod enc Try.prog w base (fun _ => true) held n 58 [c] = some y) : ∃ A len cap zs, c = .slice A len cap ∧ IsInts .u64 w (.slice A len cap) zs := by
  rcases open_ints Try.underlying58 Try.underlying33 (by kernel_rfl) h with ⟨hcs, _⟩ | ⟨x, l, c', zs, hcs, _, hl, hm, hz, _, hcell, hwz⟩
  · simp only [List.cons.injEq, and_true] at hcs
    exact ⟨none, 0, 0, [], hcs, IsInts.nil _ _⟩
  · simp only [List.cons.injEq, and_true] at hcs
    exact ⟨_, _, _, zs.take l, hcs, IsInts.of_open hl hm (by simpa using hz) hcell hwz⟩
theorem cellsJob : Try.prog.cellsOf 70 = 5 := by kernel_rfl
set_option maxRecDepth 100000 in
theorem open_job (hv : Value.okWide Try.prog w r b0 70 v) (h : DataW.Trod enc Try.prog w base (fun _ => true) held 70 v d p) :
    ∃ (A : Option Addr) (len cap : Nat) (B : Option Addr) (m c : Nat) (off many q : Int) (zs : List Int), v = .agg #[.slice A len cap, .slice B m c, .int .i64 off, .int .i64 many, .int .u8 q] ∧ IsInts .u64 w (.slice A len cap) zs ∧ (Lit.int .i64 off).wf = true ∧ (Lit.int .u8 q).wf = true := by
  obtain ⟨cs, rfl, hsz⟩ := okWide_struct Try.underlying70 hv
  rw [cellsJob] at hsz
  obtain ⟨fuel, hf⟩ := h
  obtain ⟨xs, n, _, _, _, hlen, hg⟩ := DataW.trod_struct Try.underlying70 hf
  obtain ⟨l⟩ := cs
  match l, hsz with
  | [c0, c1, c2, c3, c4], _ =>
    match xs, hlen with
    | [y0, y1, y2, y3, y4], _ =>
      have g0 := field_one (by kernel_rfl) hg 0 _ rfl c0 rfl
      have g1 := field_one (by kernel_rfl) hg 1 _ rfl c1 rfl
      have g2 := field_one (by kernel_rfl) hg 2 _ rfl c2 rfl
      have g3 := field_one (by kernel_rfl) hg 3 _ rfl c3 rfl
      have g4 := field_one (by kernel_rfl) hg 4 _ rfl c4 rfl
      obtain ⟨A, len, cap, zs, rfl, hz⟩ := words_cell_in (y := y0) g0
      obtain ⟨B, m, c, _, rfl, _⟩ := words_cell_in (y := y1) g1
      obtain ⟨off, e2, _, w2⟩ := DataW.trod_int (x := y2) Try.underlying3 g2
      obtain ⟨many, e3, _, _⟩ := DataW.trod_int (x := y3) Try.underlying3 g3
      obtain ⟨q, e4, _, w4⟩ := DataW.trod_int (x := y4) Try.underlying5 g4
      simp only [List.cons.injEq, and_true] at e2 e3 e4
      subst e2 e3 e4
      exact ⟨A, len, cap, B, m, c, off, many, q, zs, rfl, hz, w2, w4⟩
end
end Go.Proofs.Ytccdmcidfnmnjaa
