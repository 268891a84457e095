
/- A shape that came in, opened. -/
import Derived.Test.YtmelmiookkeoaaaDoorSuJob

namespace Go.Proofs.YtmelmiookkeoaaaDoor

open Go.RowKit

section

open Go.ChangeShapes Go.WideShapes Go.ChangeAt Go.Deep

variable {H : Type} {enc : TypeId × Value → H} {w : World} {base b0 : Nat} {spare : Nat → Bool} {held : Bool} {r : Reach} {v : Value} {d : DataW H} {p : List MemPlace}

theorem cellsSh5 : Tryd.prog.cellsOf 23 = 4 := by kernel_rfl
set_option maxRecDepth 100000 in
theorem open_sh5 (hv : Value.okWide Tryd.prog w r b0 23 v) (h : DataW.Trod enc Tryd.prog w base (fun _ => true) held 23 v d p) :
    ∃ a b c e : Int, v = .agg #[.int .i64 a, .int .i64 b, .int .i64 c, .int .i64 e] ∧ (Lit.int .i64 a).wf = true := by
  obtain ⟨cs, rfl, hsz⟩ := okWide_struct Tryd.underlying23 hv
  rw [cellsSh5] at hsz
  obtain ⟨fuel, hf⟩ := h
  obtain ⟨xs, n, _, _, _, hlen, hg⟩ := DataW.trod_struct Tryd.underlying23 hf
  obtain ⟨l⟩ := cs
  match l, hsz with
  | [c0, c1, c2, c3], _ =>
    match xs, hlen with
    | [y0, y1, y2, y3], _ =>
      have g0 := field_one (by kernel_rfl) hg 0 _ rfl c0 rfl
      have g1 := field_one (by kernel_rfl) hg 1 _ rfl c1 rfl
      have g2 := field_one (by kernel_rfl) hg 2 _ rfl c2 rfl
      have g3 := field_one (by kernel_rfl) hg 3 _ rfl c3 rfl
      obtain ⟨a, e0, _, w0⟩ := DataW.trod_int (x := y0) Tryd.underlying3 g0
      obtain ⟨b, e1, _, _⟩ := DataW.trod_int (x := y1) Tryd.underlying3 g1
      obtain ⟨c, e2, _, _⟩ := DataW.trod_int (x := y2) Tryd.underlying3 g2
      obtain ⟨e, e3, _, _⟩ := DataW.trod_int (x := y3) Tryd.underlying3 g3
      simp only [List.cons.injEq, and_true] at e0 e1 e2 e3
      subst e0 e1 e2 e3
      exact ⟨a, b, c, e, rfl, w0⟩
end

end Go.Proofs.YtmelmiookkeoaaaDoor
