/- The walk of the statement WordBits. -/
import Derived.Test.YtgjmicphkhjbhaaDoorWg
import Derived.ProofKit
import Derived.OpenShut
namespace Go.Proofs.YtgjmicphkhjbhaaDoor
open Go.RowKit

theorem wordBits_core (n v : Nat) (p q r : Int) (w : World) (hn : n < 2 ^ 64) (hv : v < 2 ^ 64) (hp : p ≤ 9223372036854775807) (hT : TabAt 0 Lib.deBruijn64tab w) (hs : 1 ≤ w.heap.size) :
    Calls Tryd.prog 4 #[.int .u64 n, .int .u64 v, .agg #[.int .i64 p, .int .i64 q, .int .i64 r]] w fun e w' => e = .returned (.bool true) ∧ Below w.heap.size w w' := by
  have HT := Lib.hid hT; clear hT
  go_enter Tryd.func4, Tryd.ntmps4
  go_wp2_with fail
  have hx0 := cell_of_row (w.alloc (.cells #[.int .i64 p, .int .i64 q, .int .i64 r] 30)) w.heap.size 0 _ 30 (0, 0) (heap_alloc_new w _)
  have hx1 := cell_of_row (w.alloc (.cells #[.int .i64 p, .int .i64 q, .int .i64 r] 30)) w.heap.size 1 _ 30 (0, 0) (heap_alloc_new w _)
  have hx2 := cell_of_row (w.alloc (.cells #[.int .i64 p, .int .i64 q, .int .i64 r] 30)) w.heap.size 2 _ 30 (0, 0) (heap_alloc_new w _)
  have hB0 : Below w.heap.size w (w.alloc (.cells #[.int .i64 p, .int .i64 q, .int .i64 r] 30)) := (Below.refl w.heap.size w).alloc (Nat.le_refl _) _
  have hsz : w.heap.size + 1 = (w.alloc (.cells #[.int .i64 p, .int .i64 q, .int .i64 r] 30)).heap.size := by simp
  generalize w.alloc (.cells #[.int .i64 p, .int .i64 q, .int .i64 r] 30) = W0 at *
  have hT0 : TabAt 0 Lib.deBruijn64tab W0 := TabAt.below HT.out hB0 hs
  refine (alive_any _ hT0 (by omega)).mono ?_
  rintro e w1 ⟨rfl, hb⟩
  have c0 : w1.cell? ⟨w.heap.size, 0, none⟩ = some (.int .i64 p) := (hb.cell (p := ⟨w.heap.size, 0, none⟩) (by simp; omega)).trans (by simpa using hx0)
  have c1 : w1.cell? ⟨w.heap.size, 1, none⟩ = some (.int .i64 q) := (hb.cell (p := ⟨w.heap.size, 1, none⟩) (by simp; omega)).trans (by simpa using hx1)
  have c2 : w1.cell? ⟨w.heap.size, 2, none⟩ = some (.int .i64 r) := (hb.cell (p := ⟨w.heap.size, 2, none⟩) (by simp; omega)).trans (by simpa using hx2)
  have HT1 : Hid (TabAt 0 Lib.deBruijn64tab w1) := TabAt.below hT0 hb (by omega)
  have HB : Hid (Below w.heap.size w w1) := hB0.trans (hb.mono (by omega))
  clear hb hB0 hx0 hx1 hx2 hsz hT0
  go_wp2_with fail
  go_quiet (first | (go_at_call 14; exact Calls.quiet_of (field_any n _ _ _ hn)) | (go_at_call 15; exact Calls.quiet_of (rfield_any n _ _ _ hn hp)) | (go_at_call 16; exact Calls.quiet_of (with_any n v _ _ _ hn hv)) | (go_at_call 17; exact Calls.quiet_of (rwith_any n v _ _ _ hn hv)) | (go_at_call 18; exact Calls.quiet_of (low_any n _ _ hn (by exact HT1.out))) | (go_at_call 19; exact Calls.quiet_of (rlow_any n _ _ hn)))
  go_wp2
  go_ret
  exact ⟨rfl, below_drewN' HB.out _⟩

theorem cellsArr3 : Tryd.prog.cellsOf 30 = 3 := by kernel_rfl
theorem cellsInt : Tryd.prog.cellsOf 3 = 1 := by kernel_rfl
open Go.ChangeShapes Go.WideShapes Go.ChangeAt in
theorem open_arr3 {H : Type} {enc : TypeId × Value → H} {w : World} {base b0 : Nat} {spare : Nat → Bool} {held : Bool} {r : Reach} {v : Value} {d : DataW H} {p : List MemPlace}
    (hv : Value.okWide Tryd.prog w r b0 30 v) (h : DataW.Trod enc Tryd.prog w base spare held 30 v d p) :
    ∃ x y z : Int, v = .agg #[.int .i64 x, .int .i64 y, .int .i64 z] ∧ (Lit.int .i64 x).wf = true ∧ (Lit.int .i64 y).wf = true ∧ (Lit.int .i64 z).wf = true := by
  have hv' := hv
  simp only [Value.okWide, Tryd.underlying30] at hv'
  obtain ⟨cs, rfl, hsz, _⟩ := hv'
  rw [cellsArr3] at hsz
  obtain ⟨fuel, hf⟩ := h
  obtain ⟨xs, m, rfl, hx, hl, hxl, hi⟩ := DataW.trod_array Tryd.underlying30 hf
  rw [cellsInt] at hi
  obtain ⟨l⟩ := cs
  match l, hsz with
  | [a, b, c], _ =>
    have g : ∀ i, i < 3 → ∃ y, DataW.trod enc Tryd.prog w base spare held m 3 (([a, b, c].drop i).take 1) = some y := by
      intro i h3
      have := hi i h3
      rw [List.getElem?_eq_getElem (by omega)] at this
      exact ⟨_, by simpa [Value.cells] using this⟩
    obtain ⟨y0, h0⟩ := g 0 (by decide)
    obtain ⟨y1, h1⟩ := g 1 (by decide)
    obtain ⟨y2, h2⟩ := g 2 (by decide)
    obtain ⟨x, e0, _, wx⟩ := DataW.trod_int Tryd.underlying3 h0
    obtain ⟨y, e1, _, wy⟩ := DataW.trod_int Tryd.underlying3 h1
    obtain ⟨z, e2, _, wz⟩ := DataW.trod_int Tryd.underlying3 h2
    simp at e0 e1 e2
    subst e0 e1 e2
    exact ⟨x, y, z, rfl, wx, wy, wz⟩
theorem u64_nat2 {z : Int} (h : (Lit.int .u64 z).wf = true) : ∃ n : Nat, z = n ∧ n < 2 ^ 64 := by
  simp [Lit.wf, IntKind.min, IntKind.max, IntKind.signed, IntKind.bits] at h
  exact ⟨z.toNat, by omega, by omega⟩
theorem i64_bd {z : Int} (h : (Lit.int .i64 z).wf = true) : -9223372036854775808 ≤ z ∧ z ≤ 9223372036854775807 := by
  simp [Lit.wf, IntKind.min, IntKind.max, IntKind.signed, IntKind.bits] at h
  omega
theorem wordBits_walk (a0 a1 x y z : Int) (w : World) (w0 : (Lit.int .u64 a0).wf = true) (w1 : (Lit.int .u64 a1).wf = true) (wx : (Lit.int .i64 x).wf = true) (_wy : (Lit.int .i64 y).wf = true) (_wz : (Lit.int .i64 z).wf = true)
    (hT : TabAt 0 Lib.deBruijn64tab w) (hs : 1 ≤ w.heap.size) :
    Calls Tryd.prog 4 #[.int .u64 a0, .int .u64 a1, .agg #[.int .i64 x, .int .i64 y, .int .i64 z]] w fun e w' => e = .returned (.bool true) ∧ Below w.heap.size w w' := by
  obtain ⟨n, rfl, hn⟩ := u64_nat2 w0
  obtain ⟨v, rfl, hv⟩ := u64_nat2 w1
  exact wordBits_core n v x y z w hn hv (i64_bd wx).2 hT hs
end Go.Proofs.YtgjmicphkhjbhaaDoor
