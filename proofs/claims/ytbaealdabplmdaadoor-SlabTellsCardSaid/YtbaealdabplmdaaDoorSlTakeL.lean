
/- The walk of the statement SlabTakes. -/
import Derived.Test.YtbaealdabplmdaaDoorSlH

import Derived.Test.YtbaealdabplmdaaDoorSlC

namespace Go.Proofs.YtbaealdabplmdaaDoor

open Go.RowKit

theorem u64_nat7 {z : Int} (h : (Lit.int .u64 z).wf = true) : ∃ n : Nat, z = n ∧ n < 2 ^ 64 := by
  simp [Lit.wf, IntKind.min, IntKind.max, IntKind.signed, IntKind.bits] at h
  exact ⟨z.toNat, by omega, by omega⟩
theorem slabTakes_walk (w0 c a : Int) (w : World) (hw : (Lit.int .u64 w0).wf = true) (_hc : (Lit.int .i64 c).wf = true) (_ha : (Lit.int .i64 a).wf = true) (hT : TabAt 0 Lib.deBruijn64tab w) (_hs : 0 < w.heap.size) :
    Calls Tryd.prog 4 #[.int .u64 w0, .int .i64 c, .int .i64 a] w fun e w' => e = .returned (.bool true) ∧ Below w.heap.size w w' := by
  obtain ⟨n, rfl, hn⟩ := u64_nat7 hw
  have HT := Lib.hid hT
  have H1 := fun W => Lib.hid (sl_take n c a W hn)
  have H2 := fun W => Lib.hid (rs_take n c a W hn)
  have H3 := fun W => Lib.hid (sl_drop n a W hn)
  have H4 := fun W => Lib.hid (rs_drop n a W hn)
  have HB0 : Hid (∀ m, Below w.heap.size w (w.drewN m)) := fun m => below_drewN' (Below.refl _ _) m
  clear hT hw _hc _ha hn
  generalize S.tkW n c a = x at *
  generalize S.tak n c a = is at *
  generalize S.drW n a = y at *
  generalize S.has n a = hs at *
  go_enter Tryd.func4, Tryd.ntmps4
  go_wp2_with fail
  refine (alive6_any _ HT.out).mono ?_
  rintro e w1 ⟨rfl, m0, rfl⟩
  go_wp2_with fail
  refine ((H1 _).out).mono ?_
  rintro e w' ⟨rfl, m1, rfl⟩
  go_wp2_with fail
  refine ((H2 _).out).mono ?_
  rintro e w2 ⟨rfl, hb⟩
  have HB2 : Hid (∀ m, Below w.heap.size w (w2.drewN m)) := fun m => below_drewN' ((HB0.out _).trans (hb.mono (HB0.out _).size)) m
  clear hb
  go_wp2_with fail
  refine ((H3 _).out).mono ?_
  rintro e w' ⟨rfl, m2, rfl⟩
  go_wp2_with fail
  refine ((H4 _).out).mono ?_
  rintro e w3 ⟨rfl, hb⟩
  have HB3 : Hid (Below w.heap.size w w3) := (HB2.out _).trans (hb.mono (HB2.out _).size)
  clear hb
  go_wp2
  go_ret
  exact ⟨ret_bool (by simp), HB3.out⟩
end Go.Proofs.YtbaealdabplmdaaDoor
