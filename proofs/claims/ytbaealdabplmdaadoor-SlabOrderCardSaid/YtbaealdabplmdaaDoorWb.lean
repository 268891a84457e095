
/- Contracts of the reference's Field, With, Low and of the program's word.Low (where the table of math/bits.TrailingZeros64 holds its numbers). Nothing is written. No condition but the ranges named. -/
import Derived.Test.YtbaealdabplmdaaDoorWa

import Derived.Shelf.Spec.TrailingZeros

namespace Go.Proofs.YtbaealdabplmdaaDoor

open Go.RowKit



theorem tz_core (x k idx : Nat) (w : World) (hx0 : ((x : Int) == 0) = false)
    (key : IntKind.u64.wrap (bits BinOp.and IntKind.u64 (x : Int) (IntKind.u64.wrap (-(x : Int))) * 285870213051353865) / 288230376151711744 = (idx : Int))
    (hi : idx < 64) (hk : k < 64) (hcell : w.cell? ⟨0, idx, none⟩ = some (.int .u8 k)) :
    Calls Tryd.prog 34 #[.int .u64 x] w fun e w' => e = .returned (.int .i64 k) ∧ ∃ m, w' = w.drewN m := by
  go_enter Tryd.func34, Tryd.ntmps34
  go_wp2_with (simp only [key])
  go_ret
  exact ⟨rfl, nodraw _⟩
theorem tz_zero (w : World) :
    Calls Tryd.prog 34 #[.int .u64 0] w fun e w' => e = .returned (.int .i64 64) ∧ ∃ m, w' = w.drewN m := by
  go_enter Tryd.func34, Tryd.ntmps34
  go_wp2
  go_ret
  exact ⟨rfl, nodraw _⟩
theorem tz_any (x : Nat) (w : World) (hx : x < 18446744073709551616) (hT : TabAt 0 Lib.deBruijn64tab w) :
    Calls Tryd.prog 34 #[.int .u64 x] w fun e w' => e = .returned (.int .i64 (Lib.ctz 64 x)) ∧ ∃ m, w' = w.drewN m := by
  by_cases hx0 : x = 0
  · subst hx0
    exact tz_zero w
  · obtain ⟨hlow, hk⟩ := Lib.lowest_bit 64 x hx0 hx
    obtain ⟨hi, htab⟩ := Lib.deBruijn64_at _ hk
    have hcell := hT _ hi
    rw [htab] at hcell
    exact tz_core x _ _ w (by simp; omega) (tz64_key x _ hx hx0 hlow) hi hk hcell
theorem low_any (n : Nat) (many : Int) (w : World) (hn : n < 2 ^ 64) (hT : TabAt 0 Lib.deBruijn64tab w) :
    Calls Tryd.prog 30 #[.int .u64 n, .int .i64 many] w fun e w' => e = .returned (.int .i64 (M.lowS n many)) ∧ ∃ m, w' = w.drewN m := by
  have HN := Lib.hid (B.not_word n hn)
  obtain ⟨h1, _, _⟩ := M.low1_spec n hn
  have HT := Lib.hid hT; clear hT
  have HL : Hid (M.lowS n many = if (M.low1 n : Int) < min many 64 then (M.low1 n : Int) else -1) := rfl
  have hL : Hid (Lib.ctz 64 (2 ^ 64 - 1 - n) = M.low1 n) := rfl
  by_cases hs : 64 < many
  · by_cases hk : M.low1 n < 64
    · go_enter Tryd.func30, Tryd.ntmps30
      go_wp2_with fail
      rw [HN.out]
      refine (tz_any _ _ (by omega) HT.out).mono ?_
      rintro e w' ⟨rfl, m, rfl⟩
      rw [hL.out]
      go_wp2
      go_ret
      exact ⟨ret_int (by rw [HL.out, if_pos (by omega)]), _, rfl⟩
    · go_enter Tryd.func30, Tryd.ntmps30
      go_wp2_with fail
      rw [HN.out]
      refine (tz_any _ _ (by omega) HT.out).mono ?_
      rintro e w' ⟨rfl, m, rfl⟩
      rw [hL.out]
      go_wp2
      go_ret
      exact ⟨ret_int (by rw [HL.out, if_neg (by omega)]), _, rfl⟩
  · by_cases hk : (M.low1 n : Int) < many
    · go_enter Tryd.func30, Tryd.ntmps30
      go_wp2_with fail
      rw [HN.out]
      refine (tz_any _ _ (by omega) HT.out).mono ?_
      rintro e w' ⟨rfl, m, rfl⟩
      rw [hL.out]
      go_wp2
      go_ret
      exact ⟨ret_int (by rw [HL.out, if_pos (by omega)]), _, rfl⟩
    · go_enter Tryd.func30, Tryd.ntmps30
      go_wp2_with fail
      rw [HN.out]
      refine (tz_any _ _ (by omega) HT.out).mono ?_
      rintro e w' ⟨rfl, m, rfl⟩
      rw [hL.out]
      go_wp2
      go_ret
      exact ⟨ret_int (by rw [HL.out, if_neg (by omega)]), _, rfl⟩
theorem TabAt.below {w w' : World} {B : Nat} {tab : List Nat} {g : Nat} (h : TabAt g tab w) (hb : Below B w w') (hg : g < B) : TabAt g tab w' :=
  fun j hj => (hb.cell (p := ⟨g, j, none⟩) hg).trans (h j hj)
end Go.Proofs.YtbaealdabplmdaaDoor
