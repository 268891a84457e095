
/- The statements' own 'alive' of layer 6 answers true, where the table of math/bits.TrailingZeros64 holds its numbers; nothing is written. -/
import Derived.Test.YtbaealdabplmdaaDoorSlB

namespace Go.Proofs.YtbaealdabplmdaaDoor

open Go.RowKit

theorem alive6_take (w : World) : Calls Tryd.prog 21 #[.int .u64 0, .int .i64 2, .int .i64 1] w fun e w' => e = .returned (.tuple #[.int .u64 131074, .bool true]) ∧ ∃ m, w' = w.drewN m := by
  have h := sl_take 0 2 1 w (by decide)
  rw [show S.tkW 0 2 1 = 131074 by decide, show S.tak 0 2 1 = true by decide] at h
  exact h
theorem alive6_drop (w : World) : Calls Tryd.prog 23 #[.int .u64 131074, .int .i64 1] w fun e w' => e = .returned (.tuple #[.int .u64 0, .bool true]) ∧ ∃ m, w' = w.drewN m := by
  have h := sl_drop 131074 1 w (by decide)
  rw [show S.drW 131074 1 = 0 by decide, show S.has 131074 1 = true by decide] at h
  exact h
theorem alive6_next2 (w : World) (hT : TabAt 0 Lib.deBruijn64tab w) : Calls Tryd.prog 15 #[.int .u64 131074, .int .i64 2] w fun e w' => e = .returned (.int .i64 0) ∧ ∃ m, w' = w.drewN m := by
  have h := sl_next 131074 2 w (by decide) hT
  rw [show S.nxt 131074 2 = 0 by decide] at h
  exact h
theorem alive6_next1 (w : World) (hT : TabAt 0 Lib.deBruijn64tab w) : Calls Tryd.prog 15 #[.int .u64 131074, .int .i64 1] w fun e w' => e = .returned (.int .i64 (-1)) ∧ ∃ m, w' = w.drewN m := by
  have h := sl_next 131074 1 w (by decide) hT
  rw [show S.nxt 131074 1 = -1 by decide] at h
  exact h
theorem alive6_class (w : World) : Calls Tryd.prog 13 #[.int .u64 131074] w fun e w' => e = .returned (.int .i64 2) ∧ ∃ m, w' = w.drewN m := by
  have h := sl_class 131074 w (by decide)
  rw [show S.cls 131074 = 2 by decide] at h
  exact h
theorem alive6_has (w : World) : Calls Tryd.prog 14 #[.int .u64 131074, .int .i64 1] w fun e w' => e = .returned (.bool true) ∧ ∃ m, w' = w.drewN m := by
  have h := sl_has 131074 1 w (by decide)
  rw [show S.has 131074 1 = true by decide] at h
  exact h
theorem alive6_right (w : World) : Calls Tryd.prog 12 #[.int .u64 131074] w fun e w' => e = .returned (.bool true) ∧ ∃ m, w' = w.drewN m := by
  have h := sl_right 131074 w (by decide)
  rw [show S.rgt 131074 = true by decide] at h
  exact h
theorem alive6_blocks (w : World) : Calls Tryd.prog 17 #[.int .i64 1] w fun e w' => e = .returned (.int .i64 16) ∧ ∃ m, w' = w.drewN m := sl_blocks 1 w

theorem alive6_any (w : World) (hT : TabAt 0 Lib.deBruijn64tab w) :
    Calls Tryd.prog 8 #[] w fun e w' => e = .returned (.bool true) ∧ ∃ m, w' = w.drewN m := by
  have HT := Lib.hid hT; clear hT
  go_enter Tryd.func8, Tryd.ntmps8
  go_wp2_with fail
  refine (alive6_take _).mono ?_
  rintro e w' ⟨rfl, m, rfl⟩
  go_wp2_with fail
  refine (alive6_drop _).mono ?_
  rintro e w' ⟨rfl, m2, rfl⟩
  go_wp2_with fail
  refine (alive6_next2 _ (by exact HT.out)).mono ?_
  rintro e w' ⟨rfl, m3, rfl⟩
  go_wp2_with fail
  refine (alive6_next1 _ (by exact HT.out)).mono ?_
  rintro e w' ⟨rfl, m4, rfl⟩
  go_wp2_with fail
  refine (alive6_class _).mono ?_
  rintro e w' ⟨rfl, m5, rfl⟩
  go_wp2_with fail
  refine (alive6_has _).mono ?_
  rintro e w' ⟨rfl, m6, rfl⟩
  go_wp2_with fail
  refine (alive6_right _).mono ?_
  rintro e w' ⟨rfl, m7, rfl⟩
  go_wp2_with fail
  refine (alive6_blocks _).mono ?_
  rintro e w' ⟨rfl, m8, rfl⟩
  go_wp2
  go_ret
  exact ⟨rfl, _, rfl⟩
end Go.Proofs.YtbaealdabplmdaaDoor
