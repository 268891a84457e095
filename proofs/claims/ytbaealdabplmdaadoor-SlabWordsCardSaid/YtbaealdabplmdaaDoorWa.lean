
/- Contracts of the small functions of layer 1's reference (power, bit) and of the program's word.ones, word.stands, word.Field, word.With: what each call returns; nothing is written. No condition but the ranges named. -/
import Derived.Test.YtbaealdabplmdaaDoorChecked

import Derived.Test.YtbaealdabplmdaaDoorBits

import Derived.WalkKit

import Derived.WalkSpells

import Derived.WalkLawsBesides

import Derived.Lib.Hide

import Derived.Deep.QuietTactic

import Derived.BigQuiet

namespace Go.Proofs.YtbaealdabplmdaaDoor

open Go.RowKit

theorem ret_int {k : IntKind} {a b : Int} (h : a = b) : Ending.returned (.int k a) = .returned (.int k b) := by rw [h]
theorem nodraw (w : World) : ∃ m, w = w.drewN m := ⟨0, rfl⟩
theorem ret_bool {a b : Bool} (h : a = b) : Ending.returned (.bool a) = .returned (.bool b) := by rw [h]

theorem pow_le (i : Nat) (h : i ≤ 63) : (2 : Int) ^ i ≤ 9223372036854775808 := by
  have : (2 : Nat) ^ i ≤ 2 ^ 63 := Nat.pow_le_pow_right (by decide) h
  have h2 : ((2 ^ i : Nat) : Int) ≤ ((2 ^ 63 : Nat) : Int) := Int.ofNat_le.2 this
  simpa using h2


theorem ones_any (i : Int) (w : World) :
    Calls Tryd.prog 33 #[.int .i64 i] w fun e w' => e = .returned (.int .u64 (((2 ^ i.toNat - 1) % 2 ^ 64 : Nat) : Int)) ∧ ∃ m, w' = w.drewN m := by
  by_cases h0 : 0 ≤ i
  · go_enter Tryd.func33, Tryd.ntmps33
    go_wp2
    go_ret
    refine ⟨ret_int ?_, by first | exact ⟨_, rfl⟩ | exact nodraw _⟩
    rw [IntKind.wrap_u64, IntKind.wrap_u64]
    have hp := Nat.two_pow_pos i.toNat
    by_cases h : i.toNat ≤ 63
    · have := pow_le i.toNat h
      have e : ((2 : Int) ^ i.toNat) = ((2 ^ i.toNat : Nat) : Int) := by simp
      rw [show min i.toNat 64 = i.toNat by omega]
      rw [e] at this ⊢
      omega
    · obtain ⟨j, hj⟩ : ∃ j, i.toNat = 64 + j := ⟨i.toNat - 64, by omega⟩
      rw [hj, show min (64 + j) 64 = 64 by omega, Nat.pow_add]
      have hp := Nat.two_pow_pos j
      generalize 2 ^ j = z at *
      omega
  · go_enter Tryd.func33, Tryd.ntmps33
    go_wp2
    go_ret
    exact ⟨ret_int (by rw [show i.toNat = 0 by omega]; rfl), nodraw _⟩



theorem field_any (n : Nat) (low size : Int) (w : World) (hn : n < 2 ^ 64) :
    Calls Tryd.prog 26 #[.int .u64 n, .int .i64 low, .int .i64 size] w fun e w' => e = .returned (.int .u64 (M.fld n low.toNat size.toNat : Nat)) ∧ ∃ m, w' = w.drewN m := by
  by_cases h0 : 0 ≤ low
  · go_enter Tryd.func26, Tryd.ntmps26
    go_wp2_with fail
    go_quiet ((go_at_call 33; exact Calls.quiet_of (ones_any _ _)))
    go_wp2
    go_ret
    refine ⟨ret_int ?_, by first | exact ⟨_, rfl⟩ | exact nodraw _⟩
    exact B.field_word n _ _ hn
  · go_enter Tryd.func26, Tryd.ntmps26
    go_wp2_with fail
    go_quiet ((go_at_call 33; exact Calls.quiet_of (ones_any _ _)))
    go_wp2
    go_ret
    refine ⟨ret_int ?_, by first | exact ⟨_, rfl⟩ | exact nodraw _⟩
    rw [show low.toNat = 0 by omega]
    exact B.field_word0 n _ hn
theorem with_any (n v : Nat) (low size : Int) (w : World) (hn : n < 2 ^ 64) (hv : v < 2 ^ 64) :
    Calls Tryd.prog 31 #[.int .u64 n, .int .i64 low, .int .i64 size, .int .u64 v] w fun e w' => e = .returned (.int .u64 (M.wth n low.toNat size.toNat v : Nat)) ∧ ∃ m, w' = w.drewN m := by
  by_cases h0 : 0 ≤ low
  · go_enter Tryd.func31, Tryd.ntmps31
    go_wp2_with fail
    refine (ones_any _ _).mono ?_
    rintro e w' ⟨rfl, m, rfl⟩
    go_wp2
    go_ret
    refine ⟨ret_int ?_, by first | exact ⟨_, rfl⟩ | exact nodraw _⟩
    exact B.with_word n _ _ v hn hv
  · go_enter Tryd.func31, Tryd.ntmps31
    go_wp2_with fail
    refine (ones_any _ _).mono ?_
    rintro e w' ⟨rfl, m, rfl⟩
    go_wp2
    go_ret
    refine ⟨ret_int ?_, by first | exact ⟨_, rfl⟩ | exact nodraw _⟩
    rw [show low.toNat = 0 by omega]
    exact B.with_word0 n _ v hn hv
end Go.Proofs.YtbaealdabplmdaaDoor
