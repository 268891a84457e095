/- Contracts of the small functions of layer 1's reference (power, bit) and of the program's word.ones, word.stands, word.Field, word.With: what each call returns; nothing is written. No condition but the ranges named. -/
import Derived.Test.YtgjmicphkhjbhaaDoorChecked
import Derived.Test.YtgjmicphkhjbhaaDoorBits
import Derived.WalkKit
import Derived.WalkSpells
import Derived.WalkLawsBesides
import Derived.Lib.Hide
import Derived.Deep.QuietTactic
import Derived.BigQuiet
namespace Go.Proofs.YtgjmicphkhjbhaaDoor
open Go.RowKit

theorem ret_int {k : IntKind} {a b : Int} (h : a = b) : Ending.returned (.int k a) = .returned (.int k b) := by rw [h]
theorem nodraw (w : World) : ∃ m, w = w.drewN m := ⟨0, rfl⟩
theorem ret_bool {a b : Bool} (h : a = b) : Ending.returned (.bool a) = .returned (.bool b) := by rw [h]

theorem pow_le (i : Nat) (h : i ≤ 63) : (2 : Int) ^ i ≤ 9223372036854775808 := by
  have : (2 : Nat) ^ i ≤ 2 ^ 63 := Nat.pow_le_pow_right (by decide) h
  have h2 : ((2 ^ i : Nat) : Int) ≤ ((2 ^ 63 : Nat) : Int) := Int.ofNat_le.2 this
  simpa using h2

/-- power: 2 to the i-th. -/
theorem power_any (i : Int) (w : World) (h0 : 0 ≤ i) (h1 : i ≤ 63) :
    Calls Tryd.prog 23 #[.int .i64 i] w fun e w' => e = .returned (.int .u64 ((2 ^ i.toNat : Nat) : Int)) ∧ ∃ m, w' = w.drewN m := by
  obtain ⟨n, rfl⟩ := Int.eq_ofNat_of_zero_le h0
  rw [Int.toNat_natCast]
  go_enter Tryd.func23, Tryd.ntmps23
  go_wp2
  go_loop [3, 4] (fun t k => ∃ j : Nat, j ≤ n ∧ k = .int .i64 j ∧ t = .int .u64 ((2 ^ j : Nat) : Int)) (fun _ k => n - (intOf k).toNat)
  case atStart => exact ⟨0, Nat.zero_le _, rfl, rfl⟩
  case round =>
    obtain ⟨j, hj, rfl, rfl⟩ := hrel
    by_cases hlt : j < n
    · have hb : (2 : Int) ^ j ≤ 4611686018427387904 := by
        have : (2 : Nat) ^ j ≤ 2 ^ 62 := Nat.pow_le_pow_right (by decide) (by omega)
        have h2 : ((2 ^ j : Nat) : Int) ≤ ((2 ^ 62 : Nat) : Int) := Int.ofNat_le.2 this
        simpa using h2
      have hb0 : (0 : Int) ≤ 2 ^ j := Int.pow_nonneg (by decide)
      go_wp2
      go_round
      case rel => exact ⟨j + 1, by omega, by go_num, by rw [Nat.pow_succ]; simp⟩
      case measure => simp [intOf]; omega
    · obtain rfl : j = n := by omega
      go_wp2
      go_ret
      exact ⟨rfl, nodraw _⟩

theorem ones_any (i : Int) (w : World) :
    Calls Tryd.prog 21 #[.int .i64 i] w fun e w' => e = .returned (.int .u64 (((2 ^ i.toNat - 1) % 2 ^ 64 : Nat) : Int)) ∧ ∃ m, w' = w.drewN m := by
  by_cases h0 : 0 ≤ i
  · go_enter Tryd.func21, Tryd.ntmps21
    go_wp2
    go_ret
    refine ⟨ret_int ?_, by first | exact ⟨_, rfl⟩ | exact nodraw _⟩
    rw [IntKind.wrap_u64, IntKind.wrap_u64]
    have hp := Nat.two_pow_pos i.toNat
    by_cases h : i.toNat ≤ 63
    · have := pow_le i.toNat h
      have e : ((2 : Int) ^ i.toNat) = ((2 ^ i.toNat : Nat) : Int) := by simp
      rw [show min i.toNat 64 = i.toNat by omega]
      rw [e] at this ⊢
      omega
    · obtain ⟨j, hj⟩ : ∃ j, i.toNat = 64 + j := ⟨i.toNat - 64, by omega⟩
      rw [hj, show min (64 + j) 64 = 64 by omega, Nat.pow_add]
      have hp := Nat.two_pow_pos j
      generalize 2 ^ j = z at *
      omega
  · go_enter Tryd.func21, Tryd.ntmps21
    go_wp2
    go_ret
    exact ⟨ret_int (by rw [show i.toNat = 0 by omega]; rfl), nodraw _⟩

theorem stands_any (at' : Int) (a : Option Addr) (len cap : Nat) (w : World) (hl : len ≤ maxLen) (ha : -9223372036854775808 ≤ at' ∧ at' ≤ 9223372036854775807) :
    Calls Tryd.prog 20 #[.slice a len cap, .int .i64 at'] w fun e w' => e = .returned (.bool (M.stands len at')) ∧ ∃ m, w' = w.drewN m := by
  unfold maxLen at hl
  by_cases h0 : 0 ≤ at'
  · by_cases h1 : at' % 8 = 0
    · go_enter Tryd.func20, Tryd.ntmps20
      go_wp2
      go_ret
      refine ⟨ret_bool ?_, by first | exact ⟨_, rfl⟩ | exact nodraw _⟩
      unfold M.stands
      rw [decide_eq_decide]
      omega
    · go_enter Tryd.func20, Tryd.ntmps20
      go_wp2
      go_ret
      refine ⟨ret_bool ?_, by first | exact ⟨_, rfl⟩ | exact nodraw _⟩
      unfold M.stands
      exact (decide_eq_false (by omega)).symm
  · go_enter Tryd.func20, Tryd.ntmps20
    go_wp2
    go_ret
    refine ⟨ret_bool ?_, by first | exact ⟨_, rfl⟩ | exact nodraw _⟩
    unfold M.stands
    exact (decide_eq_false (by omega)).symm

theorem bit_any (n : Nat) (i : Int) (w : World) (hn : n < 2 ^ 64) :
    Calls Tryd.prog 22 #[.int .u64 n, .int .i64 i] w fun e w' => e = .returned (.bool (M.bitS n i)) ∧ ∃ m, w' = w.drewN m := by
  by_cases h : 0 ≤ i ∧ i ≤ 63
  · have HD := Lib.hid (M.bitS_in n i h)
    obtain ⟨h0, h1⟩ := h
    go_enter Tryd.func22, Tryd.ntmps22
    go_wp2_with fail
    refine (power_any _ _ h0 h1).mono ?_
    rintro e w' ⟨rfl, m, rfl⟩
    have hp1 : 1 ≤ 2 ^ i.toNat := Nat.two_pow_pos _
    have HT := Lib.hid (M.bit_iff n i.toNat)
    generalize 2 ^ i.toNat = p at *
    go_wp2
    go_ret
    refine ⟨ret_bool ?_, by first | exact ⟨_, rfl⟩ | exact nodraw _⟩
    rw [HD.out, Bool.eq_iff_iff, ← HT.out]
    exact B.bit_word n p hn
  · have HD := Lib.hid (M.bitS_out n i h)
    by_cases h0 : i < 0
    · go_enter Tryd.func22, Tryd.ntmps22
      go_wp2
      go_ret
      exact ⟨ret_bool (by rw [HD.out]), nodraw _⟩
    · have h1 : 63 < i := by omega
      clear h
      go_enter Tryd.func22, Tryd.ntmps22
      go_wp2
      go_ret
      exact ⟨ret_bool (by rw [HD.out]), nodraw _⟩
theorem field_any (n : Nat) (low size : Int) (w : World) (hn : n < 2 ^ 64) :
    Calls Tryd.prog 14 #[.int .u64 n, .int .i64 low, .int .i64 size] w fun e w' => e = .returned (.int .u64 (M.fld n low.toNat size.toNat : Nat)) ∧ ∃ m, w' = w.drewN m := by
  by_cases h0 : 0 ≤ low
  · go_enter Tryd.func14, Tryd.ntmps14
    go_wp2_with fail
    go_quiet ((go_at_call 21; exact Calls.quiet_of (ones_any _ _)))
    go_wp2
    go_ret
    refine ⟨ret_int ?_, by first | exact ⟨_, rfl⟩ | exact nodraw _⟩
    exact B.field_word n _ _ hn
  · go_enter Tryd.func14, Tryd.ntmps14
    go_wp2_with fail
    go_quiet ((go_at_call 21; exact Calls.quiet_of (ones_any _ _)))
    go_wp2
    go_ret
    refine ⟨ret_int ?_, by first | exact ⟨_, rfl⟩ | exact nodraw _⟩
    rw [show low.toNat = 0 by omega]
    exact B.field_word0 n _ hn
theorem with_any (n v : Nat) (low size : Int) (w : World) (hn : n < 2 ^ 64) (hv : v < 2 ^ 64) :
    Calls Tryd.prog 16 #[.int .u64 n, .int .i64 low, .int .i64 size, .int .u64 v] w fun e w' => e = .returned (.int .u64 (M.wth n low.toNat size.toNat v : Nat)) ∧ ∃ m, w' = w.drewN m := by
  by_cases h0 : 0 ≤ low
  · go_enter Tryd.func16, Tryd.ntmps16
    go_wp2_with fail
    refine (ones_any _ _).mono ?_
    rintro e w' ⟨rfl, m, rfl⟩
    go_wp2
    go_ret
    refine ⟨ret_int ?_, by first | exact ⟨_, rfl⟩ | exact nodraw _⟩
    exact B.with_word n _ _ v hn hv
  · go_enter Tryd.func16, Tryd.ntmps16
    go_wp2_with fail
    refine (ones_any _ _).mono ?_
    rintro e w' ⟨rfl, m, rfl⟩
    go_wp2
    go_ret
    refine ⟨ret_int ?_, by first | exact ⟨_, rfl⟩ | exact nodraw _⟩
    rw [show low.toNat = 0 by omega]
    exact B.with_word0 n _ v hn hv
end Go.Proofs.YtgjmicphkhjbhaaDoor
