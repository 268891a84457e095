
/- How the program's operations on words of 64 bits read as plain mathematics (Math). No condition but the ranges named. -/
import Derived.Test.YtbaealdabplmdaaDoorMath

import Derived.WalkKit

namespace Go.Proofs.YtbaealdabplmdaaDoor.B

open Go.Proofs.YtbaealdabplmdaaDoor

theorem two_cast (k : Nat) : ((2 : Int) ^ k) = ((2 ^ k : Nat) : Int) := by simp
theorem shr_cast (n k : Nat) : ((n : Int) / 2 ^ k) = ((n / 2 ^ k : Nat) : Int) := by rw [two_cast]; rfl
theorem shl_cast (n k : Nat) : IntKind.u64.wrap ((n : Int) * 2 ^ k) = ((n * 2 ^ k % 2 ^ 64 : Nat) : Int) := by
  rw [IntKind.wrap_u64, two_cast]; rfl
theorem mask_cast (s : Nat) : (((2 ^ s - 1 : Nat) : Int) % 18446744073709551616) = (((2 ^ s - 1) % 2 ^ 64 : Nat) : Int) := rfl
theorem shr_min (n l : Nat) (hn : n < 2 ^ 64) : n / 2 ^ min l 64 = n / 2 ^ l := by
  apply Nat.eq_of_testBit_eq
  intro i
  rw [Nat.testBit_div_two_pow, Nat.testBit_div_two_pow]
  by_cases h : l ≤ 64
  · rw [Nat.min_eq_left h]
  · rw [M.testBit_high hn (by omega), M.testBit_high hn (by omega)]
theorem shl_min (n l : Nat) : n * 2 ^ min l 64 % 2 ^ 64 = n * 2 ^ l % 2 ^ 64 := by
  apply Nat.eq_of_testBit_eq
  intro i
  rw [Nat.testBit_mod_two_pow, Nat.testBit_mod_two_pow, Nat.testBit_mul_two_pow, Nat.testBit_mul_two_pow]
  by_cases h : l ≤ 64
  · rw [Nat.min_eq_left h]
  · by_cases h2 : i < 64
    · simp [show ¬ min l 64 ≤ i by omega, show ¬ l ≤ i by omega]
    · simp [h2]
theorem testBit_mask (s i : Nat) : ((2 ^ s - 1) % 2 ^ 64).testBit i = (decide (i < 64) && decide (i < s)) := by
  rw [Nat.testBit_mod_two_pow, Nat.testBit_two_pow_sub_one]
theorem shl_lt (n l : Nat) : n * 2 ^ l % 2 ^ 64 < 18446744073709551616 := Nat.mod_lt _ (by decide)

theorem field_word (n l s : Nat) (hn : n < 2 ^ 64) : bits .and .u64 ((n : Int) / 2 ^ min l 64) (((2 ^ s - 1 : Nat) : Int) % 18446744073709551616) = ((M.fld n l s : Nat) : Int) := by
  rw [shr_cast, mask_cast, shr_min n l hn, u64_and_nat _ _ (Nat.lt_of_le_of_lt (Nat.div_le_self _ _) hn) (Nat.mod_lt _ (by decide))]
  congr 1
  apply Nat.eq_of_testBit_eq
  intro i
  rw [Nat.testBit_and, testBit_mask, Nat.testBit_div_two_pow, M.testBit_fld, Nat.add_comm i l]
  by_cases h : i < 64
  · simp [h, Bool.and_comm]
  · rw [M.testBit_high hn (by omega)]; simp
theorem field_word0 (n s : Nat) (hn : n < 2 ^ 64) : bits .and .u64 (n : Int) (((2 ^ s - 1 : Nat) : Int) % 18446744073709551616) = ((M.fld n 0 s : Nat) : Int) := by
  have h := field_word n 0 s hn
  simpa using h

theorem with_nat (n l s v : Nat) : (n &&& (18446744073709551615 - ((2 ^ s - 1) % 2 ^ 64) * 2 ^ l % 2 ^ 64)) ||| ((v * 2 ^ l % 2 ^ 64) &&& (((2 ^ s - 1) % 2 ^ 64) * 2 ^ l % 2 ^ 64)) = M.wth n l s v := by
  have e : ((2 ^ s - 1) % 2 ^ 64) * 2 ^ l % 2 ^ 64 = M.plc l s := by
    unfold M.plc
    rw [Nat.mod_mul_mod]
  rw [e]
  rfl
theorem with_word (n l s v : Nat) (hn : n < 2 ^ 64) (_hv : v < 2 ^ 64) :
    bits .or .u64 (bits .andNot .u64 (n : Int) (IntKind.u64.wrap ((((2 ^ s - 1 : Nat) : Int) % 18446744073709551616) * 2 ^ min l 64)))
      (bits .and .u64 (IntKind.u64.wrap ((v : Int) * 2 ^ min l 64)) (IntKind.u64.wrap ((((2 ^ s - 1 : Nat) : Int) % 18446744073709551616) * 2 ^ min l 64))) = ((M.wth n l s v : Nat) : Int) := by
  rw [mask_cast, shl_cast, shl_cast, shl_min, shl_min, u64_andNot_nat _ _ hn (shl_lt _ _), u64_and_nat _ _ (shl_lt _ _) (shl_lt _ _),
    u64_or_nat _ _ (Nat.lt_of_le_of_lt Nat.and_le_left hn) (Nat.lt_of_le_of_lt Nat.and_le_left (shl_lt _ _)), with_nat]
theorem with_word0 (n s v : Nat) (hn : n < 2 ^ 64) (hv : v < 2 ^ 64) :
    bits .or .u64 (bits .andNot .u64 (n : Int) (((2 ^ s - 1 : Nat) : Int) % 18446744073709551616)) (bits .and .u64 (v : Int) (((2 ^ s - 1 : Nat) : Int) % 18446744073709551616)) = ((M.wth n 0 s v : Nat) : Int) := by
  have hm : (2 ^ s - 1) % 2 ^ 64 < 18446744073709551616 := Nat.mod_lt _ (by decide)
  rw [mask_cast, u64_andNot_nat _ _ hn hm, u64_and_nat _ _ hv hm, u64_or_nat _ _ (Nat.lt_of_le_of_lt Nat.and_le_left hn) (Nat.lt_of_le_of_lt Nat.and_le_left hv), ← with_nat]
  simp only [Nat.pow_zero, Nat.mul_one, Nat.mod_eq_of_lt hm, Nat.mod_eq_of_lt hv]
theorem bit_word (n p : Nat) (hn : n < 2 ^ 64) : ((IntKind.u64.wrap ((n : Int) / (p : Int))).tmod 2 == 1) = true ↔ n / p % 2 = 1 := by
  have h : n / p ≤ n := Nat.div_le_self _ _
  have e : ((n : Int) / (p : Int)) = ((n / p : Nat) : Int) := rfl
  rw [e]
  generalize n / p = q at *
  rw [IntWalk.u64_in _ (by omega), beq_iff_eq, Int.tmod_eq_emod_of_nonneg (by omega)]
  omega
theorem max_u64 : IntKind.u64.max = ((2 ^ 64 - 1 : Nat) : Int) := by decide
theorem not_word (n : Nat) (hn : n < 2 ^ 64) : bits .xor .u64 IntKind.u64.max (n : Int) = ((2 ^ 64 - 1 - n : Nat) : Int) := by
  rw [max_u64, u64_xor_nat _ _ (by decide) hn]
  congr 1
  apply Nat.eq_of_testBit_eq
  intro i
  rw [show 2 ^ 64 - 1 - n = 2 ^ 64 - (n + 1) by omega, Nat.testBit_two_pow_sub_succ hn, Nat.testBit_xor, Nat.testBit_two_pow_sub_one]
  by_cases h : i < 64
  · simp [h]
  · rw [M.testBit_high hn (by omega)]; simp [h]
theorem pow_256 (j : Nat) : 256 ^ j = 2 ^ (8 * j) := by rw [Nat.pow_mul]
theorem byte_up (n j : Nat) (hn : n ≤ 255) (hj : j < 8) : n * 2 ^ (8 * j) < 2 ^ 64 := by
  have h1 : n * 2 ^ (8 * j) ≤ 255 * 2 ^ (8 * j) := Nat.mul_le_mul_right _ hn
  have h2 : 2 ^ (8 * j) ≤ 2 ^ 56 := Nat.pow_le_pow_right (by decide) (by omega)
  omega
theorem or_word (x j : Nat) (z : Int) (hx : x < 256 ^ j) (hz : 0 ≤ z ∧ z ≤ 255) (hj : j < 8) :
    bits .or .u64 (x : Int) (IntKind.u64.wrap (z * 2 ^ (8 * j))) = ((x + z.toNat * 256 ^ j : Nat) : Int) := by
  obtain ⟨n, rfl⟩ := Int.eq_ofNat_of_zero_le hz.1
  have hn : n ≤ 255 := by omega
  have hb := byte_up n j hn hj
  rw [pow_256] at hx ⊢
  have hx2 : x < 2 ^ 64 := Nat.lt_of_lt_of_le hx (Nat.pow_le_pow_right (by decide) (by omega))
  rw [shl_cast, Nat.mod_eq_of_lt hb, u64_or_nat _ _ hx2 hb, Int.toNat_natCast]
  congr 1
  have h := Nat.two_pow_add_eq_or_of_lt hx n
  rw [Nat.mul_comm] at h
  rw [Nat.or_comm, ← h, Nat.add_comm]
theorem byte_of (n j : Nat) : ((n : Int) / 2 ^ (8 * j)) % 256 = ((n / 256 ^ j % 256 : Nat) : Int) := by
  rw [shr_cast, pow_256]
  rfl
end Go.Proofs.YtbaealdabplmdaaDoor.B
