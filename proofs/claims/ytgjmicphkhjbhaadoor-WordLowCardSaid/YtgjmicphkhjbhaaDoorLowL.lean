/- The walk of the statement WordLow. -/
import Derived.Test.YtgjmicphkhjbhaaDoorWg
namespace Go.Proofs.YtgjmicphkhjbhaaDoor
open Go.RowKit

theorem fld_ones_of (n k : Nat) (h : ∀ j, j < k → n.testBit j = true) (hk : k ≤ 64) : M.fld n 0 k = M.fld 18446744073709551615 0 k := by
  apply Nat.eq_of_testBit_eq
  intro i
  rw [M.testBit_fld, M.testBit_fld]
  by_cases hi : i < k
  · rw [Nat.zero_add, h i hi, show (18446744073709551615 : Nat) = 2 ^ 64 - 1 by decide, Nat.testBit_two_pow_sub_one]
    simp; omega
  · simp [hi]
theorem wordLow_core (n : Nat) (many : Int) (w : World) (hn : n < 2 ^ 64) (hm : 0 ≤ many ∧ many ≤ 255) (hT : TabAt 0 Lib.deBruijn64tab w) (hs : 1 ≤ w.heap.size) :
    Calls Tryd.prog 8 #[.int .u64 n, .int .u8 many] w fun e w' => e = .returned (.bool true) ∧ Below w.heap.size w w' := by
  obtain ⟨mn, rfl⟩ := Int.eq_ofNat_of_zero_le hm.1
  obtain ⟨hl1, hl2, hl3⟩ := M.low1_spec n hn
  have HT := Lib.hid hT; clear hT
  have HLS : Hid (M.lowS n (mn : Int) = if (M.low1 n : Int) < min (mn : Int) 64 then (M.low1 n : Int) else -1) := rfl
  by_cases hk : (M.low1 n : Int) < min (mn : Int) 64
  · have h1 := HLS.out
    rw [if_pos hk] at h1
    have HL := Lib.hid h1
    have hk64 : M.low1 n < 64 := by omega
    have HF1 : Hid (M.fld n (M.low1 n) 1 = 0) := by
      show _ = _
      apply Nat.eq_of_testBit_eq
      intro i
      rw [M.testBit_fld]
      by_cases hi : i = 0
      · subst hi; rw [Nat.add_zero, hl3 hk64]; simp
      · simp; omega
    have HF2 := Lib.hid (fld_ones_of n (M.low1 n) hl2 hl1)
    clear h1 hl2 hl3 HLS
    generalize M.low1 n = k at *
    by_cases hm64 : 64 < mn
    all_goals
      go_enter Tryd.func8, Tryd.ntmps8
      go_wp2_with fail
      refine (alive_any _ HT.out hs).mono ?_
      rintro e w1 ⟨rfl, hb⟩
      have HT1 : Hid (TabAt 0 Lib.deBruijn64tab w1) := TabAt.below HT.out hb hs
      have HB := Lib.hid hb; clear hb
      go_wp2_with fail
      refine (low_any _ _ _ hn HT1.out).mono ?_
      rintro e w' ⟨rfl, m, rfl⟩
      rw [HL.out]
      go_wp2_with fail
      refine (field_any _ _ _ _ hn).mono ?_
      rintro e w' ⟨rfl, m2, rfl⟩
      rw [Int.toNat_natCast, show Int.toNat 1 = 1 from rfl, HF1.out]
      go_wp2_with fail
      refine (field_any _ _ _ _ hn).mono ?_
      rintro e w' ⟨rfl, m3, rfl⟩
      rw [Int.toNat_natCast, show Int.toNat 0 = 0 from rfl, HF2.out]
      go_wp2_with fail
      refine (field_any 18446744073709551615 _ _ _ (by decide)).mono ?_
      rintro e w' ⟨rfl, m4, rfl⟩
      rw [Int.toNat_natCast, show Int.toNat 0 = 0 from rfl]
      go_wp2
      go_ret
      exact ⟨rfl, below_drewN' HB.out _⟩
  · have h1 := HLS.out
    rw [if_neg hk] at h1
    have HL := Lib.hid h1
    have HF : ∀ l : Nat, l ≤ M.low1 n → M.fld n 0 l = M.fld 18446744073709551615 0 l := fun l hl => fld_ones_of n l (fun j hj => hl2 j (by omega)) (by omega)
    by_cases hm64 : 64 < mn
    · have HF1 := Lib.hid (HF 64 (by omega))
      clear h1 hl2 hl3 HLS HF hk hl1
      go_enter Tryd.func8, Tryd.ntmps8
      go_wp2_with fail
      refine (alive_any _ HT.out hs).mono ?_
      rintro e w1 ⟨rfl, hb⟩
      have HT1 : Hid (TabAt 0 Lib.deBruijn64tab w1) := TabAt.below HT.out hb hs
      have HB := Lib.hid hb; clear hb
      go_wp2_with fail
      refine (low_any _ _ _ hn HT1.out).mono ?_
      rintro e w' ⟨rfl, m, rfl⟩
      rw [HL.out]
      go_wp2_with fail
      refine (field_any _ _ _ _ hn).mono ?_
      rintro e w' ⟨rfl, m2, rfl⟩
      rw [show Int.toNat 0 = 0 from rfl, show Int.toNat 64 = 64 from rfl, HF1.out]
      go_wp2_with fail
      refine (field_any 18446744073709551615 _ _ _ (by decide)).mono ?_
      rintro e w' ⟨rfl, m3, rfl⟩
      rw [show Int.toNat 0 = 0 from rfl, show Int.toNat 64 = 64 from rfl]
      go_wp2
      go_ret
      exact ⟨rfl, below_drewN' HB.out _⟩
    · have HF1 := Lib.hid (HF mn (by omega))
      clear h1 hl2 hl3 HLS HF hk hl1
      go_enter Tryd.func8, Tryd.ntmps8
      go_wp2_with fail
      refine (alive_any _ HT.out hs).mono ?_
      rintro e w1 ⟨rfl, hb⟩
      have HT1 : Hid (TabAt 0 Lib.deBruijn64tab w1) := TabAt.below HT.out hb hs
      have HB := Lib.hid hb; clear hb
      go_wp2_with fail
      refine (low_any _ _ _ hn HT1.out).mono ?_
      rintro e w' ⟨rfl, m, rfl⟩
      rw [HL.out]
      go_wp2_with fail
      refine (field_any _ _ _ _ hn).mono ?_
      rintro e w' ⟨rfl, m2, rfl⟩
      rw [show Int.toNat 0 = 0 from rfl, Int.toNat_natCast, HF1.out]
      go_wp2_with fail
      refine (field_any 18446744073709551615 _ _ _ (by decide)).mono ?_
      rintro e w' ⟨rfl, m3, rfl⟩
      rw [show Int.toNat 0 = 0 from rfl, Int.toNat_natCast]
      go_wp2
      go_ret
      exact ⟨rfl, below_drewN' HB.out _⟩

theorem u64_nat {z : Int} (h : (Lit.int .u64 z).wf = true) : ∃ n : Nat, z = n ∧ n < 2 ^ 64 := by
  simp [Lit.wf, IntKind.min, IntKind.max, IntKind.signed, IntKind.bits] at h
  exact ⟨z.toNat, by omega, by omega⟩
theorem wordLow_walk (a0 a1 : Int) (w : World) (w0 : (Lit.int .u64 a0).wf = true) (w1 : (Lit.int .u8 a1).wf = true) (hT : TabAt 0 Lib.deBruijn64tab w) (hs : 1 ≤ w.heap.size) :
    Calls Tryd.prog 8 #[.int .u64 a0, .int .u8 a1] w fun e w' => e = .returned (.bool true) ∧ Below w.heap.size w w' := by
  obtain ⟨n, rfl, hn⟩ := u64_nat w0
  exact wordLow_core n a1 w hn (byte_range (zs := [a1]) (by simpa using w1) a1 (by simp)) hT hs
end Go.Proofs.YtgjmicphkhjbhaaDoor
