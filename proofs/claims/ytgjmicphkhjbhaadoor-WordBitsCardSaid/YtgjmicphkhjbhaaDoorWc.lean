/- Contract of the reference's With. Nothing is written. No condition but the ranges named. -/
import Derived.Test.YtgjmicphkhjbhaaDoorWb
namespace Go.Proofs.YtgjmicphkhjbhaaDoor
open Go.RowKit
theorem rwith_high (n v : Nat) (low size : Int) (w : World) (hn : n < 2 ^ 64) (_hv : v < 2 ^ 64) (h0 : 64 ≤ low) :
    Calls Tryd.prog 17 #[.int .u64 n, .int .i64 low, .int .i64 size, .int .u64 v] w fun e w' => e = .returned (.int .u64 (M.wth n low.toNat size.toNat v : Nat)) ∧ ∃ m, w' = w.drewN m := by
  have HF := Lib.hid ((M.wth_sat n low.toNat size.toNat v 0 hn (by omega) (by omega)).trans (M.wth_zero _ _ _ hn))
  have hd : decide ((low : Int) < 64) = false := by simp; omega
  go_enter Tryd.func17, Tryd.ntmps17
  go_wp2
  go_loop [0, 9] (fun t k => t = .int .u64 n ∧ k = .int .i64 0) (fun _ _ => 0)
  case atStart => exact ⟨rfl, rfl⟩
  case round =>
    obtain ⟨rfl, rfl⟩ := hrel
    by_cases hs : 0 < size
    all_goals (go_wp2; go_ret; exact ⟨ret_int (by rw [HF.out]), nodraw _⟩)
theorem rwith_mid (n v : Nat) (low size : Int) (w : World) (hn : n < 2 ^ 64) (hv : v < 2 ^ 64) (h0 : 0 ≤ low) (h1 : low ≤ 63) :
    Calls Tryd.prog 17 #[.int .u64 n, .int .i64 low, .int .i64 size, .int .u64 v] w fun e w' => e = .returned (.int .u64 (M.wth n low.toNat size.toNat v : Nat)) ∧ ∃ m, w' = w.drewN m := by
  obtain ⟨l, rfl⟩ := Int.eq_ofNat_of_zero_le h0
  rw [Int.toNat_natCast]
  go_enter Tryd.func17, Tryd.ntmps17
  go_wp2
  go_loopw [0, 9] (fun t k wr => ∃ j : Nat, j ≤ 64 ∧ l + j ≤ 64 ∧ j ≤ size.toNat ∧ k = .int .i64 j ∧ t = .int .u64 (M.wth n l j v : Nat) ∧ ∃ m, wr = w.drewN m) (fun _ k _ => 64 - (intOf k).toNat)
  case atStart => exact ⟨0, by omega, by omega, by omega, rfl, by rw [M.wth_zero _ _ _ hn], nodraw _⟩
  case round =>
    obtain ⟨j, hj64, hlj, hjs, rfl, rfl, m, rfl⟩ := hrel
    by_cases h64 : l + j < 64
    · by_cases hs : (j : Int) < size
      · have HB := Lib.hid (M.wth_succ n l j v hn h64)
        have hlt2 := M.wth_lt n l (j + 1) v
        have hlt := M.wth_lt n l j v
        generalize M.wth n l j v = x at *
        have eN : M.bitS x ((l : Int) + (j : Int)) = x.testBit (l + j) := (M.bitS_in x _ (by omega)).trans (by rw [show (((l : Int) + (j : Int))).toNat = l + j by omega])
        have eV : M.bitS v (j : Int) = v.testBit j := (M.bitS_in v _ (by omega)).trans (by rw [Int.toNat_natCast])
        have hp1 : 1 ≤ 2 ^ (l + j) := Nat.two_pow_pos _
        have HPA : Hid (∀ W : World, Calls Tryd.prog 23 #[.int .i64 ((l : Int) + (j : Int))] W fun e w' => e = .returned (.int .u64 ((2 ^ (l + j) : Nat) : Int)) ∧ ∃ m, w' = W.drewN m) := by
          intro W
          have h := power_any ((l : Int) + (j : Int)) W (by omega) (by omega)
          rwa [show (((l : Int) + (j : Int))).toNat = l + j by omega] at h
        have hsb : x.testBit (l + j) = true → 2 ^ (l + j) ≤ x := fun hb => (M.sub_bit x _ hb).2
        generalize 2 ^ (l + j) = p at *
        cases hb : x.testBit (l + j)
        · rw [hb] at HB eN
          cases hc : v.testBit j
          · rw [hc] at HB eV
            have EN := Lib.hid eN; have EV := Lib.hid eV; clear eN eV hb hc hlt2 hsb
            go_wp2_with fail
            refine (bit_any x _ _ hlt).mono ?_
            rintro e w' ⟨rfl, m2, rfl⟩
            rw [EN.out]
            go_wp2_with fail
            refine (bit_any v _ _ hv).mono ?_
            rintro e w' ⟨rfl, m3, rfl⟩
            rw [EV.out]
            go_wp2
            go_roundw
            case rel => exact ⟨j + 1, by omega, by omega, by omega, by go_num, by rw [HB.out]; rfl, _, rfl⟩
            case measure => simp [intOf]; omega
          · rw [hc] at HB eV
            have EN := Lib.hid eN; have EV := Lib.hid eV
            have hsum : x + p < 2 ^ 64 := by have h := HB.out; simp at h; omega
            clear eN eV hb hc hlt2 hsb
            go_wp2_with fail
            refine (bit_any x _ _ hlt).mono ?_
            rintro e w' ⟨rfl, m2, rfl⟩
            rw [EN.out]
            go_wp2_with fail
            refine (bit_any v _ _ hv).mono ?_
            rintro e w' ⟨rfl, m3, rfl⟩
            rw [EV.out]
            go_wp2_with fail
            refine (HPA.out _).mono ?_
            clear HPA
            rintro e w' ⟨rfl, m4, rfl⟩
            go_wp2
            go_roundw
            case rel => exact ⟨j + 1, by omega, by omega, by omega, by go_num, by rw [HB.out]; rfl, _, rfl⟩
            case measure => simp [intOf]; omega
        · have hge := hsb hb
          rw [hb] at HB eN
          cases hc : v.testBit j
          · rw [hc] at HB eV
            have EN := Lib.hid eN; have EV := Lib.hid eV; clear eN eV hb hc hlt2 hsb
            go_wp2_with fail
            refine (bit_any x _ _ hlt).mono ?_
            rintro e w' ⟨rfl, m2, rfl⟩
            rw [EN.out]
            go_wp2_with fail
            refine (HPA.out _).mono ?_
            clear HPA
            rintro e w' ⟨rfl, m4, rfl⟩
            go_wp2_with fail
            refine (bit_any v _ _ hv).mono ?_
            rintro e w' ⟨rfl, m3, rfl⟩
            rw [EV.out]
            go_wp2
            go_roundw
            case rel => exact ⟨j + 1, by omega, by omega, by omega, by go_num, by rw [HB.out]; simp; omega, _, rfl⟩
            case measure => simp [intOf]; omega
          · rw [hc] at HB eV
            have EN := Lib.hid eN; have EV := Lib.hid eV; clear eN eV hb hc hlt2 hsb
            go_wp2_with fail
            refine (bit_any x _ _ hlt).mono ?_
            rintro e w' ⟨rfl, m2, rfl⟩
            rw [EN.out]
            go_wp2_with fail
            refine (HPA.out _).mono ?_
            rintro e w' ⟨rfl, m4, rfl⟩
            go_wp2_with fail
            refine (bit_any v _ _ hv).mono ?_
            rintro e w' ⟨rfl, m3, rfl⟩
            rw [EV.out]
            go_wp2_with fail
            refine (HPA.out _).mono ?_
            clear HPA
            rintro e w' ⟨rfl, m5, rfl⟩
            go_wp2
            go_roundw
            case rel => exact ⟨j + 1, by omega, by omega, by omega, by go_num, by rw [HB.out]; simp; omega, _, rfl⟩
            case measure => simp [intOf]; omega
      · obtain rfl : j = size.toNat := by omega
        clear hj64 hjs
        go_wp2
        all_goals (go_ret; exact ⟨rfl, by first | exact ⟨_, rfl⟩ | exact nodraw _⟩)
    · have HS := Lib.hid (M.wth_sat n l size.toNat v j hn (by omega) hjs)
      by_cases hs : (j : Int) < size
      · go_wp2
        all_goals (go_ret; exact ⟨ret_int (by rw [HS.out]), by first | exact ⟨_, rfl⟩ | exact nodraw _⟩)
      · go_wp2
        all_goals (go_ret; exact ⟨ret_int (by rw [HS.out]), by first | exact ⟨_, rfl⟩ | exact nodraw _⟩)
theorem rwith_neg (n v : Nat) (low size : Int) (w : World) (hn : n < 2 ^ 64) (hv : v < 2 ^ 64) (h0 : low < 0) :
    Calls Tryd.prog 17 #[.int .u64 n, .int .i64 low, .int .i64 size, .int .u64 v] w fun e w' => e = .returned (.int .u64 (M.wth n low.toNat size.toNat v : Nat)) ∧ ∃ m, w' = w.drewN m := by
  have hz : low.toNat = 0 := by omega
  rw [hz]
  clear hz
  go_enter Tryd.func17, Tryd.ntmps17
  go_wp2
  go_loopw [0, 9] (fun t k wr => ∃ j : Nat, j ≤ 64 ∧ 0 + j ≤ 64 ∧ j ≤ size.toNat ∧ k = .int .i64 j ∧ t = .int .u64 (M.wth n 0 j v : Nat) ∧ ∃ m, wr = w.drewN m) (fun _ k _ => 64 - (intOf k).toNat)
  case atStart => exact ⟨0, by omega, by omega, by omega, rfl, by rw [M.wth_zero _ _ _ hn], nodraw _⟩
  case round =>
    obtain ⟨j, hj64, hlj, hjs, rfl, rfl, m, rfl⟩ := hrel
    by_cases h64 : 0 + j < 64
    · by_cases hs : (j : Int) < size
      · have HB := Lib.hid (M.wth_succ n 0 j v hn h64)
        have hlt2 := M.wth_lt n 0 (j + 1) v
        have hlt := M.wth_lt n 0 j v
        generalize M.wth n 0 j v = x at *
        have eN : M.bitS x (j : Int) = x.testBit (0 + j) := (M.bitS_in x _ (by omega)).trans (by rw [show ((j : Int)).toNat = 0 + j by omega])
        have eV : M.bitS v (j : Int) = v.testBit j := (M.bitS_in v _ (by omega)).trans (by rw [Int.toNat_natCast])
        have hp1 : 1 ≤ 2 ^ (0 + j) := Nat.two_pow_pos _
        have HPA : Hid (∀ W : World, Calls Tryd.prog 23 #[.int .i64 (j : Int)] W fun e w' => e = .returned (.int .u64 ((2 ^ (0 + j) : Nat) : Int)) ∧ ∃ m, w' = W.drewN m) := by
          intro W
          have h := power_any (j : Int) W (by omega) (by omega)
          rwa [show ((j : Int)).toNat = 0 + j by omega] at h
        have hsb : x.testBit (0 + j) = true → 2 ^ (0 + j) ≤ x := fun hb => (M.sub_bit x _ hb).2
        generalize 2 ^ (0 + j) = p at *
        cases hb : x.testBit (0 + j)
        · rw [hb] at HB eN
          cases hc : v.testBit j
          · rw [hc] at HB eV
            have EN := Lib.hid eN; have EV := Lib.hid eV; clear eN eV hb hc hlt2 hsb
            go_wp2_with fail
            refine (bit_any x _ _ hlt).mono ?_
            rintro e w' ⟨rfl, m2, rfl⟩
            rw [EN.out]
            go_wp2_with fail
            refine (bit_any v _ _ hv).mono ?_
            rintro e w' ⟨rfl, m3, rfl⟩
            rw [EV.out]
            go_wp2
            go_roundw
            case rel => exact ⟨j + 1, by omega, by omega, by omega, by go_num, by rw [HB.out]; rfl, _, rfl⟩
            case measure => simp [intOf]; omega
          · rw [hc] at HB eV
            have EN := Lib.hid eN; have EV := Lib.hid eV
            have hsum : x + p < 2 ^ 64 := by have h := HB.out; simp at h; omega
            clear eN eV hb hc hlt2 hsb
            go_wp2_with fail
            refine (bit_any x _ _ hlt).mono ?_
            rintro e w' ⟨rfl, m2, rfl⟩
            rw [EN.out]
            go_wp2_with fail
            refine (bit_any v _ _ hv).mono ?_
            rintro e w' ⟨rfl, m3, rfl⟩
            rw [EV.out]
            go_wp2_with fail
            refine (HPA.out _).mono ?_
            clear HPA
            rintro e w' ⟨rfl, m4, rfl⟩
            go_wp2
            go_roundw
            case rel => exact ⟨j + 1, by omega, by omega, by omega, by go_num, by rw [HB.out]; rfl, _, rfl⟩
            case measure => simp [intOf]; omega
        · have hge := hsb hb
          rw [hb] at HB eN
          cases hc : v.testBit j
          · rw [hc] at HB eV
            have EN := Lib.hid eN; have EV := Lib.hid eV; clear eN eV hb hc hlt2 hsb
            go_wp2_with fail
            refine (bit_any x _ _ hlt).mono ?_
            rintro e w' ⟨rfl, m2, rfl⟩
            rw [EN.out]
            go_wp2_with fail
            refine (HPA.out _).mono ?_
            clear HPA
            rintro e w' ⟨rfl, m4, rfl⟩
            go_wp2_with fail
            refine (bit_any v _ _ hv).mono ?_
            rintro e w' ⟨rfl, m3, rfl⟩
            rw [EV.out]
            go_wp2
            go_roundw
            case rel => exact ⟨j + 1, by omega, by omega, by omega, by go_num, by rw [HB.out]; simp; omega, _, rfl⟩
            case measure => simp [intOf]; omega
          · rw [hc] at HB eV
            have EN := Lib.hid eN; have EV := Lib.hid eV; clear eN eV hb hc hlt2 hsb
            go_wp2_with fail
            refine (bit_any x _ _ hlt).mono ?_
            rintro e w' ⟨rfl, m2, rfl⟩
            rw [EN.out]
            go_wp2_with fail
            refine (HPA.out _).mono ?_
            rintro e w' ⟨rfl, m4, rfl⟩
            go_wp2_with fail
            refine (bit_any v _ _ hv).mono ?_
            rintro e w' ⟨rfl, m3, rfl⟩
            rw [EV.out]
            go_wp2_with fail
            refine (HPA.out _).mono ?_
            clear HPA
            rintro e w' ⟨rfl, m5, rfl⟩
            go_wp2
            go_roundw
            case rel => exact ⟨j + 1, by omega, by omega, by omega, by go_num, by rw [HB.out]; simp; omega, _, rfl⟩
            case measure => simp [intOf]; omega
      · obtain rfl : j = size.toNat := by omega
        clear hj64 hjs
        go_wp2
        all_goals (go_ret; exact ⟨rfl, by first | exact ⟨_, rfl⟩ | exact nodraw _⟩)
    · have HS := Lib.hid (M.wth_sat n 0 size.toNat v j hn (by omega) hjs)
      by_cases hs : (j : Int) < size
      · go_wp2
        all_goals (go_ret; exact ⟨ret_int (by rw [HS.out]), by first | exact ⟨_, rfl⟩ | exact nodraw _⟩)
      · go_wp2
        all_goals (go_ret; exact ⟨ret_int (by rw [HS.out]), by first | exact ⟨_, rfl⟩ | exact nodraw _⟩)
theorem rwith_any (n v : Nat) (low size : Int) (w : World) (hn : n < 2 ^ 64) (hv : v < 2 ^ 64) :
    Calls Tryd.prog 17 #[.int .u64 n, .int .i64 low, .int .i64 size, .int .u64 v] w fun e w' => e = .returned (.int .u64 (M.wth n low.toNat size.toNat v : Nat)) ∧ ∃ m, w' = w.drewN m := by
  by_cases h0 : 0 ≤ low
  · by_cases h1 : low ≤ 63
    · exact rwith_mid n v low size w hn hv h0 h1
    · exact rwith_high n v low size w hn hv (by omega)
  · exact rwith_neg n v low size w hn hv (by omega)
end Go.Proofs.YtgjmicphkhjbhaaDoor
