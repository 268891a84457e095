/- Contracts of the reference's Field, With, Low and of the program's word.Low (where the table of math/bits.TrailingZeros64 holds its numbers). Nothing is written. No condition but the ranges named. -/
import Derived.Test.YtgjmicphkhjbhaaDoorWa
import Derived.Shelf.Spec.TrailingZeros
namespace Go.Proofs.YtgjmicphkhjbhaaDoor
open Go.RowKit

theorem rfield_any (n : Nat) (low size : Int) (w : World) (hn : n < 2 ^ 64) (hl : low ≤ 9223372036854775807) :
    Calls Tryd.prog 15 #[.int .u64 n, .int .i64 low, .int .i64 size] w fun e w' => e = .returned (.int .u64 (M.fld n low.toNat size.toNat : Nat)) ∧ ∃ m, w' = w.drewN m := by
  by_cases h0 : 0 ≤ low
  · obtain ⟨l, rfl⟩ := Int.eq_ofNat_of_zero_le h0
    rw [Int.toNat_natCast]
    by_cases hl64 : 64 ≤ l
    · have HF := Lib.hid (M.fld_high n l size.toNat hn hl64)
      go_enter Tryd.func15, Tryd.ntmps15
      go_wp2
      go_loop [7, 8] (fun t k => t = .int .u64 0 ∧ k = .int .i64 0) (fun _ _ => 0)
      case atStart => exact ⟨rfl, rfl⟩
      case round =>
        obtain ⟨rfl, rfl⟩ := hrel
        by_cases hs : 0 < size
        all_goals (go_wp2; go_ret; exact ⟨ret_int (by rw [HF.out]; rfl), nodraw _⟩)
    · have hl63 : l ≤ 63 := by omega
      clear hl64
      go_enter Tryd.func15, Tryd.ntmps15
      go_wp2
      go_loopw [7, 8] (fun t k wr => ∃ j : Nat, j ≤ 64 ∧ j ≤ size.toNat ∧ k = .int .i64 j ∧ t = .int .u64 (M.fld n l j : Nat) ∧ ∃ m, wr = w.drewN m) (fun _ k _ => 64 - (intOf k).toNat)
      case atStart => exact ⟨0, by omega, by omega, rfl, by rw [M.fld_zero]; rfl, nodraw _⟩
      case round =>
        obtain ⟨j, hj64, hjs, rfl, rfl, m, rfl⟩ := hrel
        by_cases h64 : j < 64
        · by_cases hs : (j : Int) < size
          · have HB := Lib.hid (M.fld_succ n l j)
            have hlt2 := M.fld_lt n l (j + 1) hn
            cases hb : n.testBit (l + j)
            · have HBT : Hid (M.bitS n ((l : Int) + (j : Int)) = false) := by
                by_cases hr : l + j ≤ 63
                · exact (M.bitS_in n _ (by omega)).trans (by rw [show (((l : Int) + (j : Int))).toNat = l + j by omega]; exact hb)
                · exact M.bitS_out n _ (by omega)
              rw [hb] at HB
              clear hb hlt2
              go_wp2_with fail
              refine (bit_any n _ _ hn).mono ?_
              rintro e w' ⟨rfl, m2, rfl⟩
              rw [HBT.out]
              go_wp2
              go_roundw
              case rel => exact ⟨j + 1, by omega, by omega, by go_num, by rw [HB.out]; rfl, _, rfl⟩
              case measure => simp [intOf]; omega
            · have hr : l + j ≤ 63 := by
                apply Nat.le_of_not_lt
                intro hr
                rw [M.testBit_high hn (by omega)] at hb
                cases hb
              have HBT : Hid (M.bitS n ((l : Int) + (j : Int)) = true) :=
                (M.bitS_in n _ (by omega)).trans (by rw [show (((l : Int) + (j : Int))).toNat = l + j by omega]; exact hb)
              have hsum : M.fld n l j + 2 ^ j < 2 ^ 64 := by have h := HB.out; rw [hb, if_pos rfl] at h; omega
              rw [hb] at HB
              clear hb hlt2
              go_wp2_with fail
              refine (bit_any n _ _ hn).mono ?_
              rintro e w' ⟨rfl, m2, rfl⟩
              rw [HBT.out]
              go_wp2_with fail
              refine (power_any _ _ (by omega) (by omega)).mono ?_
              rintro e w' ⟨rfl, m3, rfl⟩
              rw [Int.toNat_natCast]
              generalize 2 ^ j = p at *
              go_wp2
              go_roundw
              case rel => exact ⟨j + 1, by omega, by omega, by go_num, by rw [HB.out]; rfl, _, rfl⟩
              case measure => simp [intOf]; omega
          · obtain rfl : j = size.toNat := by omega
            clear hj64 hjs
            go_wp2
            go_ret
            exact ⟨rfl, by first | exact ⟨_, rfl⟩ | exact nodraw _⟩
        · obtain rfl : j = 64 := by omega
          have HS := Lib.hid (M.fld_sat n l size.toNat hn hjs)
          have hs : (64 : Int) < size ∨ size = 64 := by omega
          by_cases hs : (64 : Int) < size
          · go_wp2
            go_ret
            exact ⟨ret_int (by rw [HS.out]), by first | exact ⟨_, rfl⟩ | exact nodraw _⟩
          · obtain rfl : size = 64 := by omega
            go_wp2
            go_ret
            exact ⟨ret_int (by first | rfl | rw [HS.out]), by first | exact ⟨_, rfl⟩ | exact nodraw _⟩
  · have hz : low.toNat = 0 := by omega
    rw [hz]
    clear hz
    go_enter Tryd.func15, Tryd.ntmps15
    go_wp2
    go_loopw [7, 8] (fun t k wr => ∃ j : Nat, j ≤ 64 ∧ j ≤ size.toNat ∧ k = .int .i64 j ∧ t = .int .u64 (M.fld n 0 j : Nat) ∧ ∃ m, wr = w.drewN m) (fun _ k _ => 64 - (intOf k).toNat)
    case atStart => exact ⟨0, by omega, by omega, rfl, by rw [M.fld_zero]; rfl, nodraw _⟩
    case round =>
      obtain ⟨j, hj64, hjs, rfl, rfl, m, rfl⟩ := hrel
      by_cases h64 : j < 64
      · by_cases hs : (j : Int) < size
        · have HB := Lib.hid (M.fld_succ n 0 j)
          have hlt2 := M.fld_lt n 0 (j + 1) hn
          cases hb : n.testBit (0 + j)
          · have HBT : Hid (M.bitS n (j : Int) = false) := by
              by_cases hr : 0 + j ≤ 63
              · exact (M.bitS_in n _ (by omega)).trans (by rw [show ((j : Int)).toNat = 0 + j by omega]; exact hb)
              · exact M.bitS_out n _ (by omega)
            rw [hb] at HB
            clear hb hlt2
            go_wp2_with fail
            refine (bit_any n _ _ hn).mono ?_
            rintro e w' ⟨rfl, m2, rfl⟩
            rw [HBT.out]
            go_wp2
            go_roundw
            case rel => exact ⟨j + 1, by omega, by omega, by go_num, by rw [HB.out]; rfl, _, rfl⟩
            case measure => simp [intOf]; omega
          · have hr : 0 + j ≤ 63 := by
              apply Nat.le_of_not_lt
              intro hr
              rw [M.testBit_high hn (by omega)] at hb
              cases hb
            have HBT : Hid (M.bitS n (j : Int) = true) :=
              (M.bitS_in n _ (by omega)).trans (by rw [show ((j : Int)).toNat = 0 + j by omega]; exact hb)
            have hsum : M.fld n 0 j + 2 ^ j < 2 ^ 64 := by have h := HB.out; rw [hb, if_pos rfl] at h; omega
            rw [hb] at HB
            clear hb hlt2
            go_wp2_with fail
            refine (bit_any n _ _ hn).mono ?_
            rintro e w' ⟨rfl, m2, rfl⟩
            rw [HBT.out]
            go_wp2_with fail
            refine (power_any _ _ (by omega) (by omega)).mono ?_
            rintro e w' ⟨rfl, m3, rfl⟩
            rw [Int.toNat_natCast]
            generalize 2 ^ j = p at *
            go_wp2
            go_roundw
            case rel => exact ⟨j + 1, by omega, by omega, by go_num, by rw [HB.out]; rfl, _, rfl⟩
            case measure => simp [intOf]; omega
        · obtain rfl : j = size.toNat := by omega
          clear hj64 hjs
          go_wp2
          go_ret
          exact ⟨rfl, by first | exact ⟨_, rfl⟩ | exact nodraw _⟩
      · obtain rfl : j = 64 := by omega
        have HS := Lib.hid (M.fld_sat n 0 size.toNat hn hjs)
        have hs : (64 : Int) < size ∨ size = 64 := by omega
        by_cases hs : (64 : Int) < size
        · go_wp2
          go_ret
          exact ⟨ret_int (by rw [HS.out]), by first | exact ⟨_, rfl⟩ | exact nodraw _⟩
        · obtain rfl : size = 64 := by omega
          go_wp2
          go_ret
          exact ⟨ret_int (by first | rfl | rw [HS.out]), by first | exact ⟨_, rfl⟩ | exact nodraw _⟩
theorem rlow_any (n : Nat) (many : Int) (w : World) (hn : n < 2 ^ 64) :
    Calls Tryd.prog 19 #[.int .u64 n, .int .i64 many] w fun e w' => e = .returned (.int .i64 (M.lowS n many)) ∧ ∃ m, w' = w.drewN m := by
  obtain ⟨h1, h2, h3⟩ := M.low1_spec n hn
  have H2 := Lib.hid h2; clear h2
  have H3 := Lib.hid h3; clear h3
  go_enter Tryd.func19, Tryd.ntmps19
  go_wp2
  go_loopw [5] (fun k wr => ∃ j : Nat, j ≤ 64 ∧ j ≤ M.low1 n ∧ k = .int .i64 j ∧ ∃ m, wr = w.drewN m) (fun k _ => 64 - (intOf k).toNat)
  case atStart => exact ⟨0, by omega, by omega, rfl, nodraw _⟩
  case round =>
    obtain ⟨j, hj64, hjl, rfl, m, rfl⟩ := hrel
    by_cases h64 : j < 64
    · by_cases hs : (j : Int) < many
      · by_cases he : j = M.low1 n
        · have HBT : Hid (M.bitS n (j : Int) = false) :=
            (M.bitS_in n _ (by omega)).trans (by rw [Int.toNat_natCast, he]; exact H3.out (by omega))
          have HL : Hid (M.lowS n many = j) := by
            show _ = _
            unfold M.lowS
            rw [if_pos (by omega), he]
          clear he
          go_wp2_with fail
          refine (bit_any n _ _ hn).mono ?_
          rintro e w' ⟨rfl, m2, rfl⟩
          rw [HBT.out]
          go_wp2
          go_ret
          exact ⟨ret_int (by rw [HL.out]), _, rfl⟩
        · have HBT : Hid (M.bitS n (j : Int) = true) :=
            (M.bitS_in n _ (by omega)).trans (by rw [Int.toNat_natCast]; exact H2.out j (by omega))
          go_wp2_with fail
          refine (bit_any n _ _ hn).mono ?_
          rintro e w' ⟨rfl, m2, rfl⟩
          rw [HBT.out]
          go_wp2
          go_roundw
          case rel => exact ⟨j + 1, by omega, by omega, by go_num, _, rfl⟩
          case measure => simp [intOf]; omega
      · have HL : Hid (M.lowS n many = -1) := by
          show _ = _
          unfold M.lowS
          rw [if_neg (by omega)]
        go_wp2
        go_ret
        exact ⟨ret_int (by rw [HL.out]), by first | exact ⟨_, rfl⟩ | exact nodraw _⟩
    · obtain rfl : j = 64 := by omega
      have HL : Hid (M.lowS n many = -1) := by
        show _ = _
        unfold M.lowS
        rw [if_neg (by omega)]
      by_cases hs : (64 : Int) < many
      all_goals (go_wp2; go_ret; exact ⟨ret_int (by rw [HL.out]), by first | exact ⟨_, rfl⟩ | exact nodraw _⟩)
theorem tz_core (x k idx : Nat) (w : World) (hx0 : ((x : Int) == 0) = false)
    (key : IntKind.u64.wrap (bits BinOp.and IntKind.u64 (x : Int) (IntKind.u64.wrap (-(x : Int))) * 285870213051353865) / 288230376151711744 = (idx : Int))
    (hi : idx < 64) (hk : k < 64) (hcell : w.cell? ⟨0, idx, none⟩ = some (.int .u8 k)) :
    Calls Tryd.prog 24 #[.int .u64 x] w fun e w' => e = .returned (.int .i64 k) ∧ ∃ m, w' = w.drewN m := by
  go_enter Tryd.func24, Tryd.ntmps24
  go_wp2_with (simp only [key])
  go_ret
  exact ⟨rfl, nodraw _⟩
theorem tz_zero (w : World) :
    Calls Tryd.prog 24 #[.int .u64 0] w fun e w' => e = .returned (.int .i64 64) ∧ ∃ m, w' = w.drewN m := by
  go_enter Tryd.func24, Tryd.ntmps24
  go_wp2
  go_ret
  exact ⟨rfl, nodraw _⟩
theorem tz_any (x : Nat) (w : World) (hx : x < 18446744073709551616) (hT : TabAt 0 Lib.deBruijn64tab w) :
    Calls Tryd.prog 24 #[.int .u64 x] w fun e w' => e = .returned (.int .i64 (Lib.ctz 64 x)) ∧ ∃ m, w' = w.drewN m := by
  by_cases hx0 : x = 0
  · subst hx0
    exact tz_zero w
  · obtain ⟨hlow, hk⟩ := Lib.lowest_bit 64 x hx0 hx
    obtain ⟨hi, htab⟩ := Lib.deBruijn64_at _ hk
    have hcell := hT _ hi
    rw [htab] at hcell
    exact tz_core x _ _ w (by simp; omega) (tz64_key x _ hx hx0 hlow) hi hk hcell
theorem low_any (n : Nat) (many : Int) (w : World) (hn : n < 2 ^ 64) (hT : TabAt 0 Lib.deBruijn64tab w) :
    Calls Tryd.prog 18 #[.int .u64 n, .int .i64 many] w fun e w' => e = .returned (.int .i64 (M.lowS n many)) ∧ ∃ m, w' = w.drewN m := by
  have HN := Lib.hid (B.not_word n hn)
  obtain ⟨h1, _, _⟩ := M.low1_spec n hn
  have HT := Lib.hid hT; clear hT
  have HL : Hid (M.lowS n many = if (M.low1 n : Int) < min many 64 then (M.low1 n : Int) else -1) := rfl
  have hL : Hid (Lib.ctz 64 (2 ^ 64 - 1 - n) = M.low1 n) := rfl
  by_cases hs : 64 < many
  · by_cases hk : M.low1 n < 64
    · go_enter Tryd.func18, Tryd.ntmps18
      go_wp2_with fail
      rw [HN.out]
      refine (tz_any _ _ (by omega) HT.out).mono ?_
      rintro e w' ⟨rfl, m, rfl⟩
      rw [hL.out]
      go_wp2
      go_ret
      exact ⟨ret_int (by rw [HL.out, if_pos (by omega)]), _, rfl⟩
    · go_enter Tryd.func18, Tryd.ntmps18
      go_wp2_with fail
      rw [HN.out]
      refine (tz_any _ _ (by omega) HT.out).mono ?_
      rintro e w' ⟨rfl, m, rfl⟩
      rw [hL.out]
      go_wp2
      go_ret
      exact ⟨ret_int (by rw [HL.out, if_neg (by omega)]), _, rfl⟩
  · by_cases hk : (M.low1 n : Int) < many
    · go_enter Tryd.func18, Tryd.ntmps18
      go_wp2_with fail
      rw [HN.out]
      refine (tz_any _ _ (by omega) HT.out).mono ?_
      rintro e w' ⟨rfl, m, rfl⟩
      rw [hL.out]
      go_wp2
      go_ret
      exact ⟨ret_int (by rw [HL.out, if_pos (by omega)]), _, rfl⟩
    · go_enter Tryd.func18, Tryd.ntmps18
      go_wp2_with fail
      rw [HN.out]
      refine (tz_any _ _ (by omega) HT.out).mono ?_
      rintro e w' ⟨rfl, m, rfl⟩
      rw [hL.out]
      go_wp2
      go_ret
      exact ⟨ret_int (by rw [HL.out, if_neg (by omega)]), _, rfl⟩
end Go.Proofs.YtgjmicphkhjbhaaDoor
