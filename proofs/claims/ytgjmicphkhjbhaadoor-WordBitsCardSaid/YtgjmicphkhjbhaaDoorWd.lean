/- Contracts of word.Get and of the reference's Get. Nothing is written. -/
import Derived.Test.YtgjmicphkhjbhaaDoorWc
import Derived.Test.YtgjmicphkhjbhaaDoorMem
namespace Go.Proofs.YtgjmicphkhjbhaaDoor
open Go.RowKit

theorem get_core (b o : Nat) (zs : List Int) (t : Nat) (cap : Nat) (w : World) (hl : zs.length ≤ maxLen) (ht : t % 8 = 0) (ht8 : t + 8 ≤ zs.length)
    (hc : ∀ i, i < zs.length → w.cell? ⟨b, o + i, none⟩ = some (.int .u8 (zs.getD i 0))) (hr : ∀ z ∈ zs, 0 ≤ z ∧ z ≤ 255) :
    Calls Tryd.prog 10 #[.slice (some ⟨b, o, none⟩) zs.length cap, .int .i64 t] w fun e w' => e = .returned (.tuple #[.int .u64 (M.gv zs t 8 : Nat), .bool true]) ∧ ∃ m, w' = w.drewN m := by
  have hS : M.stands zs.length (t : Int) = true := by simp [M.stands]; omega
  have HS := Lib.hid hS; clear hS
  have HC := Lib.hid hc; clear hc
  have hl' := hl
  unfold maxLen at hl'
  generalize hlen : zs.length = len at *
  have HLEN := Lib.hid hlen; clear hlen
  go_enter Tryd.func10, Tryd.ntmps10
  go_wp2_with fail
  refine (stands_any _ _ _ _ _ hl (by omega)).mono ?_
  rintro e w' ⟨rfl, m, rfl⟩
  rw [HS.out]
  go_wp2
  go_loopw [6, 12] (fun u k wr => ∃ j : Nat, j ≤ 8 ∧ k = .int .i64 j ∧ u = .int .u64 (M.gv zs t j : Nat) ∧ ∃ m, wr = w.drewN m) (fun _ k _ => 8 - (intOf k).toNat)
  case atStart => exact ⟨0, by omega, rfl, rfl, _, rfl⟩
  case round =>
    obtain ⟨j, hj8, rfl, rfl, m, rfl⟩ := hrel
    by_cases h8 : j < 8
    · have hcell : w.cell? ⟨b, o + (t + j), none⟩ = some (.int .u8 (zs.getD (t + j) 0)) := HC.out _ (by omega)
      have hz := M.getD_range hr (t + j)
      have HB : Hid (M.gv zs t (j + 1) = M.gv zs t j + (zs.getD (t + j) 0).toNat * 256 ^ j) := rfl
      have hlt := M.gv_lt hr t j
      generalize zs.getD (t + j) 0 = z at *
      have HO := Lib.hid (B.or_word _ j z hlt hz h8)
      clear hlt
      go_wp2
      go_roundw
      case rel => exact ⟨j + 1, by omega, by go_num, by rw [HO.out, HB.out], _, rfl⟩
      case measure => simp [intOf]; omega
    · obtain rfl : j = 8 := by omega
      go_wp2
      go_ret2
      exact ⟨rfl, _, rfl⟩

/-- word.Get, whatever is handed in. -/
theorem get_any (v : Value) (zs : List Int) (at' : Int) (w : World) (hv : IsBytes w v zs) (ha : -9223372036854775808 ≤ at' ∧ at' ≤ 9223372036854775807) :
    Calls Tryd.prog 10 #[v, .int .i64 at'] w fun e w' => e = .returned (.tuple #[.int .u64 (M.getW zs at' : Nat), .bool (M.stands zs.length at')]) ∧ ∃ m, w' = w.drewN m := by
  obtain ⟨a, cap, rfl, hlc, hcm, hR, hwf⟩ := hv
  have hr := byte_range hwf
  by_cases hs : 0 ≤ at' ∧ at' % 8 = 0 ∧ at' + 8 ≤ (zs.length : Int)
  · obtain ⟨t, rfl⟩ := Int.eq_ofNat_of_zero_le hs.1
    have e1 : M.stands zs.length (t : Int) = true := by simp only [M.stands, decide_eq_true_eq]; exact hs
    rcases hR with h | ⟨b, o, rfl, hc⟩
    · rw [h] at hs; simp at hs; omega
    · rw [show M.getW zs (t : Int) = M.gv zs t 8 by simp [M.getW, e1], e1]
      exact get_core b o zs t cap w (by omega) (by omega) (by omega) hc hr
  · have e1 : M.stands zs.length at' = false := by simp only [M.stands, decide_eq_false_iff_not]; exact hs
    rw [show M.getW zs at' = 0 by simp [M.getW, e1], e1]
    have E1 := Lib.hid e1; clear e1 hs hR hwf hr
    have hl : zs.length ≤ maxLen := by omega
    generalize zs.length = len at *
    go_enter Tryd.func10, Tryd.ntmps10
    go_wp2_with fail
    refine (stands_any _ _ _ _ _ hl ha).mono ?_
    rintro e w' ⟨rfl, m, rfl⟩
    rw [E1.out]
    go_wp2
    go_ret2
    exact ⟨rfl, _, rfl⟩

theorem rget_core (b o : Nat) (zs : List Int) (t : Nat) (cap : Nat) (w : World) (hl : zs.length ≤ maxLen) (ht : t % 8 = 0) (ht8 : t + 8 ≤ zs.length)
    (hc : ∀ i, i < zs.length → w.cell? ⟨b, o + i, none⟩ = some (.int .u8 (zs.getD i 0))) (hr : ∀ z ∈ zs, 0 ≤ z ∧ z ≤ 255) :
    Calls Tryd.prog 11 #[.slice (some ⟨b, o, none⟩) zs.length cap, .int .i64 t] w fun e w' => e = .returned (.tuple #[.int .u64 (M.gv zs t 8 : Nat), .bool true]) ∧ ∃ m, w' = w.drewN m := by
  have HC := Lib.hid hc; clear hc
  have hl' := hl
  unfold maxLen at hl'
  generalize hlen : zs.length = len at *
  have HLEN := Lib.hid hlen; clear hlen
  have HG := Lib.hid (M.gh_gv zs t)
  have hm8 : (t : Int) % 8 = 0 := by omega
  have HM := Lib.hid hm8
  go_enter Tryd.func11, Tryd.ntmps11
  go_wp2
  go_loopw [6, 7] (fun u k wr => ∃ i : Nat, i ≤ 8 ∧ k = .int .i64 ((i : Int) - 1) ∧ u = .int .u64 (M.gh zs t (8 - i) : Nat) ∧ ∃ m, wr = w.drewN m) (fun _ k _ => (intOf k + 1).toNat)
  case atStart => exact ⟨8, by omega, rfl, rfl, nodraw _⟩
  case round =>
    obtain ⟨i, hi8, rfl, rfl, m, rfl⟩ := hrel
    by_cases h8 : 1 ≤ i
    · have hcell : w.cell? ⟨b, o + (t + (i - 1)), none⟩ = some (.int .u8 (zs.getD (t + (i - 1)) 0)) := HC.out _ (by omega)
      have hz := M.getD_range hr (t + (i - 1))
      have HB : Hid (M.gh zs t (8 - (i - 1)) = M.gh zs t (8 - i) * 256 + (zs.getD (t + (i - 1)) 0).toNat) := by
        show _ = _
        rw [show 8 - (i - 1) = (8 - i) + 1 by omega]
        show M.gh zs t (8 - i) * 256 + (zs.getD (t + (7 - (8 - i))) 0).toNat = _
        rw [show 7 - (8 - i) = i - 1 by omega]
      have hlt := M.gh_lt hr t (8 - (i - 1))
      have hp : 256 ^ (8 - (i - 1)) ≤ 256 ^ 8 := Nat.pow_le_pow_right (by decide) (by omega)
      have hlt2 : M.gh zs t (8 - i) * 256 + (zs.getD (t + (i - 1)) 0).toNat < 18446744073709551616 := by
        have h := HB.out; rw [h] at hlt; omega
      clear hlt hp
      generalize zs.getD (t + (i - 1)) 0 = z at *
      obtain ⟨q, rfl⟩ := Int.eq_ofNat_of_zero_le hz.1
      rw [Int.toNat_natCast] at HB hlt2
      go_wp2
      go_roundw
      case rel => exact ⟨i - 1, by omega, by go_num, by rw [HB.out]; go_num, _, rfl⟩
      case measure => simp [intOf]; omega
    · obtain rfl : i = 0 := by omega
      go_wp2
      go_ret2
      exact ⟨by rw [← HG.out]; rfl, _, rfl⟩

/-- The reference's Get, whatever is handed in. -/
theorem rget_any (v : Value) (zs : List Int) (at' : Int) (w : World) (hv : IsBytes w v zs) (ha : -9223372036854775808 ≤ at' ∧ at' ≤ 9223372036854775807) :
    Calls Tryd.prog 11 #[v, .int .i64 at'] w fun e w' => e = .returned (.tuple #[.int .u64 (M.getW zs at' : Nat), .bool (M.stands zs.length at')]) ∧ ∃ m, w' = w.drewN m := by
  obtain ⟨a, cap, rfl, hlc, hcm, hR, hwf⟩ := hv
  have hr := byte_range hwf
  by_cases hs : 0 ≤ at' ∧ at' % 8 = 0 ∧ at' + 8 ≤ (zs.length : Int)
  · obtain ⟨t, rfl⟩ := Int.eq_ofNat_of_zero_le hs.1
    have e1 : M.stands zs.length (t : Int) = true := by simp only [M.stands, decide_eq_true_eq]; exact hs
    rcases hR with h | ⟨b, o, rfl, hc⟩
    · rw [h] at hs; simp at hs; omega
    · rw [show M.getW zs (t : Int) = M.gv zs t 8 by simp [M.getW, e1], e1]
      exact rget_core b o zs t cap w (by omega) (by omega) (by omega) hc hr
  · have e1 : M.stands zs.length at' = false := by simp only [M.stands, decide_eq_false_iff_not]; exact hs
    rw [show M.getW zs at' = 0 by simp [M.getW, e1], e1]
    clear e1 hR hwf hr
    have hl : zs.length ≤ maxLen := by omega
    generalize zs.length = len at *
    unfold maxLen at hl
    by_cases h0 : at' < 0
    · go_enter Tryd.func11, Tryd.ntmps11
      go_wp2
      go_ret2
      exact ⟨rfl, nodraw _⟩
    · have h1 : 0 ≤ at' := by omega
      by_cases h8 : at' % 8 = 0
      · have h2 : (len : Int) - 8 < at' := by omega
        go_enter Tryd.func11, Tryd.ntmps11
        go_wp2
        go_ret2
        exact ⟨rfl, nodraw _⟩
      · go_enter Tryd.func11, Tryd.ntmps11
        go_wp2
        go_ret2
        exact ⟨rfl, nodraw _⟩
end Go.Proofs.YtgjmicphkhjbhaaDoor
