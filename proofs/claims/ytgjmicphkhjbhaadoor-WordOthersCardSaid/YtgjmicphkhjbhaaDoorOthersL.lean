/- The walk of the statement WordOthers. -/
import Derived.Test.YtgjmicphkhjbhaaDoorWg
namespace Go.Proofs.YtgjmicphkhjbhaaDoor
open Go.RowKit

/-- Where bytes differ behind a Put, there was a word, and they lie in it. -/
theorem putB_other (zs : List Int) (at' : Int) (n i : Nat) (hi : i < zs.length) (h : zs.getD i 0 ≠ (M.putB zs at' n).getD i 0) :
    M.stands zs.length at' = true ∧ at' ≤ (i : Int) ∧ (i : Int) < at' + 8 ∧ at' + 8 ≤ (zs.length : Int) ∧ 0 ≤ at' := by
  unfold M.putB at h
  split at h
  · rename_i hs
    have hs' := of_decide_eq_true hs
    obtain ⟨t, rfl⟩ := Int.eq_ofNat_of_zero_le hs'.1
    rw [Int.toNat_natCast, M.pv_getD _ _ _ _ _ hi] at h
    by_cases h2 : t ≤ i ∧ i < t + 8
    · exact ⟨hs, by omega, by omega, hs'.2.2, hs'.1⟩
    · rw [if_neg h2] at h; exact absurd rfl h
  · exact absurd rfl h
theorem putB_length (zs : List Int) (at' : Int) (n : Nat) : (M.putB zs at' n).length = zs.length := by
  unfold M.putB; split
  · exact M.pv_length _ _ _ _
  · rfl

theorem wordOthers_core (v : Value) (zs : List Int) (at' : Int) (n : Nat) (w : World) (hv : IsBytes w v zs) (ha : -9223372036854775808 ≤ at' ∧ at' ≤ 9223372036854775807) (hn : n < 2 ^ 64)
    (hT : TabAt 0 Lib.deBruijn64tab w) (hs : 1 ≤ w.heap.size) :
    Calls Tryd.prog 7 #[v, .int .i64 at', .int .u64 n] w fun e w' => e = .returned (.bool true) ∧ Below w.heap.size w w' := by
  have HT := Lib.hid hT; clear hT
  have HV := Lib.hid hv
  obtain ⟨a, cap, rfl, _, _, _, _⟩ := hv
  by_cases hlen : 1000 < zs.length
  · generalize zs.length = len at *
    go_enter Tryd.func7, Tryd.ntmps7
    go_wp2_with fail
    refine (alive_any _ HT.out hs).mono ?_
    rintro e w1 ⟨rfl, hb⟩
    have HB := Lib.hid hb; clear hb
    go_wp2
    go_ret
    exact ⟨rfl, HB.out⟩
  · obtain ⟨len, hle⟩ : ∃ len, len = zs.length := ⟨_, rfl⟩
    have HLE := Lib.hid hle
    rw [← hle] at hlen HV ⊢
    clear hle
    go_enter Tryd.func7, Tryd.ntmps7
    go_wp2_with fail
    refine (alive_any _ HT.out hs).mono ?_
    rintro e w1 ⟨rfl, hb⟩
    have HV1 := Lib.hid (HV.out.below hb)
    have HB := Lib.hid hb; clear hb
    go_wp2_with fail
    refine (put_any _ _ _ _ _ HV1.out (by rw [← HLE.out]; omega) ha hn).mono ?_
    rintro e w2 ⟨c, rfl, hc, hb2⟩
    have HV2 := Lib.hid (HV1.out.below hb2)
    have HB2 : Hid (Below w.heap.size w w2) := HB.out.trans (hb2.mono HB.out.size)
    clear hb2
    obtain ⟨a2, cap2, rfl, _, _, hR2, _⟩ := hc
    have HR2 := Lib.hid hR2; clear hR2
    have HOL : Hid ((M.putB zs at' n).length = len) := by show _ = _; rw [putB_length, HLE.out]
    rw [HOL.out]
    have HPO : Hid (∀ i, i < len → zs.getD i 0 ≠ (M.putB zs at' n).getD i 0 → M.stands len at' = true ∧ at' ≤ (i : Int) ∧ (i : Int) < at' + 8 ∧ at' + 8 ≤ (len : Int) ∧ 0 ≤ at') := by
      show ∀ i, _
      rw [HLE.out]
      exact fun i hi h => putB_other zs at' n i hi h
    rw [← HLE.out]
    obtain ⟨out, hout⟩ : ∃ out, out = M.putB zs at' n := ⟨_, rfl⟩
    rw [← hout] at HR2 HOL HPO
    obtain ⟨ok, hok⟩ : ∃ ok, ok = M.stands len at' := ⟨_, rfl⟩
    have HOK := Lib.hid hok
    rw [← hok]
    rw [← hok] at HPO
    clear hout hok
    go_wp2
    go_loopw [9, 31] (fun _ k wr => ∃ i : Nat, i ≤ len ∧ k = .int .i64 i ∧ ∃ m, wr = w2.drewN m) (fun _ k _ => len - (intOf k).toNat)
    case atStart => exact ⟨0, by omega, rfl, nodraw _⟩
    case round =>
      obtain ⟨i, hil, rfl, m, rfl⟩ := hrel
      by_cases hi : i < len
      · obtain ⟨_, _, h1, _, _, hRz, _⟩ := HV2.out
        have hcz : ∃ b o, a = some ⟨b, o, none⟩ ∧ w2.cell? ⟨b, o + i, none⟩ = some (.int .u8 (zs.getD i 0)) := by
          simp only [Value.slice.injEq] at h1
          obtain ⟨rfl, _, _⟩ := h1
          rcases hRz with h | ⟨b, o, h, hc⟩
          · exfalso; have := HLE.out; rw [h] at this; simp at this; omega
          · exact ⟨b, o, h, hc i (by rw [← HLE.out]; exact hi)⟩
        have hcy : ∃ b o, a2 = some ⟨b, o, none⟩ ∧ w2.cell? ⟨b, o + i, none⟩ = some (.int .u8 (out.getD i 0)) := by
          rcases HR2.out with h | ⟨b, o, h, hc⟩
          · exfalso; have := HOL.out; rw [h] at this; simp at this; omega
          · exact ⟨b, o, h, hc i (by rw [HOL.out]; exact hi)⟩
        obtain ⟨b, o, rfl, hc1⟩ := hcz
        obtain ⟨b2, o2, rfl, hc2⟩ := hcy
        clear hRz h1
        by_cases he : zs.getD i 0 = out.getD i 0
        · rw [← he] at hc2
          generalize zs.getD i 0 = z at *
          clear he
          go_wp2_with fail
          go_quiet (fail)
          go_wp2
          go_roundw
          case rel => exact ⟨i + 1, by omega, by go_num, _, rfl⟩
          case measure => simp [intOf]; omega
        · obtain ⟨rfl, g1, g2, g3, g4⟩ := HPO.out i hi he
          have hne : (zs.getD i 0 != out.getD i 0) = true := by simpa [bne_iff_ne] using he
          generalize zs.getD i 0 = z at *
          generalize out.getD i 0 = y at *
          clear he
          have hw : IntKind.i64.wrap (at' + 8) = at' + 8 := IntWalk.i64_in _ (by omega)
          go_wp2_with fail
          go_quiet (fail)
          clear hw
          go_wp2
          go_roundw
          case rel => exact ⟨i + 1, by omega, by go_num, _, rfl⟩
          case measure => simp [intOf]; omega
      · obtain rfl : i = len := by omega
        go_wp2_with fail
        refine (get_any _ _ _ _ (by exact HV2.out) ha).mono ?_
        rintro e w' ⟨rfl, m1, rfl⟩
        rw [← HLE.out, ← HOK.out]
        go_wp2
        go_ret
        exact ⟨rfl, below_drewN' HB2.out _⟩

theorem wordOthers_walk (b0 : Option Addr) (len0 cap0 : Nat) (z0 : List Int) (a1 a2 : Int) (w : World) (w0 : IsInts .u8 w (.slice b0 len0 cap0) z0) (w1 : (Lit.int .i64 a1).wf = true) (w2 : (Lit.int .u64 a2).wf = true)
    (hT : TabAt 0 Lib.deBruijn64tab w) (hs : 1 ≤ w.heap.size) :
    Calls Tryd.prog 7 #[.slice b0 len0 cap0, .int .i64 a1, .int .u64 a2] w fun e w' => e = .returned (.bool true) ∧ Below w.heap.size w w' := by
  have h2 : ∃ n : Nat, a2 = n ∧ n < 2 ^ 64 := by
    simp [Lit.wf, IntKind.min, IntKind.max, IntKind.signed, IntKind.bits] at w2
    exact ⟨a2.toNat, by omega, by omega⟩
  obtain ⟨n, rfl, hn⟩ := h2
  have h1 : -9223372036854775808 ≤ a1 ∧ a1 ≤ 9223372036854775807 := by
    simp [Lit.wf, IntKind.min, IntKind.max, IntKind.signed, IntKind.bits] at w1
    omega
  exact wordOthers_core _ z0 a1 n w w0 h1 hn hT hs
end Go.Proofs.YtgjmicphkhjbhaaDoor
