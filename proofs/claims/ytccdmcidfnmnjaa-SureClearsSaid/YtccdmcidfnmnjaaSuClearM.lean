/- The walk of SureClears: what is cleared; all cases. -/
import Derived.Test.YtccdmcidfnmnjaaSuClearL
namespace Go.Proofs.Ytccdmcidfnmnjaa
open Go.RowKit

section
variable (A : Option Addr) (len cap : Nat) (l : List Nat) (off many : Int) (w : World) (hw : IsWords w (.slice A len cap) l) (hn : ∀ n ∈ l, n < 2 ^ 64) (h80 : len ≤ 80) (hoff : I64 off) (hmany : I64 many)
include hw hn h80 hoff hmany
set_option maxHeartbeats 8000000 in
set_option maxRecDepth 100000 in
theorem clears_in (hx : 0 ≤ many ∧ many ≤ 1024 ∧ off % 64 = 0) (hy : 0 ≤ off ∧ off + 64 * many ≤ 512) :
    Calls Try.prog 5 #[.slice A len cap, .int .i64 off, .int .i64 many] w fun e w' => e = .returned (.bool true) ∧ Below w.heap.size w w' := by
  obtain ⟨_, hlc, hlm⟩ := hw.len
  unfold maxLen at hlm
  have hlen := hw.len.1
  have hoff' : -9223372036854775808 ≤ off ∧ off ≤ 9223372036854775807 := hoff
  have hmany' : -9223372036854775808 ≤ many ∧ many ≤ 9223372036854775807 := hmany
  have hst : (V.twoDv l 255).steps ≤ 80 := by
    show ((V.stored l l.length).stop (255 : Int)).steps ≤ _
    rw [V.stop_steps]
    have := V.stored_steps l l.length
    omega
  have hd8 := V.twoDv_len l 255
  have hleft : (V.twoDv l 255).left = 255 := V.twoDv_left l 255
  have HTW : Hid (∀ W, Below w.heap.size w W → Calls Try.prog 35 #[.slice A len cap, .int .u8 255] W fun e w' => ∃ D1 D2, e = .returned (.tuple #[.pointer (some ⟨D1, 0, none⟩), .pointer (some ⟨D2, 0, none⟩)]) ∧ Both w (.pointer (some ⟨D1, 0, none⟩)) (V.twoDv l 255) (.pointer (some ⟨D2, 0, none⟩)) (V.twoDv l 255) w') := fun W hb => two_any W hb A len cap l hw hn h80 255 (by decide)
  clear hw hn hlen
  generalize V.twoDv l 255 = d at *
  have HV := Lib.hid (fun hg => V.clear_in (d := d) hg hd8 hleft hx hy)
  obtain ⟨hm0, hm1, hz⟩ := hx
  obtain ⟨hy0, hy1⟩ := hy
  have hb : (off % 64 != 0) = false := by simpa using hz
  have HZ := Lib.hid hz
  clear hz
  go_enter Try.func5, Try.ntmps5
  go_wp2_with fail
  refine (alive4_any _).mono ?_
  rintro e w1 ⟨rfl, hb1⟩
  have HT1 := Lib.hid (HTW.out w1 hb1)
  clear hb1
  go_wp2_with fail
  refine HT1.out.mono ?_
  rintro e w2 ⟨D, D2, rfl, hd2⟩
  have HD2 := Lib.hid hd2.one
  have HIL : Hid (d.image.length = 512) := by show _ = _; rw [V.image_length hd2.one.good.lines, hd8]
  clear hd2
  go_wp2_with fail
  refine (in_image HD2.out).mono ?_
  rintro e w3 ⟨⟨g1, rfl, hg1, hi1, hbi1⟩, hd3⟩
  rw [HIL.out] at hi1 ⊢
  have hg1l : g1 < w3.heap.size := World.block_lt_of_cell? w3 _ (byte_cell hi1 0 (by decide))
  have HK3 := Lib.hid (HD2.out.devK.newer (K' := [g1]) hbi1 (fun k hk => .inr (by obtain rfl := List.mem_singleton.1 hk; exact ⟨hg1, hg1l⟩)))
  have HI3 := Lib.hid hi1
  clear hi1 hbi1 hd3 hg1 hg1l
  have HCL := Lib.hid (HK3.out.run (fun F hF => su_clear hF off many hoff hmany (by omega)))
  obtain ⟨v1, v2, v3, v4, v5⟩ := HV.out HD2.out.good
  have V5 := Lib.hid v5
  have HIL2 : Hid ((d.clear off many).1.image.length = 512) := by show _ = _; rw [V.image_length v3.lines, v2]
  have hst2 : (d.clear off many).1.steps ≤ 1000000000 := by omega
  rw [v1] at HCL
  clear v1 v2 v3 v4 v5 HV
  generalize (d.clear off many).1 = d1 at *
  obtain ⟨mm, hmm⟩ : ∃ mm : Int, mm = 64 * many := ⟨_, rfl⟩
  have hmm2 : 64 * many = mm := hmm.symm
  obtain ⟨en, hen⟩ : ∃ en : Int, en = off + mm := ⟨_, rfl⟩
  have hen2 : off + mm = en := hen.symm
  have hen3 : 0 ≤ en ∧ en ≤ 512 := by omega
  have hmm3 : 0 ≤ mm ∧ mm ≤ 512 := by omega
  rw [hmm2, hen2] at V5
  have HMM := Lib.hid hmm; have HEN := Lib.hid hen
  clear hmm hen hy1
  go_wp2_with fail
  refine HCL.out.mono ?_
  rintro e w4 ⟨rfl, hk4, hkb⟩
  have HI4 := Lib.hid (keep_bytes HI3.out hkb (by simp))
  have HD4 := Lib.hid hk4.devIn
  clear hk4 hkb
  go_wp2_with fail
  refine (in_image HD4.out).mono ?_
  rintro e w5 ⟨⟨g2, rfl, hg2, hi2, hbi2⟩, hd5⟩
  rw [HIL2.out] at hi2 ⊢
  have HI5 := Lib.hid (IsInts.below HI4.out hbi2)
  have HJ5 := Lib.hid hi2
  have HD5 := Lib.hid hd5
  clear hi2 hbi2 hd5 hg2
  clear HCL HI4 HI3 HK3
  generalize d1.image = im2 at *
  generalize d.image = im1 at *
  go_wp2_with fail
  go_loopw [12, 13, 80] (fun _ _ x wr => ∃ i : Nat, i ≤ 512 ∧ x = .int .i64 i ∧ Hid (∃ m, wr = w5.drewN m)) (fun _ _ x _ => 512 - (intOf x).toNat)
  case atStart => exact ⟨0, by omega, rfl, nodraw _⟩
  case round =>
    obtain ⟨i, hi, rfl, hwr⟩ := hrel
    have HDW : Hid (∀ n, DevIn w (.pointer (some ⟨D, 0, none⟩)) d1 (wr.drewN n)) := fun n => by obtain ⟨m, e⟩ := hwr.out; rw [e]; exact (HD5.out.drewN m).drewN n
    have HNX : Hid (∀ n, ∃ m, wr.drewN n = w5.drewN m) := fun n => by obtain ⟨m, e⟩ := hwr.out; rw [e, World.drewN_drewN]; exact ⟨_, rfl⟩
    by_cases hlt2 : i < 512
    · have c1 : wr.cell? ⟨g1, i, none⟩ = some (.int .u8 (im1.getD i 0)) := by
        obtain ⟨m, e⟩ := hwr.out
        have h := byte_cell HI5.out i hlt2
        rw [Nat.zero_add] at h
        rw [e]; exact h
      have c2 : wr.cell? ⟨g2, i, none⟩ = some (.int .u8 (im2.getD i 0)) := by
        obtain ⟨m, e⟩ := hwr.out
        have h := byte_cell HJ5.out i hlt2
        rw [Nat.zero_add] at h
        rw [e]; exact h
      obtain ⟨u1, u2⟩ := V5.out i hlt2
      generalize im2.getD i 0 = z2 at *
      generalize im1.getD i 0 = z1 at *
      by_cases hin : off ≤ (i : Int) ∧ (i : Int) < en
      · obtain ⟨rfl, t2⟩ := u1 hin
        obtain ⟨hin1, hin2⟩ := hin
        have HM1 : Hid (∀ n, Calls Try.prog 23 #[.pointer (some ⟨D, 0, none⟩), .int .i64 ((i : Int) / 64)] (wr.drewN n) fun e w' => e = .returned (.int .i64 1) ∧ ∃ m, w' = (wr.drewN n).drewN m) := by
          intro n
          have h := in_may (HDW.out n) ((i : Int) / 64) ⟨by omega, by omega⟩ hst2
          rw [t2] at h
          exact h.mono fun e w' ⟨a, b⟩ => ⟨a, 0, b.symm⟩
        have k5 : decide ((i : Int) < en) = true := by simpa using hin2
        have k6 : decide (off ≤ (i : Int)) = true := by simpa using hin1
        clear u1 u2 t2
        go_wp2_with fail
        go_quiet ((go_at_call 23; exact Calls.quiet_of (HM1.out _)))
        go_wp2
        go_roundw
        case rel => exact ⟨i + 1, by omega, by go_num, HNX.out _⟩
        case measure => simp [intOf]; omega
      · have t2 := u2 hin
        subst t2
        have hzb : (z2 != z2) = false := by simp
        have hin2 : (i : Int) < off ∨ (off ≤ (i : Int) ∧ en ≤ (i : Int)) := by omega
        clear u1 u2 hin
        rcases hin2 with hin | ⟨hin1, hin2⟩
        · have k6 : decide (off ≤ (i : Int)) = false := by simpa using hin
          go_wp2_with fail
          go_quiet (fail)
          go_wp2
          go_roundw
          case rel => exact ⟨i + 1, by omega, by go_num, HNX.out _⟩
          case measure => simp [intOf]; omega
        · have k5 : decide ((i : Int) < en) = false := by simpa using hin2
          go_wp2_with fail
          go_quiet (fail)
          go_wp2
          go_roundw
          case rel => exact ⟨i + 1, by omega, by go_num, HNX.out _⟩
          case measure => simp [intOf]; omega
    · obtain rfl : i = 512 := by omega
      have HBE := Lib.hid (HDW.out 0).below
      clear HDW HNX hwr
      go_wp2
      go_ret
      exact ⟨rfl, HBE.out⟩
end
set_option maxRecDepth 100000 in
theorem sureClears_walk (A : Option Addr) (len cap : Nat) (zs : List Int) (off many : Int) (w : World) (h0 : IsInts .u64 w (.slice A len cap) zs) (h1 : (Lit.int .i64 off).wf = true) (h2 : (Lit.int .i64 many).wf = true) :
    Calls Try.prog 5 #[.slice A len cap, .int .i64 off, .int .i64 many] w fun e w' => e = .returned (.bool true) ∧ Below w.heap.size w w' := by
  obtain ⟨hw, hn⟩ := words_in h0
  have hoff := su_i64 h1
  have hmany := su_i64 h2
  by_cases h80 : 80 < len
  · obtain ⟨_, hlc, hlm⟩ := hw.len
    unfold maxLen at hlm
    clear hw hn h0 h1 h2 hoff hmany
    go_enter Try.func5, Try.ntmps5
    go_wp2_with fail
    refine (alive4_any _).mono ?_
    rintro e w1 ⟨rfl, hb1⟩
    have HB1 := Lib.hid hb1
    clear hb1
    go_wp2
    go_ret
    exact ⟨rfl, HB1.out⟩
  · by_cases hx : 0 ≤ many ∧ many ≤ 1024 ∧ off % 64 = 0
    · by_cases hy : 0 ≤ off ∧ off + 64 * many ≤ 512
      · exact clears_in A len cap _ off many w hw hn (by omega) hoff hmany hx hy
      · exact clears_out A len cap _ off many w hw hn (by omega) hoff hmany hx hy
    · exact clears_big A len cap _ off many w hw hn (by omega) hoff hmany hx
end Go.Proofs.Ytccdmcidfnmnjaa
