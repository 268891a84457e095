/- The walk of SureClears: whatever is handed in, the call answers true, and what was there stays. -/
import Derived.Test.YtccdmcidfnmnjaaSuR
namespace Go.Proofs.Ytccdmcidfnmnjaa
open Go.RowKit

theorem keep_bytes {w w' : World} {K : List Nat} {g n c : Nat} {zs : List Int} (h : IsBytes w (.slice (some ⟨g, 0, none⟩) n c) zs) (hk : KeepB K w w') (hg : g ∈ K) : IsBytes w' (.slice (some ⟨g, 0, none⟩) n c) zs := IsInts.keep h hk hg
section
variable (A : Option Addr) (len cap : Nat) (l : List Nat) (off many : Int) (w : World) (hw : IsWords w (.slice A len cap) l) (hn : ∀ n ∈ l, n < 2 ^ 64) (h80 : len ≤ 80) (hoff : I64 off) (hmany : I64 many)
include hw hn h80 hoff hmany
set_option maxHeartbeats 8000000 in
set_option maxRecDepth 100000 in
theorem clears_big (hx : ¬ (0 ≤ many ∧ many ≤ 1024 ∧ off % 64 = 0)) :
    Calls Try.prog 5 #[.slice A len cap, .int .i64 off, .int .i64 many] w fun e w' => e = .returned (.bool true) ∧ Below w.heap.size w w' := by
  obtain ⟨_, hlc, hlm⟩ := hw.len
  unfold maxLen at hlm
  have hlen := hw.len.1
  have hoff' : -9223372036854775808 ≤ off ∧ off ≤ 9223372036854775807 := hoff
  have hmany' : -9223372036854775808 ≤ many ∧ many ≤ 9223372036854775807 := hmany
  have hst : (V.twoDv l 255).steps ≤ 80 := by
    show ((V.stored l l.length).stop (255 : Int)).steps ≤ _
    rw [V.stop_steps]
    have := V.stored_steps l l.length
    omega
  have hd8 := V.twoDv_len l 255
  have hleft : (V.twoDv l 255).left = 255 := V.twoDv_left l 255
  have HTW : Hid (∀ W, Below w.heap.size w W → Calls Try.prog 35 #[.slice A len cap, .int .u8 255] W fun e w' => ∃ D1 D2, e = .returned (.tuple #[.pointer (some ⟨D1, 0, none⟩), .pointer (some ⟨D2, 0, none⟩)]) ∧ Both w (.pointer (some ⟨D1, 0, none⟩)) (V.twoDv l 255) (.pointer (some ⟨D2, 0, none⟩)) (V.twoDv l 255) w') := fun W hb => two_any W hb A len cap l hw hn h80 255 (by decide)
  clear hw hn hlen
  generalize V.twoDv l 255 = d at *
  have HV : Hid (d.clear off many = (d, 2)) := V.clear_big hx
  have hx2 : many < 0 ∨ (0 ≤ many ∧ 1024 < many) ∨ (0 ≤ many ∧ many ≤ 1024 ∧ off % 64 ≠ 0) := by omega
  clear hx
  rcases hx2 with hx | ⟨hx, hy⟩ | ⟨hx, hy, hz⟩
  ·
    go_enter Try.func5, Try.ntmps5
    go_wp2_with fail
    refine (alive4_any _).mono ?_
    rintro e w1 ⟨rfl, hb1⟩
    have HT1 := Lib.hid (HTW.out w1 hb1)
    clear hb1
    go_wp2_with fail
    refine HT1.out.mono ?_
    rintro e w2 ⟨D, D2, rfl, hd2⟩
    have HD2 := Lib.hid hd2.one
    have HIL : Hid (d.image.length = 512) := by show _ = _; rw [V.image_length hd2.one.good.lines, hd8]
    clear hd2
    go_wp2_with fail
    refine (in_image HD2.out).mono ?_
    rintro e w3 ⟨⟨g1, rfl, hg1, hi1, hbi1⟩, hd3⟩
    rw [HIL.out] at hi1 ⊢
    have hg1l : g1 < w3.heap.size := World.block_lt_of_cell? w3 _ (byte_cell hi1 0 (by decide))
    have HK3 := Lib.hid (HD2.out.devK.newer (K' := [g1]) hbi1 (fun k hk => .inr (by obtain rfl := List.mem_singleton.1 hk; exact ⟨hg1, hg1l⟩)))
    have HI3 := Lib.hid hi1
    clear hi1 hbi1 hd3 hg1 hg1l
    have HCL := Lib.hid (HK3.out.run (fun F hF => su_clear hF off many hoff hmany (by omega)))
    rw [HV.out] at HCL
    have HCL2 : Hid (Calls Try.prog 36 #[.pointer (some ⟨D, 0, none⟩), .int .i64 off, .int .i64 many] w3 fun e w' => e = .returned (.int .i64 2) ∧ DevK w (.pointer (some ⟨D, 0, none⟩)) d [g1] w' ∧ KeepB [g1] w3 w') := HCL.out
    clear HCL
    go_wp2_with fail
    refine HCL2.out.mono ?_
    rintro e w4 ⟨rfl, hk4, hkb⟩
    have HI4 := Lib.hid (keep_bytes HI3.out hkb (by simp))
    have HD4 : Hid (DevIn w (.pointer (some ⟨D, 0, none⟩)) d w4.drew) := hk4.devIn.drewN 1
    have HIM : Hid (Calls Try.prog 28 #[.pointer (some ⟨D, 0, none⟩)] w4.drew fun e w' => NewBytes w4.drew d.image e w' ∧ DevIn w (.pointer (some ⟨D, 0, none⟩)) d w') := in_image HD4.out
    have hcv1 := conv_bytes_all HI4.out 9 Try.underlying9
    have hcv1' := conv_bytes_all (w := w4.drew) HI4.out 9 Try.underlying9
    clear hk4 hkb
    go_wp2_with fail
    go_region_with (go_at_call 28; refine HIM.out.mono ?_; rintro e w5 ⟨⟨g2, rfl, hg2, hi2, hb2⟩, hd5⟩; rw [HIL.out] at hi2 ⊢; have HB5 := Lib.hid hd5.below; have hcv2 := conv_bytes_all hi2 9 Try.underlying9; have hcv3 := conv_bytes_all (IsInts.below (w := w4.drew) HI4.out hb2) 9 Try.underlying9; clear hg2 hi2 hb2 hd5)
    all_goals (go_wp2_with fail; go_ret; exact ⟨rfl, HB5.out⟩)
  ·
    go_enter Try.func5, Try.ntmps5
    go_wp2_with fail
    refine (alive4_any _).mono ?_
    rintro e w1 ⟨rfl, hb1⟩
    have HT1 := Lib.hid (HTW.out w1 hb1)
    clear hb1
    go_wp2_with fail
    refine HT1.out.mono ?_
    rintro e w2 ⟨D, D2, rfl, hd2⟩
    have HD2 := Lib.hid hd2.one
    have HIL : Hid (d.image.length = 512) := by show _ = _; rw [V.image_length hd2.one.good.lines, hd8]
    clear hd2
    go_wp2_with fail
    refine (in_image HD2.out).mono ?_
    rintro e w3 ⟨⟨g1, rfl, hg1, hi1, hbi1⟩, hd3⟩
    rw [HIL.out] at hi1 ⊢
    have hg1l : g1 < w3.heap.size := World.block_lt_of_cell? w3 _ (byte_cell hi1 0 (by decide))
    have HK3 := Lib.hid (HD2.out.devK.newer (K' := [g1]) hbi1 (fun k hk => .inr (by obtain rfl := List.mem_singleton.1 hk; exact ⟨hg1, hg1l⟩)))
    have HI3 := Lib.hid hi1
    clear hi1 hbi1 hd3 hg1 hg1l
    have HCL := Lib.hid (HK3.out.run (fun F hF => su_clear hF off many hoff hmany (by omega)))
    rw [HV.out] at HCL
    have HCL2 : Hid (Calls Try.prog 36 #[.pointer (some ⟨D, 0, none⟩), .int .i64 off, .int .i64 many] w3 fun e w' => e = .returned (.int .i64 2) ∧ DevK w (.pointer (some ⟨D, 0, none⟩)) d [g1] w' ∧ KeepB [g1] w3 w') := HCL.out
    clear HCL
    go_wp2_with fail
    refine HCL2.out.mono ?_
    rintro e w4 ⟨rfl, hk4, hkb⟩
    have HI4 := Lib.hid (keep_bytes HI3.out hkb (by simp))
    have HD4 : Hid (DevIn w (.pointer (some ⟨D, 0, none⟩)) d w4.drew) := hk4.devIn.drewN 1
    have HIM : Hid (Calls Try.prog 28 #[.pointer (some ⟨D, 0, none⟩)] w4.drew fun e w' => NewBytes w4.drew d.image e w' ∧ DevIn w (.pointer (some ⟨D, 0, none⟩)) d w') := in_image HD4.out
    have hcv1 := conv_bytes_all HI4.out 9 Try.underlying9
    have hcv1' := conv_bytes_all (w := w4.drew) HI4.out 9 Try.underlying9
    clear hk4 hkb
    go_wp2_with fail
    go_region_with (go_at_call 28; refine HIM.out.mono ?_; rintro e w5 ⟨⟨g2, rfl, hg2, hi2, hb2⟩, hd5⟩; rw [HIL.out] at hi2 ⊢; have HB5 := Lib.hid hd5.below; have hcv2 := conv_bytes_all hi2 9 Try.underlying9; have hcv3 := conv_bytes_all (IsInts.below (w := w4.drew) HI4.out hb2) 9 Try.underlying9; clear hg2 hi2 hb2 hd5)
    all_goals (go_wp2_with fail; go_ret; exact ⟨rfl, HB5.out⟩)
  · have hb : (off.tmod 64 != 0) = true := by simpa using (fun h => hz (Int.emod_eq_zero_of_dvd (Int.dvd_of_tmod_eq_zero h)))
    clear hz
    go_enter Try.func5, Try.ntmps5
    go_wp2_with fail
    refine (alive4_any _).mono ?_
    rintro e w1 ⟨rfl, hb1⟩
    have HT1 := Lib.hid (HTW.out w1 hb1)
    clear hb1
    go_wp2_with fail
    refine HT1.out.mono ?_
    rintro e w2 ⟨D, D2, rfl, hd2⟩
    have HD2 := Lib.hid hd2.one
    have HIL : Hid (d.image.length = 512) := by show _ = _; rw [V.image_length hd2.one.good.lines, hd8]
    clear hd2
    go_wp2_with fail
    refine (in_image HD2.out).mono ?_
    rintro e w3 ⟨⟨g1, rfl, hg1, hi1, hbi1⟩, hd3⟩
    rw [HIL.out] at hi1 ⊢
    have hg1l : g1 < w3.heap.size := World.block_lt_of_cell? w3 _ (byte_cell hi1 0 (by decide))
    have HK3 := Lib.hid (HD2.out.devK.newer (K' := [g1]) hbi1 (fun k hk => .inr (by obtain rfl := List.mem_singleton.1 hk; exact ⟨hg1, hg1l⟩)))
    have HI3 := Lib.hid hi1
    clear hi1 hbi1 hd3 hg1 hg1l
    have HCL := Lib.hid (HK3.out.run (fun F hF => su_clear hF off many hoff hmany (by omega)))
    rw [HV.out] at HCL
    have HCL2 : Hid (Calls Try.prog 36 #[.pointer (some ⟨D, 0, none⟩), .int .i64 off, .int .i64 many] w3 fun e w' => e = .returned (.int .i64 2) ∧ DevK w (.pointer (some ⟨D, 0, none⟩)) d [g1] w' ∧ KeepB [g1] w3 w') := HCL.out
    clear HCL
    go_wp2_with fail
    refine HCL2.out.mono ?_
    rintro e w4 ⟨rfl, hk4, hkb⟩
    have HI4 := Lib.hid (keep_bytes HI3.out hkb (by simp))
    have HD4 : Hid (DevIn w (.pointer (some ⟨D, 0, none⟩)) d w4.drew) := hk4.devIn.drewN 1
    have HIM : Hid (Calls Try.prog 28 #[.pointer (some ⟨D, 0, none⟩)] w4.drew fun e w' => NewBytes w4.drew d.image e w' ∧ DevIn w (.pointer (some ⟨D, 0, none⟩)) d w') := in_image HD4.out
    have hcv1 := conv_bytes_all HI4.out 9 Try.underlying9
    have hcv1' := conv_bytes_all (w := w4.drew) HI4.out 9 Try.underlying9
    clear hk4 hkb
    go_wp2_with fail
    go_region_with (go_at_call 28; refine HIM.out.mono ?_; rintro e w5 ⟨⟨g2, rfl, hg2, hi2, hb2⟩, hd5⟩; rw [HIL.out] at hi2 ⊢; have HB5 := Lib.hid hd5.below; have hcv2 := conv_bytes_all hi2 9 Try.underlying9; have hcv3 := conv_bytes_all (IsInts.below (w := w4.drew) HI4.out hb2) 9 Try.underlying9; clear hg2 hi2 hb2 hd5)
    all_goals (go_wp2_with fail; go_ret; exact ⟨rfl, HB5.out⟩)
set_option maxHeartbeats 8000000 in
set_option maxRecDepth 100000 in
theorem clears_out (hx : 0 ≤ many ∧ many ≤ 1024 ∧ off % 64 = 0) (hy : ¬ (0 ≤ off ∧ off + 64 * many ≤ 512)) :
    Calls Try.prog 5 #[.slice A len cap, .int .i64 off, .int .i64 many] w fun e w' => e = .returned (.bool true) ∧ Below w.heap.size w w' := by
  obtain ⟨_, hlc, hlm⟩ := hw.len
  unfold maxLen at hlm
  have hlen := hw.len.1
  have hoff' : -9223372036854775808 ≤ off ∧ off ≤ 9223372036854775807 := hoff
  have hmany' : -9223372036854775808 ≤ many ∧ many ≤ 9223372036854775807 := hmany
  have hst : (V.twoDv l 255).steps ≤ 80 := by
    show ((V.stored l l.length).stop (255 : Int)).steps ≤ _
    rw [V.stop_steps]
    have := V.stored_steps l l.length
    omega
  have hd8 := V.twoDv_len l 255
  have hleft : (V.twoDv l 255).left = 255 := V.twoDv_left l 255
  have HTW : Hid (∀ W, Below w.heap.size w W → Calls Try.prog 35 #[.slice A len cap, .int .u8 255] W fun e w' => ∃ D1 D2, e = .returned (.tuple #[.pointer (some ⟨D1, 0, none⟩), .pointer (some ⟨D2, 0, none⟩)]) ∧ Both w (.pointer (some ⟨D1, 0, none⟩)) (V.twoDv l 255) (.pointer (some ⟨D2, 0, none⟩)) (V.twoDv l 255) w') := fun W hb => two_any W hb A len cap l hw hn h80 255 (by decide)
  clear hw hn hlen
  generalize V.twoDv l 255 = d at *
  have HV : Hid (d.clear off many = (d, 4)) := V.clear_out hd8 hx hy
  obtain ⟨hm0, hm1, hz⟩ := hx
  have hb : (off.tmod 64 != 0) = false := by simpa using Int.tmod_eq_zero_of_dvd (Int.dvd_of_emod_eq_zero hz)
  have hb' : (off % 64 != 0) = false := by simpa using hz
  have HZ := Lib.hid hz
  clear hz
  have hx2 : off < 0 ∨ (0 ≤ off ∧ 512 < off) ∨ (0 ≤ off ∧ off ≤ 512 ∧ 512 < off + 64 * many) := by omega
  clear hy
  rcases hx2 with hx | ⟨hx, hy⟩ | ⟨hx, hy, hy2⟩
  ·
    go_enter Try.func5, Try.ntmps5
    go_wp2_with fail
    refine (alive4_any _).mono ?_
    rintro e w1 ⟨rfl, hb1⟩
    have HT1 := Lib.hid (HTW.out w1 hb1)
    clear hb1
    go_wp2_with fail
    refine HT1.out.mono ?_
    rintro e w2 ⟨D, D2, rfl, hd2⟩
    have HD2 := Lib.hid hd2.one
    have HIL : Hid (d.image.length = 512) := by show _ = _; rw [V.image_length hd2.one.good.lines, hd8]
    clear hd2
    go_wp2_with fail
    refine (in_image HD2.out).mono ?_
    rintro e w3 ⟨⟨g1, rfl, hg1, hi1, hbi1⟩, hd3⟩
    rw [HIL.out] at hi1 ⊢
    have hg1l : g1 < w3.heap.size := World.block_lt_of_cell? w3 _ (byte_cell hi1 0 (by decide))
    have HK3 := Lib.hid (HD2.out.devK.newer (K' := [g1]) hbi1 (fun k hk => .inr (by obtain rfl := List.mem_singleton.1 hk; exact ⟨hg1, hg1l⟩)))
    have HI3 := Lib.hid hi1
    clear hi1 hbi1 hd3 hg1 hg1l
    have HCL := Lib.hid (HK3.out.run (fun F hF => su_clear hF off many hoff hmany (by omega)))
    rw [HV.out] at HCL
    have HCL2 : Hid (Calls Try.prog 36 #[.pointer (some ⟨D, 0, none⟩), .int .i64 off, .int .i64 many] w3 fun e w' => e = .returned (.int .i64 4) ∧ DevK w (.pointer (some ⟨D, 0, none⟩)) d [g1] w' ∧ KeepB [g1] w3 w') := HCL.out
    clear HCL
    go_wp2_with fail
    refine HCL2.out.mono ?_
    rintro e w4 ⟨rfl, hk4, hkb⟩
    have HI4 := Lib.hid (keep_bytes HI3.out hkb (by simp))
    have HD4 : Hid (DevIn w (.pointer (some ⟨D, 0, none⟩)) d w4.drew) := hk4.devIn.drewN 1
    have HIM : Hid (Calls Try.prog 28 #[.pointer (some ⟨D, 0, none⟩)] w4.drew fun e w' => NewBytes w4.drew d.image e w' ∧ DevIn w (.pointer (some ⟨D, 0, none⟩)) d w') := in_image HD4.out
    have hcv1 := conv_bytes_all HI4.out 9 Try.underlying9
    have hcv1' := conv_bytes_all (w := w4.drew) HI4.out 9 Try.underlying9
    clear hk4 hkb
    go_wp2_with fail
    go_region_with (go_at_call 28; refine HIM.out.mono ?_; rintro e w5 ⟨⟨g2, rfl, hg2, hi2, hb2⟩, hd5⟩; rw [HIL.out] at hi2 ⊢; have HB5 := Lib.hid hd5.below; have hcv2 := conv_bytes_all hi2 9 Try.underlying9; have hcv3 := conv_bytes_all (IsInts.below (w := w4.drew) HI4.out hb2) 9 Try.underlying9; clear hg2 hi2 hb2 hd5)
    all_goals (go_wp2_with fail; go_ret; exact ⟨rfl, HB5.out⟩)
  ·
    go_enter Try.func5, Try.ntmps5
    go_wp2_with fail
    refine (alive4_any _).mono ?_
    rintro e w1 ⟨rfl, hb1⟩
    have HT1 := Lib.hid (HTW.out w1 hb1)
    clear hb1
    go_wp2_with fail
    refine HT1.out.mono ?_
    rintro e w2 ⟨D, D2, rfl, hd2⟩
    have HD2 := Lib.hid hd2.one
    have HIL : Hid (d.image.length = 512) := by show _ = _; rw [V.image_length hd2.one.good.lines, hd8]
    clear hd2
    go_wp2_with fail
    refine (in_image HD2.out).mono ?_
    rintro e w3 ⟨⟨g1, rfl, hg1, hi1, hbi1⟩, hd3⟩
    rw [HIL.out] at hi1 ⊢
    have hg1l : g1 < w3.heap.size := World.block_lt_of_cell? w3 _ (byte_cell hi1 0 (by decide))
    have HK3 := Lib.hid (HD2.out.devK.newer (K' := [g1]) hbi1 (fun k hk => .inr (by obtain rfl := List.mem_singleton.1 hk; exact ⟨hg1, hg1l⟩)))
    have HI3 := Lib.hid hi1
    clear hi1 hbi1 hd3 hg1 hg1l
    have HCL := Lib.hid (HK3.out.run (fun F hF => su_clear hF off many hoff hmany (by omega)))
    rw [HV.out] at HCL
    have HCL2 : Hid (Calls Try.prog 36 #[.pointer (some ⟨D, 0, none⟩), .int .i64 off, .int .i64 many] w3 fun e w' => e = .returned (.int .i64 4) ∧ DevK w (.pointer (some ⟨D, 0, none⟩)) d [g1] w' ∧ KeepB [g1] w3 w') := HCL.out
    clear HCL
    go_wp2_with fail
    refine HCL2.out.mono ?_
    rintro e w4 ⟨rfl, hk4, hkb⟩
    have HI4 := Lib.hid (keep_bytes HI3.out hkb (by simp))
    have HD4 : Hid (DevIn w (.pointer (some ⟨D, 0, none⟩)) d w4.drew) := hk4.devIn.drewN 1
    have HIM : Hid (Calls Try.prog 28 #[.pointer (some ⟨D, 0, none⟩)] w4.drew fun e w' => NewBytes w4.drew d.image e w' ∧ DevIn w (.pointer (some ⟨D, 0, none⟩)) d w') := in_image HD4.out
    have hcv1 := conv_bytes_all HI4.out 9 Try.underlying9
    have hcv1' := conv_bytes_all (w := w4.drew) HI4.out 9 Try.underlying9
    clear hk4 hkb
    go_wp2_with fail
    go_region_with (go_at_call 28; refine HIM.out.mono ?_; rintro e w5 ⟨⟨g2, rfl, hg2, hi2, hb2⟩, hd5⟩; rw [HIL.out] at hi2 ⊢; have HB5 := Lib.hid hd5.below; have hcv2 := conv_bytes_all hi2 9 Try.underlying9; have hcv3 := conv_bytes_all (IsInts.below (w := w4.drew) HI4.out hb2) 9 Try.underlying9; clear hg2 hi2 hb2 hd5)
    all_goals (go_wp2_with fail; go_ret; exact ⟨rfl, HB5.out⟩)
  ·
    go_enter Try.func5, Try.ntmps5
    go_wp2_with fail
    refine (alive4_any _).mono ?_
    rintro e w1 ⟨rfl, hb1⟩
    have HT1 := Lib.hid (HTW.out w1 hb1)
    clear hb1
    go_wp2_with fail
    refine HT1.out.mono ?_
    rintro e w2 ⟨D, D2, rfl, hd2⟩
    have HD2 := Lib.hid hd2.one
    have HIL : Hid (d.image.length = 512) := by show _ = _; rw [V.image_length hd2.one.good.lines, hd8]
    clear hd2
    go_wp2_with fail
    refine (in_image HD2.out).mono ?_
    rintro e w3 ⟨⟨g1, rfl, hg1, hi1, hbi1⟩, hd3⟩
    rw [HIL.out] at hi1 ⊢
    have hg1l : g1 < w3.heap.size := World.block_lt_of_cell? w3 _ (byte_cell hi1 0 (by decide))
    have HK3 := Lib.hid (HD2.out.devK.newer (K' := [g1]) hbi1 (fun k hk => .inr (by obtain rfl := List.mem_singleton.1 hk; exact ⟨hg1, hg1l⟩)))
    have HI3 := Lib.hid hi1
    clear hi1 hbi1 hd3 hg1 hg1l
    have HCL := Lib.hid (HK3.out.run (fun F hF => su_clear hF off many hoff hmany (by omega)))
    rw [HV.out] at HCL
    have HCL2 : Hid (Calls Try.prog 36 #[.pointer (some ⟨D, 0, none⟩), .int .i64 off, .int .i64 many] w3 fun e w' => e = .returned (.int .i64 4) ∧ DevK w (.pointer (some ⟨D, 0, none⟩)) d [g1] w' ∧ KeepB [g1] w3 w') := HCL.out
    clear HCL
    go_wp2_with fail
    refine HCL2.out.mono ?_
    rintro e w4 ⟨rfl, hk4, hkb⟩
    have HI4 := Lib.hid (keep_bytes HI3.out hkb (by simp))
    have HD4 : Hid (DevIn w (.pointer (some ⟨D, 0, none⟩)) d w4.drew) := hk4.devIn.drewN 1
    have HIM : Hid (Calls Try.prog 28 #[.pointer (some ⟨D, 0, none⟩)] w4.drew fun e w' => NewBytes w4.drew d.image e w' ∧ DevIn w (.pointer (some ⟨D, 0, none⟩)) d w') := in_image HD4.out
    have hcv1 := conv_bytes_all HI4.out 9 Try.underlying9
    have hcv1' := conv_bytes_all (w := w4.drew) HI4.out 9 Try.underlying9
    clear hk4 hkb
    go_wp2_with fail
    go_region_with (go_at_call 28; refine HIM.out.mono ?_; rintro e w5 ⟨⟨g2, rfl, hg2, hi2, hb2⟩, hd5⟩; rw [HIL.out] at hi2 ⊢; have HB5 := Lib.hid hd5.below; have hcv2 := conv_bytes_all hi2 9 Try.underlying9; have hcv3 := conv_bytes_all (IsInts.below (w := w4.drew) HI4.out hb2) 9 Try.underlying9; clear hg2 hi2 hb2 hd5)
    all_goals (go_wp2_with fail; go_ret; exact ⟨rfl, HB5.out⟩)
end
end Go.Proofs.Ytccdmcidfnmnjaa
