
/- The walk of HeadOpens: whatever is handed in, the call answers true, and what was there stays. -/
import Derived.Test.YtmelmiookkeoaaaDoorHdFitsL

import Derived.Test.YtmelmiookkeoaaaDoorHdJ

import Derived.Test.YtmelmiookkeoaaaDoorOfN

import Derived.Test.YtmelmiookkeoaaaDoorStr

import Derived.Deep.RegionWith

import Derived.Outline

import Derived.Deep.DeepCutAuto

import Derived.Deep.RegionHeldLaw

namespace Go.Proofs.YtmelmiookkeoaaaDoor

open Go.RowKit

theorem dvOf_good {zs : List Int} (hz : ∀ z ∈ zs, 0 ≤ z ∧ z ≤ 255) {n : Nat} (hn : zs.length = 64 * n) (h1 : 1 ≤ n) (h2 : n ≤ 1024) : (dvOf zs).Good := by
  have e : dvOf zs = dvTo zs n n := by unfold dvOf dvTo; rw [hn, Nat.mul_div_cancel_left _ (by decide)]
  rw [e]; exact dvTo_good hz (by omega) h1 h2
theorem dvOf_len {zs : List Int} {n : Nat} (hn : zs.length = 64 * n) : (dvOf zs).lines.length = n := by
  show (linesOf zs (zs.length / 64) (zs.length / 64)).length = n
  rw [linesOf_length, hn, Nat.mul_div_cancel_left _ (by decide)]
theorem dvOf_image {zs : List Int} (hz : ∀ z ∈ zs, 0 ≤ z ∧ z ≤ 255) {n : Nat} (hn : zs.length = 64 * n) (h1 : 1 ≤ n) (h2 : n ≤ 1024) : (dvOf zs).image = zs := by
  have hg := dvOf_good hz hn h1 h2
  have hl := dvOf_len hn
  have hil := V.image_length hg.lines
  refine V.ext_getD (by rw [hil, hl, hn]) (fun i hi => ?_)
  rw [hil, hl] at hi
  have h3 : (dvOf zs).image.getD i 0 = (((dvOf zs).lines[i / 64]?.getD V.zeroLn).now).getD (i % 64) 0 := V.flat_byte _ hg.lines i (by rw [hl]; exact hi)
  have h4 : (dvOf zs).lines[i / 64]? = some (lnOf zs (i / 64)) := by
    show (linesOf zs (zs.length / 64) (zs.length / 64))[i / 64]? = _
    have e : zs.length / 64 = n := by rw [hn, Nat.mul_div_cancel_left _ (by decide)]
    rw [e, linesOf_get zs n n (i / 64) (by omega), if_pos (by omega)]
  rw [h3, h4]
  show ((zs.drop (64 * (i / 64))).take 64).getD (i % 64) 0 = _
  rw [List.getD_eq_getElem?_getD, List.getElem?_take, if_pos (by omega), List.getElem?_drop, List.getD_eq_getElem?_getD, show 64 * (i / 64) + i % 64 = i by omega]
/-- Bytes as a string, wherever they lie. -/
theorem conv_any {w : World} {b o n c : Nat} {zs : List Int} (h : IsBytes w (.slice (some ⟨b, o, none⟩) n c) zs) :
    (convert 37 9 (.slice (some ⟨b, o, none⟩) n c)).run Tryd.prog w = .ok (.string (strOfNums zs)) w := by
  have hl := h.len'.1
  exact run_convert_bytes_arg (P := Tryd.prog) w 37 5 Tryd.underlying37 Tryd.underlying5 b o n c zs hl (fun i hi => bytes_cell' h i hi) 9 Tryd.underlying9
theorem in_of (w0 wr : World) (hb : Below w0.heap.size w0 wr) (PA : Option Addr) (pn pc : Nat) (zs : List Int) (hp : IsBytes wr (.slice PA pn pc) zs) (h64 : 64 ≤ pn) (h0 : pn % 64 = 0) (hmax : pn ≤ 65536) :
    Calls Tryd.prog 24 #[.slice PA pn pc] wr fun e w' => ∃ D, e = .returned (.pointer (some ⟨D, 0, none⟩)) ∧ DevIn w0 (.pointer (some ⟨D, 0, none⟩)) (dvOf zs) w' ∧ Below wr.heap.size wr w' := by
  refine (nv_of wr PA pn pc zs hp h64 h0 hmax).mono ?_
  rintro e w' ⟨v, F, rfl, hd, hb1, hF⟩
  have hd' := hd
  obtain ⟨D, L, ps, rfl, _⟩ := hd'
  exact ⟨D, rfl, ⟨F, hd, fun k hk => Nat.le_trans hb.size (hF k hk), hb.trans (hb1.mono hb.size)⟩, hb1⟩
set_option maxHeartbeats 4000000 in
set_option maxRecDepth 100000 in
theorem headOpens_walk (PA : Option Addr) (pn pc : Nat) (zs : List Int) (w : World) (w0 : IsInts .u8 w (.slice PA pn pc) zs) (hT : TabT w) (hg : 0 < w.heap.size) :
    Calls Tryd.prog 6 #[.slice PA pn pc] w fun e w' => e = .returned (.bool true) ∧ Below w.heap.size w w' := by
  have HA := Lib.hid (alive5_any w hT hg)
  obtain ⟨hpl, hpc, hpm⟩ := IsInts.len' w0
  have hpm' := hpm
  unfold maxLen at hpm'
  by_cases hnil : 64 ≤ pn ∧ pn % 64 = 0 ∧ pn ≤ 65536
  · obtain ⟨h64, h0, hmax⟩ := hnil
    obtain ⟨n, hn⟩ : ∃ n, n = pn / 64 := ⟨_, rfl⟩
    have hzn : zs.length = 64 * n := by omega
    have hn1 : 1 ≤ n := by omega
    have hn2 : n ≤ 1024 := by omega
    have hz := IsInts.range w0
    have hgd := dvOf_good hz hzn hn1 hn2
    have hln := dvOf_len hzn
    have him := dvOf_image hz hzn hn1 hn2
    have hleft : (dvOf zs).left ≠ 0 := by show (-1 : Int) ≠ 0; decide
    have hst : (dvOf zs).steps = 0 := rfl
    have HP : Hid (IsBytes w (.slice PA pn pc) zs) := w0
    have HDO : Hid (∀ W, Below w.heap.size w W → Calls Tryd.prog 24 #[.slice PA pn pc] W fun e w' => ∃ D, e = .returned (.pointer (some ⟨D, 0, none⟩)) ∧ DevIn w (.pointer (some ⟨D, 0, none⟩)) (dvOf zs) w' ∧ Below W.heap.size W w') := fun W hb => in_of w W hb PA pn pc zs (IsInts.below w0 hb) h64 h0 hmax
    have HOP : Hid (∀ W p, DevIn w (.pointer p) (dvOf zs) W → Calls Tryd.prog 23 #[.pointer p] W fun e w' => e = .returned (.tuple #[shV (dvOf zs).opens.1, .int .i64 (dvOf zs).opens.2]) ∧ DevIn w (.pointer p) (dvOf zs) w' ∧ Below W.heap.size W w') := fun W p h => in_open h hleft hT hg
    by_cases hbig : 6400 < pn
    · clear hpl hn hzn hz hgd hln him hst hT hg w0 h64 h0 hmax
      generalize dvOf zs = d at *
      generalize d.opens = op at *
      obtain ⟨⟨oa, ob, oc, od⟩, fe⟩ := op
      unfold shV at HOP
      dsimp only at HOP
      go_enter Tryd.func6, Tryd.ntmps6
      go_wp2_with fail
      refine HA.out.mono ?_
      rintro e w1 ⟨rfl, hb⟩
      have HB1 := Lib.hid hb
      clear hb
      go_wp2_with fail
      refine (HDO.out _ HB1.out).mono ?_
      rintro e w2 ⟨D, rfl, hd, _⟩
      have HD2 := Lib.hid hd
      clear hd
      go_wp2_with fail
      refine (HOP.out _ _ HD2.out).mono ?_
      rintro e w3 ⟨rfl, hd, _⟩
      have HB3 : Hid (∀ o, Below w.heap.size w (w3.alloc o)) := fun o => (hd.alloc o).below
      clear hd
      go_wp2
      go_ret
      exact ⟨rfl, HB3.out _⟩
    · obtain ⟨pb, po, rfl⟩ := IsInts.cells w0 (show 0 < pn by omega)
      have hwl : ((dvOf zs).words 0 8).length = 8 := V.words_length _ _ _
      have hr : (dvOf zs).room 0 (8 : Nat) = 0 := V.room_zero.2 ⟨by omega, by omega, by omega, by rw [hln]; omega⟩
      have HLD : Hid (∀ W v, DevIn w v (dvOf zs) W → ∀ j : Nat, j < 8 → ∃ x, ((dvOf zs).words 0 8)[j]? = some x ∧ x < 2 ^ 64 ∧ Calls Tryd.prog 25 #[v, .int .i64 (8 * (j : Int))] W fun e w' => ∃ er : Int, e = .returned (.tuple #[.int .u64 (x : Int), .int .i64 er]) ∧ ∃ m, w' = W.drewN m) := by
        intro W v h j hj
        refine ⟨(dvOf zs).load (8 * (j : Int)), by rw [V.words_get _ _ _ _ hj, Int.zero_add], V.load_lt hgd _, ?_⟩
        exact (in_load h (8 * (j : Int)) ⟨by omega, by omega⟩).mono fun e w' ⟨a, b⟩ => ⟨_, a, b⟩
      have HWT : Hid (∀ x ∈ (dvOf zs).words 0 8, x < 2 ^ 64) := by
        intro x hx
        obtain ⟨i, _, rfl⟩ := List.mem_map.1 hx
        exact V.load_lt hgd _
      have HIMG : Hid (∀ W v, DevIn w v (dvOf zs) W → Calls Tryd.prog 20 #[v] W fun e w' => NewBytes W zs e w' ∧ DevIn w v (dvOf zs) w') := fun W v h => by
        have := in_image h
        rwa [him] at this
      have HSTP : Hid (∀ W v, DevIn w v (dvOf zs) W → Calls Tryd.prog 27 #[v] W fun e w' => e = .returned (.int .i64 0) ∧ W = w') := fun W v h => by
        have := in_steps h
        rwa [hst] at this
      have hcs : (19 ≤ n ∧ (dvOf zs).words 0 8 = V.wrds n ∧ (dvOf zs).opens = (V.Sh.at n, 0)) ∨ (¬ (19 ≤ n ∧ (dvOf zs).words 0 8 = V.wrds n) ∧ (dvOf zs).opens = (V.Sh.zero, 5)) := by
        unfold V.Dv.opens
        rw [hln]
        by_cases h : 19 ≤ n ∧ (dvOf zs).words 0 8 = V.wrds n
        · exact .inl ⟨h.1, h.2, if_pos h⟩
        · exact .inr ⟨h, if_neg h⟩
      have HRO : Hid (∀ W A c, IsWords W (.slice A 8 c) ((dvOf zs).words 0 8) → Calls Tryd.prog 26 #[.slice A 8 c, .int .i64 (n : Int)] W (ShPost W (if 19 ≤ n ∧ (dvOf zs).words 0 8 = V.wrds n then V.Sh.at n else V.Sh.zero) (.bool (decide (19 ≤ n ∧ (dvOf zs).words 0 8 = V.wrds n))))) := fun W A c h => rf5_open h n hn2
      have HPL := Lib.hid hpl
      obtain ⟨s, is, fe, hs1, hs2, hs3⟩ : ∃ (s : V.Sh) (is : Bool) (fe : Int), (dvOf zs).opens = (s, fe) ∧ (∀ W A c, IsWords W (.slice A 8 c) ((dvOf zs).words 0 8) → Calls Tryd.prog 26 #[.slice A 8 c, .int .i64 (n : Int)] W (ShPost W s (.bool is))) ∧ (is = true ∧ fe = 0 ∨ is = false ∧ fe = 5) := by
        rcases hcs with ⟨h1, h2, h3⟩ | ⟨h1, h3⟩
        · refine ⟨V.Sh.at n, true, 0, h3, fun W A c h => ?_, .inl ⟨rfl, rfl⟩⟩
          have := HRO.out W A c h
          rwa [if_pos ⟨h1, h2⟩, decide_eq_true ⟨h1, h2⟩] at this
        · refine ⟨V.Sh.zero, false, 5, h3, fun W A c h => ?_, .inr ⟨rfl, rfl⟩⟩
          have := HRO.out W A c h
          rwa [if_neg h1, decide_eq_false h1] at this
      rw [hs1] at HOP
      have HRP := Lib.hid hs2
      have HFE := Lib.hid hs3
      have HWL := Lib.hid hwl
      have hq : (pn : Int) / 64 = (n : Int) := by omega
      have hqt : ((pn : Int).tdiv 64) = (n : Int) := by rw [Int.tdiv_eq_ediv_of_nonneg (by omega)]; omega
      clear hpl hz hgd hln him hst hT hg w0 h64 h0 hmax HRO hcs hs1 hs2 hs3 hwl hr hleft hn
      generalize (dvOf zs).words 0 8 = ws at *
      generalize dvOf zs = d at *
      obtain ⟨sa, sb, sc, sd⟩ := s
      unfold shV at HOP
      unfold ShPost shV at HRP
      dsimp only at HOP HRP
      obtain ⟨i0, hi, hz0, hz1, hz2⟩ := info_parts info_u64
      go_enter Tryd.func6, Tryd.ntmps6
      go_wp2_with fail
      refine HA.out.mono ?_
      rintro e w1 ⟨rfl, hb⟩
      have HB1 := Lib.hid hb
      clear hb
      go_wp2_with fail
      refine (HDO.out _ HB1.out).mono ?_
      rintro e w2 ⟨D, rfl, hd, _⟩
      have HD2 := Lib.hid hd
      clear hd
      go_wp2_with fail
      go_loopw [6, 7, 8, 9, 36] (fun out _ _ _ x W => ∃ j : Nat, j ≤ 8 ∧ x = .int .i64 j ∧ W.ownsRow w2.heap.size 40 1 out j (((ws.take j).map (fun n : Nat => (n : Int))).map (Value.int .u64)) ∧ Below w2.heap.size w2 W) (fun _ _ _ _ x _ => 8 - (intOf x).toNat)
      case atStart => exact ⟨0, by omega, rfl, by simpa using owns_nil, Below.refl _ _⟩
      case round =>
        obtain ⟨j, hj, rfl, hown, hbel⟩ := hrel
        have HBEL := Lib.hid hbel
        have HOWN := Lib.hid hown
        obtain ⟨a0, c0, rfl, hc0, hc1⟩ := owns_form hown
        unfold maxLen at hc1
        have HDJ := Lib.hid (HD2.out.newer hbel)
        clear hown hbel
        by_cases hlt : j < 8
        · obtain ⟨x, hx, hx2, hc⟩ := HLD.out _ _ HDJ.out j hlt
          have HX := Lib.hid hx
          have HC := Lib.hid hc
          clear hx hc
          go_wp2_with fail
          refine HC.out.mono ?_
          rintro e w3 ⟨er, rfl, q, rfl⟩
          have HB3 : Hid (∀ o, Below w2.heap.size w2 ((wr.drewN q).alloc o)) := fun o => (below_drewN' HBEL.out q).alloc HBEL.out.size o
          have HO3 : Hid (∀ o, ((wr.drewN q).alloc o).ownsRow w2.heap.size 40 1 (.slice a0 j c0) j (((ws.take j).map (fun n : Nat => (n : Int))).map (Value.int .u64))) := fun o => owns_below HOWN.out (below_drewN' (Below.refl _ _) q |>.alloc (Nat.le_refl _) o)
          have HI1 : Hid (∀ t, IsInts .u64 ((wr.drewN q).alloc (.cells #[.int .u64 (x : Int)] t (0, 0))) (.slice (some ⟨wr.heap.size, 0, none⟩) 1 1) [(x : Int)]) := fun t => isWords_block (l := [x]) (heap_alloc_new (wr.drewN q) _) (by intro y hy; obtain rfl := List.mem_singleton.1 hy; exact hx2) (by unfold maxLen; simp)
          go_wp2_with (at_builtin; refine wpList_append_ints rfl (.tmp 46) (.tmp 48) 31 rfl .u64 w2.heap.size 40 i0 _ 8 Tryd.underlying31 hi hz0 hz1 hz2 rfl _ _ _ rfl (HO3.out _) _ 1 1 _ rfl (HI1.out _) (by unfold maxLen; omega) (by omega) (HB3.out _).size ?_)
          intro v' w5 hown' hgr
          have HO5 : Hid (w5.ownsRow w2.heap.size 40 1 v' (j + 1) (((ws.take (j + 1)).map (fun n : Nat => (n : Int))).map (Value.int .u64))) := by
            show World.ownsRow _ _ _ _ _ _ _
            rw [List.take_add_one, HX.out]
            simpa using hown'
          have HB5 : Hid (Below w2.heap.size w2 w5) := (HB3.out _).grown hgr (HB3.out _).size (fun k hk => owns_block (HO3.out (.cells #[] 0 (0, 0))) k hk)
          clear hown' hgr
          go_wp2
          go_roundw
          case rel => exact ⟨j + 1, by omega, by go_num, HO5.out, HB5.out⟩
          case measure => simp [intOf]; omega
        · obtain rfl : j = 8 := by omega
          have HF : Hid (ws.take 8 = ws) := List.take_of_length_le (Nat.le_of_eq HWL.out)
          rw [HF.out] at HOWN
          have hiw : IsWords wr (.slice a0 8 c0) ws := IsInts.of_own HOWN.out (fun z hz => by
            obtain ⟨x, hx, rfl⟩ := List.mem_map.1 hz
            exact WalkArith.wf_u64 (by have := HWT.out x hx; omega))
          have HRO := Lib.hid (HRP.out wr a0 c0 hiw)
          have HB3 : Hid (Below w.heap.size w wr) := HDJ.out.below
          clear hiw
          go_wp2_with fail
          refine HRO.out.mono ?_
          rintro e w3 ⟨rfl, hb⟩
          have HD3 : Hid (∀ o, DevIn w (.pointer (some ⟨D, 0, none⟩)) d (w3.alloc o)) := fun o => (HDJ.out.newer hb).alloc o
          have HX3 : Hid (∀ o, (w3.alloc o).heap[w3.heap.size]? = some o) := fun o => heap_alloc_new w3 o
          clear hb
          go_wp2_with fail
          refine (HOP.out _ _ (HD3.out _)).mono ?_
          rintro e w4 ⟨rfl, hd, hb⟩
          have HD4 : Hid (∀ o, DevIn w (.pointer (some ⟨D, 0, none⟩)) d (w4.alloc o)) := fun o => hd.alloc o
          have HX4 : Hid (∀ o, (w4.alloc o).heap[w4.heap.size]? = some o) := fun o => heap_alloc_new w4 o
          have HX34 : Hid (∀ o, (w4.alloc o).heap[w3.heap.size]? = some (.cells #[.int .i64 sa, .int .i64 sb, .int .i64 sc, .int .i64 sd] 23 (0, 0))) := fun o => by
            have h := HX3.out (.cells #[.int .i64 sa, .int .i64 sb, .int .i64 sc, .int .i64 sd] 23 (0, 0))
            have h2 := (hb.block _ (Array.getElem?_eq_some_iff.1 h).1).trans h
            exact (Below.heap_alloc _ _ _ (Array.getElem?_eq_some_iff.1 h2).1).trans h2
          clear hd hb
          go_upto_region 16 with fail
          obtain ⟨wq, hwq⟩ : ∃ wq, wq = w4.alloc (.cells #[.int .i64 sa, .int .i64 sb, .int .i64 sc, .int .i64 sd] 25 (0, 0)) := ⟨_, rfl⟩
          have hdq := HD4.out (.cells #[.int .i64 sa, .int .i64 sb, .int .i64 sc, .int .i64 sd] 25 (0, 0))
          have hx4 := HX4.out (.cells #[.int .i64 sa, .int .i64 sb, .int .i64 sc, .int .i64 sd] 25 (0, 0))
          have hx34 := HX34.out (.cells #[.int .i64 sa, .int .i64 sb, .int .i64 sc, .int .i64 sd] 25 (0, 0))
          rw [← hwq] at hdq hx4 hx34 ⊢
          have HDQ : Hid (DevIn w (.pointer (some ⟨D, 0, none⟩)) d wq.drew) := hdq.drewN 1
          obtain ⟨⟨p0, p1, p2, p3⟩, _⟩ := four' (W := wq.drew) hx4
          obtain ⟨⟨q0, q1, q2, q3⟩, _⟩ := four' (W := wq.drew) hx34
          have hcv := conv_any (HP.out.below HDQ.out.below)
          have HIM9 : Hid (Calls Tryd.prog 20 #[.pointer (some ⟨D, 0, none⟩)] wq.drew fun e w' => ∃ g, e = .returned (.slice (some ⟨g, 0, none⟩) pn pn) ∧ IsBytes w' (.slice (some ⟨g, 0, none⟩) pn pn) zs ∧ DevIn w (.pointer (some ⟨D, 0, none⟩)) d w' ∧ Below wq.drew.heap.size wq.drew w') := (HIMG.out _ _ HDQ.out).mono (by
            rintro e w' ⟨⟨g, rfl, hgg, hib, hbb⟩, hd⟩
            rw [HPL.out] at hib ⊢
            exact ⟨g, rfl, hib, hd, hbb⟩)
          have HXX : Hid (wq.drew.heap[w4.heap.size]? = some (.cells #[.int .i64 sa, .int .i64 sb, .int .i64 sc, .int .i64 sd] 25 (0, 0)) ∧ wq.drew.heap[w3.heap.size]? = some (.cells #[.int .i64 sa, .int .i64 sb, .int .i64 sc, .int .i64 sd] 23 (0, 0))) := ⟨hx4, hx34⟩
          clear hzn hdq hx4 hx34 hwq HD4 HX4 HX34 HD3 HX3 HRO HRP HOP HDJ HOWN HBEL HIMG HLD HDO HA HD2 HB1 HB3
          have HBZ : Hid (Below w.heap.size w wq.drew) := HDQ.out.below
          rcases HFE.out with ⟨rfl, rfl⟩ | ⟨rfl, rfl⟩
          all_goals
            first | (go_region_held_law (fun W => (W.cell? ⟨w4.heap.size, 0, none⟩ = some (.int .i64 sa) ∧ W.cell? ⟨w4.heap.size, 1, none⟩ = some (.int .i64 sb) ∧ W.cell? ⟨w4.heap.size, 2, none⟩ = some (.int .i64 sc) ∧ W.cell? ⟨w4.heap.size, 3, none⟩ = some (.int .i64 sd)) ∧ (W.cell? ⟨w3.heap.size, 0, none⟩ = some (.int .i64 sa) ∧ W.cell? ⟨w3.heap.size, 1, none⟩ = some (.int .i64 sb) ∧ W.cell? ⟨w3.heap.size, 2, none⟩ = some (.int .i64 sc) ∧ W.cell? ⟨w3.heap.size, 3, none⟩ = some (.int .i64 sd)) ∧ (convert 37 9 (.slice (some ⟨pb, po, none⟩) pn pc)).run Tryd.prog W = .ok (.string (strOfNums zs)) W)
              (exact ⟨⟨p0, p1, p2, p3⟩, ⟨q0, q1, q2, q3⟩, hcv⟩)
              (first
              | (go_at_call 20; refine HIM9.out.mono ?_; rintro e w9 ⟨gb, rfl, hib, hd9, hb9⟩; clear p0 p1 p2 p3 q0 q1 q2 q3 hcv; obtain ⟨⟨p0, p1, p2, p3⟩, _⟩ := four' ((hb9.block _ (Array.getElem?_eq_some_iff.1 HXX.out.1).1).trans HXX.out.1); obtain ⟨⟨q0, q1, q2, q3⟩, _⟩ := four' ((hb9.block _ (Array.getElem?_eq_some_iff.1 HXX.out.2).1).trans HXX.out.2); have hcv := conv_any (HP.out.below hd9.below); have hcv2 := conv_any hib; have HDZ := Lib.hid hd9; have HBZ := Lib.hid hd9.below; clear hib hd9 hb9)
              | (go_at_call 27; refine (HSTP.out _ _ HDZ.out).mono ?_; rintro e w10 ⟨rfl, rfl⟩))) | fail "the region"
            all_goals (go_wp2_with fail; go_ret; exact ⟨rfl, HBZ.out⟩)
  · have HOF : Hid (∀ W, Calls Tryd.prog 24 #[.slice PA pn pc] W fun e w' => e = .returned (.pointer none) ∧ W = w') := fun W => nv_of_no W PA pn pc hpc hpm hnil
    have HNO := Lib.hid no_open
    unfold shV V.Sh.zero at HNO
    clear hnil w0 hpl hT hg
    go_enter Tryd.func6, Tryd.ntmps6
    go_wp2_with fail
    refine HA.out.mono ?_
    rintro e w1 ⟨rfl, hb⟩
    have HB1 := Lib.hid hb
    clear hb
    go_wp2_with fail
    refine (HOF.out _).mono ?_
    rintro e w2 ⟨rfl, rfl⟩
    go_wp2_with fail
    refine (HNO.out _).mono ?_
    rintro e w2 ⟨rfl, hb⟩
    have HB2 : Hid (∀ o, Below w.heap.size w (w2.alloc o)) := fun o => (HB1.out.trans (hb.mono HB1.out.size)).alloc (Nat.le_trans HB1.out.size hb.size) o
    clear hb
    go_wp2
    go_ret
    exact ⟨rfl, HB2.out _⟩
end Go.Proofs.YtmelmiookkeoaaaDoor
