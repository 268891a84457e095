
/- PoolActs: the walk. -/
import Derived.Test.YtaceogpdjbikiaaGreatDoorRr
import Derived.Test.YtaceogpdjbikiaaGreatDoorPoAgW
namespace Go.Proofs.YtaceogpdjbikiaaGreatDoor

open Go.RowKit

theorem acts_of : ∀ s, s < 5 → 1 ≤ s → V.Sh.of ((3 + 16 * s : Nat) : Int) = ⟨((3 + 16 * s : Nat) : Int), (s : Int), 128, 192⟩ ∧ V.isSh ((3 + 16 * s : Nat) : Int) = true := by decide +kernel
theorem both_zeros (s : Nat) : both (List.replicate s 0) (List.replicate s 0) = List.replicate s 0 := by
  apply List.ext_getElem?
  intro i
  unfold both used
  rw [List.getElem?_map]
  by_cases h : i < s
  · rw [List.length_replicate, List.getElem?_range h, List.getElem?_replicate, if_pos h]
    simp [List.getD_eq_getElem?_getD, h]
  · rw [List.getElem?_eq_none (by rw [List.length_range, List.length_replicate]; omega), List.getElem?_replicate, if_neg h]; rfl
set_option maxHeartbeats 4000000 in
set_option maxRecDepth 100000 in
theorem poolActs_walk (n : Int) (A : Option Addr) (len cap : Nat) (l : List (Nat × Int)) (w : World) (hn : (Lit.int .u8 n).wf = true) (hl : IsActs7 w A len cap l) (hTab : TabAt 1 Lib.deBruijn64tab w) (_hs : 1 < w.heap.size) (hT : TabT w) (hg : 0 < w.heap.size) :
    Calls Tryz.prog 3 #[.int .u8 n, .slice A len cap] w fun e w' => e = .returned (.bool true) ∧ Below w.heap.size w w' := by
  have HAL := Lib.hid (alive7_any w hT hg hTab)
  obtain ⟨i0, hi, hz0, hz1, hz2⟩ := info_parts info_i64
  obtain ⟨hn0, hn1⟩ : 0 ≤ n ∧ n ≤ 255 := by
    simp [Lit.wf, IntKind.min, IntKind.max, IntKind.signed, IntKind.bits] at hn
    omega
  obtain ⟨n, rfl⟩ := Int.eq_ofNat_of_zero_le hn0
  have HZ := Lib.hid hl
  have HT7 : Hid (Tab7 w) := hTab
  have HT := Lib.hid hT
  have HG := Lib.hid hg
  have hzl : len ≤ cap ∧ cap ≤ maxLen := ⟨hl.2.1, hl.2.2.1⟩
  have HLN : Hid (∀ W, Calls Tryz.prog 7 #[.int .u8 (n : Int)] W fun e w' => e = .returned (.int .i64 ((3 + 16 * (1 + n % 4) : Nat) : Int)) ∧ W = w') := fun W => lines_any n W (by omega)
  obtain ⟨s, hs⟩ : ∃ s, 1 + n % 4 = s := ⟨_, rfl⟩
  have hs1 : 1 ≤ s := by omega
  have hs5 : s < 5 := by omega
  rw [hs] at HLN
  have HSH := Lib.hid (fill_sh s hs5 hs1)
  have HBG : Hid (∀ W, Below w.heap.size w W → Calls Tryz.prog 6 #[.int .i64 ((3 + 16 * s : Nat) : Int)] W fun e w' => ∃ D q : Nat, e = .returned (.tuple #[.pointer (some ⟨D, 0, none⟩), .pointer (some ⟨q, 0, none⟩)]) ∧ (∃ d, TPool W (.pointer (some ⟨q, 0, none⟩)) (some ⟨D, 0, none⟩) d ⟨((3 + 16 * s : Nat) : Int), (s : Int), 128, 192⟩ (List.replicate s 0) (List.replicate s 0) [] (.slice none 0 0) [] w' ∧ St7 (3 + 16 * s) s d (List.replicate s 0) (List.replicate s 0) 0)) := fun W hb => by
    refine (begin_any (3 + 16 * s) (by omega) (by omega) W (HT.out.below hb HG.out) (Nat.lt_of_lt_of_le HG.out hb.size)).mono ?_
    rintro e w' ⟨D, q, he, hp⟩
    have hst : St7 (3 + 16 * s) s (V.newDv (3 + 16 * s)).format.1 (List.replicate (V.slabs (3 + 16 * s)) 0) (List.replicate (V.slabs (3 + 16 * s)) 0) 0 := ⟨V.up7_fresh hs1 hs5, hp.good, by rw [List.length_replicate]; exact HSH.out.2, (V.fresh (by omega) (by omega)).2.2.steps⟩
    rw [HSH.out.1] at hp
    rw [HSH.out.2] at hp hst
    exact ⟨D, q, he, _, TPool.start hp, hst⟩
  have HOF : Hid (∀ W : World, Calls Tryz.prog 8 #[.int .i64 ((3 + 16 * s : Nat) : Int)] W fun e w' => e = .returned (.tuple #[.agg #[.int .i64 ((3 + 16 * s : Nat) : Int), .int .i64 (s : Int), .int .i64 128, .int .i64 192], .bool true]) ∧ Below W.heap.size W w') := fun W => by
    have h := rf5_of W ((3 + 16 * s : Nat) : Int) ⟨by omega, by omega⟩
    obtain ⟨e1, e2⟩ := acts_of s hs5 hs1
    rw [e1, e2] at h
    exact h
  have HNW : Hid (∀ W : World, Calls Tryz.prog 9 #[.agg #[.int .i64 ((3 + 16 * s : Nat) : Int), .int .i64 (s : Int), .int .i64 128, .int .i64 192]] W fun e w' => ∃ gw gh, e = .returned (.agg #[.int .i64 ((3 + 16 * s : Nat) : Int), .int .i64 (s : Int), .int .i64 128, .int .i64 192, .slice (some ⟨gw, 0, none⟩) s s, .slice (some ⟨gh, 0, none⟩) s s]) ∧ WAt w' gw (List.replicate s 0) ∧ WAt w' gh (List.replicate s 0) ∧ W.heap.size ≤ gw ∧ W.heap.size ≤ gh ∧ Below W.heap.size W w') := fun W => rp_new W _ 128 192 s (by omega)
  have HN19 : Hid (19 ≤ 3 + 16 * s ∧ s = V.slabs (3 + 16 * s) ∧ 3 + 16 * s ≤ 100 ∧ V.Sh.at (3 + 16 * s) = ⟨((3 + 16 * s : Nat) : Int), (s : Int), 128, 192⟩) := ⟨by omega, HSH.out.2.symm, by omega, HSH.out.1⟩
  have HSK : Hid (ShOk ⟨((3 + 16 * s : Nat) : Int), (s : Int), 128, 192⟩ 192) := ⟨rfl, by decide, ⟨by show (0 : Int) ≤ 128; decide, by show (128 : Int) ≤ 1000000; decide⟩⟩
  clear hTab hT hg hl hn hs HSH
  by_cases hbig : 120 < len
  · go_enter Tryz.func3, Tryz.ntmps3
    go_wp2_with fail
    refine HAL.out.mono ?_
    rintro e w1 ⟨rfl, hb1⟩
    have HB1 := Lib.hid hb1
    clear hb1
    go_wp2
    go_ret
    exact ⟨rfl, HB1.out⟩
  · generalize 3 + 16 * s = N at *
    go_enter Tryz.func3, Tryz.ntmps3
    go_wp2_with fail
    refine HAL.out.mono ?_
    rintro e w1 ⟨rfl, hb1⟩
    have HB1 := Lib.hid hb1
    have HBG1 := Lib.hid (HBG.out w1 hb1)
    have HT71 : Hid (Tab7 w1) := HT7.out.block (hb1.block _ HT7.out.lt)
    have HT1 : Hid (TabT w1) := HT.out.below hb1 HG.out
    have HG1 : Hid (0 < w1.heap.size) := Nat.lt_of_lt_of_le HG.out hb1.size
    clear hb1
    go_wp2_with fail
    refine (HLN.out _).mono ?_
    rintro e w2 ⟨rfl, rfl⟩
    go_wp2_with fail
    refine HBG1.out.mono ?_
    rintro e w3 ⟨D, q, rfl, d0, hp3, hst3⟩
    have HP3 := Lib.hid hp3
    have HST3 := Lib.hid hst3
    have hZ0 : w1.heap.size ≤ w3.heap.size := hp3.pool.below0.size
    clear hp3 hst3
    go_wp2_with fail
    refine (HLN.out _).mono ?_
    rintro e w2' ⟨rfl, rfl⟩
    go_wp2_with fail
    refine (HOF.out _).mono ?_
    rintro e w4 ⟨rfl, hb4⟩
    have HB4 := Lib.hid hb4
    have HR5 : Hid ((w4.alloc (.cells #[.int .i64 (N : Int), .int .i64 (s : Int), .int .i64 128, .int .i64 192] 30 (0, 0))).heap[w4.heap.size]? = some (.cells #[.int .i64 (N : Int), .int .i64 (s : Int), .int .i64 128, .int .i64 192] 30 (0, 0))) := heap_alloc_new w4 _
    have hq0 := cell_of_row _ _ 0 _ _ _ HR5.out
    have hq1 := cell_of_row _ _ 1 _ _ _ HR5.out
    have hq2 := cell_of_row _ _ 2 _ _ _ HR5.out
    have hq3 := cell_of_row _ _ 3 _ _ _ HR5.out
    clear hb4
    go_wp2_with fail
    refine (HNW.out _).mono ?_
    rintro e w6 ⟨gw, gh, rfl, hw6, hh6, hg1, hg2, hb6⟩
    clear hq0 hq1 hq2 hq3
    have hs4 : (w4.alloc (.cells #[.int .i64 (N : Int), .int .i64 (s : Int), .int .i64 128, .int .i64 192] 30 (0, 0))).heap.size = w4.heap.size + 1 := by simp
    have h34 := HB4.out.size
    have hs6 := hb6.size
    have HRA : Hid (Ra w1 q D N s w4.heap.size w6.heap.size 0 (.slice none 0 0) (w6.alloc (.cells #[.int .i64 (N : Int), .int .i64 (s : Int), .int .i64 128, .int .i64 192, .slice (some ⟨gw, 0, none⟩) s s, .slice (some ⟨gh, 0, none⟩) s s] 35 (0, 0)))) := by
      have hbb : Below w3.heap.size w3 (w6.alloc (.cells #[.int .i64 (N : Int), .int .i64 (s : Int), .int .i64 128, .int .i64 192, .slice (some ⟨gw, 0, none⟩) s s, .slice (some ⟨gh, 0, none⟩) s s] 35 (0, 0))) := ((HB4.out.alloc HB4.out.size _).trans (hb6.mono (by omega))).alloc (by omega) _
      have hsz : (w6.alloc (.cells #[.int .i64 (N : Int), .int .i64 (s : Int), .int .i64 128, .int .i64 192, .slice (some ⟨gw, 0, none⟩) s s, .slice (some ⟨gh, 0, none⟩) s s] 35 (0, 0))).heap.size = w6.heap.size + 1 := by simp
      have l1 := hw6.1
      have l2 := hh6.1
      refine ⟨d0, _, _, [], gw, s, gh, s, ⟨HP3.out.newer hbb (fun k hk => .inr ?_), (Below.heap_alloc _ _ _ (by omega)).trans ((hb6.block _ (by omega)).trans HR5.out), heap_alloc_new w6 _, ?_, ?_, ⟨by omega, by omega, by omega⟩, by omega, ⟨Nat.le_refl _, by unfold maxLen; omega⟩, ⟨Nat.le_refl _, by unfold maxLen; omega⟩⟩, HST3.out, Nat.le_refl _⟩
      · simp only [List.mem_cons, List.not_mem_nil, or_false] at hk
        rcases hk with rfl | rfl | rfl | rfl <;> omega
      · exact hw6.keep (by omega) (Below.heap_alloc _ _ _ l1)
      · rw [both_zeros]; exact hh6.keep (by omega) (Below.heap_alloc _ _ _ l2)
    clear hw6 hh6 hb6 hg1 hg2 hs4 hs6 h34
    go_wp2_with fail
    generalize hmb : w6.heap.size = mb at *
    generalize hsb : w4.heap.size = sb at *
    clear hmb hsb
    go_loopw [10, 59] (fun tv kv wr => ∃ k : Nat, k ≤ len ∧ kv = .int .i64 k ∧ Ra w1 q D N s sb mb k tv wr) (fun _ kv _ => len - (intOf kv).toNat)
    case atStart => exact ⟨0, Nat.zero_le _, rfl, HRA.out⟩
    case round =>
      obtain ⟨k, hk, rfl, d, ws, xs, tl, gw', cw, gh', ch, hrp, hst, htl⟩ := hrel
      obtain ⟨tb, tc, rfl, htc1, htc2⟩ := owns_form hrp.tp.row
      by_cases hlt : k < len
      · obtain ⟨ak, ax, b, o, hla, hak, hax, rfl, hc0, hc1⟩ := HZ.out.at (HB1.out.trans (hrp.tp.pool.below0.mono HB1.out.size)) hlt
        have HRP : Hid (Rp w1 q D d N s ws xs sb mb gw' cw gh' ch ws (both ws xs) (.slice tb tl.length tc) tl (wr.alloc (actObj ak ax))) := hrp.below ((Below.refl _ _).alloc (Nat.le_refl _) _)
        have HR5 : Hid ((wr.alloc (actObj ak ax)).heap[wr.heap.size]? = some (actObj ak ax)) := heap_alloc_new wr _
        have ha0 : (wr.alloc (actObj ak ax)).cell? ⟨wr.heap.size, 0, none⟩ = some (.int .u8 (ak : Int)) := cell_of_row _ _ 0 _ _ _ HR5.out
        have ha1 : (wr.alloc (actObj ak ax)).cell? ⟨wr.heap.size, 1, none⟩ = some (.int .i64 ax) := cell_of_row _ _ 1 _ _ _ HR5.out
        have HST := Lib.hid hst
        have htlk : tl.length ≤ 120 := by omega
        have HTL := Lib.hid htl
        clear hrp hst hla
        unfold actObj at ha0 ha1
        obtain ⟨r8, hr8⟩ : ∃ r8, ak % 8 = r8 := ⟨_, rfl⟩
        have e8 : (ak : Int) % 8 = (r8 : Int) := by omega
        have hr89 : r8 < 8 := by omega
        clear hr8
        go_upto_region 15 with fail
        go_cut [73] (fun sv wx => sv = .bool (decide (0 < tl.length ∧ r8 ≠ 7)) ∧ wx = wr.alloc (.cells #[.int .u8 (ak : Int), .int .i64 ax] 39 (0, 0)))
        case first =>
          by_cases h0 : 0 < tl.length
          · have h0i : (0 : Int) < (tl.length : Int) := by omega
            by_cases h7 : r8 = 7
            · have hb7 : ((r8 : Int) != 7) = false := by simp [h7]
              go_wp2
              go_meet
              case rel => exact ⟨by simp [h7], rfl⟩
            · have hb7 : ((r8 : Int) != 7) = true := by simp; omega
              go_wp2
              go_meet
              case rel => exact ⟨by simp [h0, h7], rfl⟩
          · have h0i : ¬ (0 : Int) < (tl.length : Int) := by omega
            go_wp2
            go_meet
            case rel => exact ⟨by simp [h0], rfl⟩
        case rest =>
          obtain ⟨rfl, rfl⟩ := hcut
          have hB : decide (0 < tl.length ∧ r8 ≠ 7) = true → 0 < tl.length := fun h => (of_decide_eq_true h).1
          generalize decide (0 < tl.length ∧ r8 ≠ 7) = B at *
          have HBB := Lib.hid hB
          clear hB
          go_upto_if 73 with fail
          go_cut [13] (fun sv wx => ∃ x : Int, sv = .int .i64 x ∧ Hid (I64 x) ∧ wx = wr.alloc (.cells #[.int .u8 (ak : Int), .int .i64 ax] 39 (0, 0)))
          case first =>
            cases B with
            | true =>
              have hn0 : 0 < tl.length := HBB.out rfl
              obtain ⟨mm, j, hmm1, hmm2, hj⟩ := pick7 ax hn0 (by omega)
              obtain ⟨b1, o1, rfl, hcj, hxj⟩ := HRP.out.tp.pick hj
              have HXJ : Hid (I64 (tl.getD j 0)) := hxj
              clear hxj
              generalize tl.getD j 0 = x at *
              unfold actObj at hcj
              have hmm0 : (tl.length : Int) ≠ 0 := by omega
              go_wp2
              go_meet
              case rel => exact ⟨x, rfl, HXJ, rfl⟩
            | false =>
              have HXA : Hid (I64 ax) := hax
              go_wp2
              go_meet
              case rel => exact ⟨ax, by first | rfl | assumption, HXA, rfl⟩
          case rest =>
            clear HBB
            obtain ⟨x, rfl, HX, rfl⟩ := hcut
            go_upto_block 2 with fail
            have HKB : Hid (k ≤ 120) := by show k ≤ 120; omega
            go_cut [10, 14, 15, 90] (fun tv ev fv _ wx => ∃ er : Int, ev = .int .i64 er ∧ fv = .int .i64 er ∧ Hid (Ra w1 q D N s sb mb (k + 1) tv wx))
            case first =>
              have h8 : r8 = 0 ∨ r8 = 1 ∨ r8 = 2 ∨ r8 = 3 ∨ r8 = 4 ∨ r8 = 5 ∨ r8 = 6 ∨ r8 = 7 := by omega
              clear hr89
              rcases h8 with rfl | rfl | rfl | rfl | rfl | rfl | rfl | rfl
              · as_aux_lemma =>
                have HRV := Lib.hid (t_reserve7 HRP.out.tp HSK.out HT71.out 1)
                have HER := Lib.hid (rsv_err12 (ws := ws) (xs := xs) (c := 1) (by decide))
                have HRI := Lib.hid (rsv_i64 HST.out.good 1)
                have HS6 := Lib.hid (HST.out.reserve 1)
                have HRR := Lib.hid (rR_rsv HST.out.good (c := ((1 : Nat) : Int)) (by decide))
                have HRR : Hid (rR 192 (both ws xs) ((1 : Nat) : Int) = (both ws (rsv 192 ws xs 1).1, (rsv 192 ws xs 1).2.1, (rsv 192 ws xs 1).2.2)) := HRR.out
                have HRC : Hid (∀ (d' : V.Dv) (xs' : List Nat) (W : World), Rp w1 q D d' N s ws xs' sb mb gw' cw gh' ch ws (both ws xs) (.slice tb tl.length tc) tl W → Calls Tryz.prog 11 #[.agg #[.int .i64 (N : Int), .int .i64 (s : Int), .int .i64 128, .int .i64 192, .slice (some ⟨gw', 0, none⟩) s cw, .slice (some ⟨gh', 0, none⟩) s ch], .int .i64 1] W fun e w' => ∃ g2 c2, e = .returned (.tuple #[.agg #[.int .i64 (N : Int), .int .i64 (s : Int), .int .i64 128, .int .i64 192, .slice (some ⟨gw', 0, none⟩) s cw, .slice (some ⟨g2, 0, none⟩) s c2], .int .i64 (rsv 192 ws xs 1).2.1, .int .i64 (rsv 192 ws xs 1).2.2]) ∧ WAt w' gw' ws ∧ WAt w' g2 (both ws (rsv 192 ws xs 1).1) ∧ (g2 = gh' ∨ W.heap.size ≤ g2) ∧ (s ≤ c2 ∧ c2 ≤ maxLen) ∧ Below W.heap.size W w') := fun d' xs' W h => by
                  obtain ⟨_, _, b3, b4⟩ := both64 HST.out.good HST.out.wl
                  have h2 := ra_reserve h 1 (by decide) b4 (by omega) b3
                  rw [HRR.out] at h2
                  exact h2
                clear HRR
                generalize rsv 192 ws xs 1 = r at *
                obtain ⟨xs', y, er⟩ := r
                dsimp only at HRV HER HRI HS6 HRC
                go_wp2_with fail
                refine HRV.out.mono ?_
                rintro e w6 ⟨rfl, htp6, hk6⟩
                have HRP6 := Lib.hid (HRP.out.call htp6 (by exact hk6))
                obtain ⟨q0, q1, q2, q3, q4, q5⟩ := HRP6.out.mrow.cells
                have HRC6 := Lib.hid (HRC.out _ _ _ HRP6.out)
                clear htp6 hk6
                go_wp2_with fail
                refine HRC6.out.mono ?_
                rintro e w7 ⟨g2, c2, rfl, hw7, hh7, eh7, cc7, hb7⟩
                have hrow7 : (w7.alloc (.cells #[.int .i64 (N : Int), .int .i64 (s : Int), .int .i64 128, .int .i64 192, .slice (some ⟨gw', 0, none⟩) s cw, .slice (some ⟨g2, 0, none⟩) s c2] 35 (0, 0))).heap[w7.heap.size]? = some (.cells #[.int .i64 (N : Int), .int .i64 (s : Int), .int .i64 128, .int .i64 192, .slice (some ⟨gw', 0, none⟩) s cw, .slice (some ⟨g2, 0, none⟩) s c2] 35 (0, 0)) := heap_alloc_new w7 _
                have n0 := cell_of_row _ _ 0 _ _ _ hrow7
                have n1 := cell_of_row _ _ 1 _ _ _ hrow7
                have n2 := cell_of_row _ _ 2 _ _ _ hrow7
                have n3 := cell_of_row _ _ 3 _ _ _ hrow7
                have n4 := cell_of_row _ _ 4 _ _ _ hrow7
                have n5 := cell_of_row _ _ 5 _ _ _ hrow7
                have hm7 : RpBox (N : Int) (s : Int) 128 192 (.slice (some ⟨gw', 0, none⟩) s cw) (.slice (some ⟨gh', 0, none⟩) s ch) mb (w7.alloc (.cells #[.int .i64 (N : Int), .int .i64 (s : Int), .int .i64 128, .int .i64 192, .slice (some ⟨gw', 0, none⟩) s cw, .slice (some ⟨g2, 0, none⟩) s c2] 35 (0, 0))) := (HRP6.out.mrow.below hb7).keep (Below.heap_alloc _ _ _ (HRP6.out.mrow.below hb7).lt)
                have HRP8 : Hid (Rp w1 q D d N s ws xs' sb mb gw' cw g2 c2 ws (both ws xs') (.slice tb tl.length tc) tl ((w7.alloc (.cells #[.int .i64 (N : Int), .int .i64 (s : Int), .int .i64 128, .int .i64 192, .slice (some ⟨gw', 0, none⟩) s cw, .slice (some ⟨g2, 0, none⟩) s c2] 35 (0, 0))).setRow mb #[.int .i64 (N : Int), .int .i64 (s : Int), .int .i64 128, .int .i64 192, .slice (some ⟨gw', 0, none⟩) s cw, .slice (some ⟨g2, 0, none⟩) s c2])) := HRP6.out.putR (hb7.alloc hb7.size _) (hw7.keep (by simp) (Below.heap_alloc _ _ _ hw7.1)) (hh7.keep (by simp) (Below.heap_alloc _ _ _ hh7.1)) (.inl rfl) eh7 HRP6.out.cws cc7
                clear hrow7 hw7 hh7 eh7 cc7 hb7 q0 q1 q2 q3 q4 q5
                go_upto_region 28 with (refine wpList_store_row rfl 35 (.tmp 9) (.tmp 123) rfl mb #[.int .i64 (N : Int), .int .i64 (s : Int), .int .i64 128, .int .i64 192, .slice (some ⟨gw', 0, none⟩) s cw, .slice (some ⟨g2, 0, none⟩) s c2] rfl rfl 35 #[.int .i64 (N : Int), .int .i64 (s : Int), .int .i64 128, .int .i64 192, .slice (some ⟨gw', 0, none⟩) s cw, .slice (some ⟨gh', 0, none⟩) s ch] hm7 info_rpool rfl (rp_one _ _ _ _ _ _ _ _ _) ?_)
                generalize ((w7.alloc (.cells #[.int .i64 (N : Int), .int .i64 (s : Int), .int .i64 128, .int .i64 192, .slice (some ⟨gw', 0, none⟩) s cw, .slice (some ⟨g2, 0, none⟩) s c2] 35 (0, 0))).setRow mb #[.int .i64 (N : Int), .int .i64 (s : Int), .int .i64 128, .int .i64 192, .slice (some ⟨gw', 0, none⟩) s cw, .slice (some ⟨g2, 0, none⟩) s c2]) = W8 at *
                clear n0 n1 n2 n3 n4 n5 hm7
                have hyy : ((y : Int) != y) = false := by simp
                rcases HER.out with rfl | rfl
                · have HX8 := Lib.hid (HRI.out rfl)
                  have HO8 : Hid (∀ o : Obj, (W8.alloc o).ownsRow w1.heap.size 3 1 (.slice tb tl.length tc) tl.length (tl.map (Value.int .i64))) := fun o => HRP8.out.tp.row.alloc o
                  have HW8 : Hid (∀ o : Obj, w1.heap.size ≤ (W8.alloc o).heap.size) := fun o => by
                    have := HRP8.out.tp.pool.below0.size
                    have : (W8.alloc o).heap.size = W8.heap.size + 1 := by simp
                    omega
                  have hm1 : tl.length + 1 ≤ maxLen := by unfold maxLen; omega
                  have hm2 : (tl.length + 1) * 8 ≤ 140737488355328 := by omega
                  go_wp2_with (at_builtin; refine wpList_append_lies _ rfl (.tmp 131) (.tmp 133) 37 rfl w1.heap.size 3 i0 _ 1 8 Tryz.underlying37 hi hz0 hz1 hz2 rfl (by decide) _ tl.length _ rfl (HO8.out _) _ 1 1 [.int .i64 y] rfl rfl (World.news_of_block (heap_alloc_new _ _)) (by simp [Value.oneCell']) (by decide) hm1 hm2 (HW8.out _) _ rfl ?_)
                  intro g9 cap9 w9 o9 gr9 at9 lt9
                  have HD9 : Hid (Ra w1 q D N s sb mb (k + 1) (.slice (some ⟨g9, 0, none⟩) (tl.length + 1) cap9) w9) := ⟨_, _, _, _, _, _, _, _, HRP8.out.push HX8.out o9 gr9 at9, HS6.out.more.more, by have := HTL.out; simp; omega⟩
                  clear o9 gr9 at9 lt9
                  go_wp2
                  go_meet
                  case rel => exact ⟨0, rfl, rfl, HD9⟩
                · have HD9 : Hid (Ra w1 q D N s sb mb (k + 1) (.slice tb tl.length tc) W8) := ⟨_, _, _, _, _, _, _, _, HRP8.out, HS6.out.more.more, by have := HTL.out; omega⟩
                  go_wp2
                  go_meet
                  case rel => exact ⟨6, rfl, rfl, HD9⟩
              · as_aux_lemma =>
                have HRV := Lib.hid (t_reserve7 HRP.out.tp HSK.out HT71.out 1)
                have HER := Lib.hid (rsv_err12 (ws := ws) (xs := xs) (c := 1) (by decide))
                have HRI := Lib.hid (rsv_i64 HST.out.good 1)
                have HS6 := Lib.hid (HST.out.reserve 1)
                have HRR := Lib.hid (rR_rsv HST.out.good (c := ((1 : Nat) : Int)) (by decide))
                have HRR : Hid (rR 192 (both ws xs) ((1 : Nat) : Int) = (both ws (rsv 192 ws xs 1).1, (rsv 192 ws xs 1).2.1, (rsv 192 ws xs 1).2.2)) := HRR.out
                have HRC : Hid (∀ (d' : V.Dv) (xs' : List Nat) (W : World), Rp w1 q D d' N s ws xs' sb mb gw' cw gh' ch ws (both ws xs) (.slice tb tl.length tc) tl W → Calls Tryz.prog 11 #[.agg #[.int .i64 (N : Int), .int .i64 (s : Int), .int .i64 128, .int .i64 192, .slice (some ⟨gw', 0, none⟩) s cw, .slice (some ⟨gh', 0, none⟩) s ch], .int .i64 1] W fun e w' => ∃ g2 c2, e = .returned (.tuple #[.agg #[.int .i64 (N : Int), .int .i64 (s : Int), .int .i64 128, .int .i64 192, .slice (some ⟨gw', 0, none⟩) s cw, .slice (some ⟨g2, 0, none⟩) s c2], .int .i64 (rsv 192 ws xs 1).2.1, .int .i64 (rsv 192 ws xs 1).2.2]) ∧ WAt w' gw' ws ∧ WAt w' g2 (both ws (rsv 192 ws xs 1).1) ∧ (g2 = gh' ∨ W.heap.size ≤ g2) ∧ (s ≤ c2 ∧ c2 ≤ maxLen) ∧ Below W.heap.size W w') := fun d' xs' W h => by
                  obtain ⟨_, _, b3, b4⟩ := both64 HST.out.good HST.out.wl
                  have h2 := ra_reserve h 1 (by decide) b4 (by omega) b3
                  rw [HRR.out] at h2
                  exact h2
                clear HRR
                generalize rsv 192 ws xs 1 = r at *
                obtain ⟨xs', y, er⟩ := r
                dsimp only at HRV HER HRI HS6 HRC
                go_wp2_with fail
                refine HRV.out.mono ?_
                rintro e w6 ⟨rfl, htp6, hk6⟩
                have HRP6 := Lib.hid (HRP.out.call htp6 (by exact hk6))
                obtain ⟨q0, q1, q2, q3, q4, q5⟩ := HRP6.out.mrow.cells
                have HRC6 := Lib.hid (HRC.out _ _ _ HRP6.out)
                clear htp6 hk6
                go_wp2_with fail
                refine HRC6.out.mono ?_
                rintro e w7 ⟨g2, c2, rfl, hw7, hh7, eh7, cc7, hb7⟩
                have hrow7 : (w7.alloc (.cells #[.int .i64 (N : Int), .int .i64 (s : Int), .int .i64 128, .int .i64 192, .slice (some ⟨gw', 0, none⟩) s cw, .slice (some ⟨g2, 0, none⟩) s c2] 35 (0, 0))).heap[w7.heap.size]? = some (.cells #[.int .i64 (N : Int), .int .i64 (s : Int), .int .i64 128, .int .i64 192, .slice (some ⟨gw', 0, none⟩) s cw, .slice (some ⟨g2, 0, none⟩) s c2] 35 (0, 0)) := heap_alloc_new w7 _
                have n0 := cell_of_row _ _ 0 _ _ _ hrow7
                have n1 := cell_of_row _ _ 1 _ _ _ hrow7
                have n2 := cell_of_row _ _ 2 _ _ _ hrow7
                have n3 := cell_of_row _ _ 3 _ _ _ hrow7
                have n4 := cell_of_row _ _ 4 _ _ _ hrow7
                have n5 := cell_of_row _ _ 5 _ _ _ hrow7
                have hm7 : RpBox (N : Int) (s : Int) 128 192 (.slice (some ⟨gw', 0, none⟩) s cw) (.slice (some ⟨gh', 0, none⟩) s ch) mb (w7.alloc (.cells #[.int .i64 (N : Int), .int .i64 (s : Int), .int .i64 128, .int .i64 192, .slice (some ⟨gw', 0, none⟩) s cw, .slice (some ⟨g2, 0, none⟩) s c2] 35 (0, 0))) := (HRP6.out.mrow.below hb7).keep (Below.heap_alloc _ _ _ (HRP6.out.mrow.below hb7).lt)
                have HRP8 : Hid (Rp w1 q D d N s ws xs' sb mb gw' cw g2 c2 ws (both ws xs') (.slice tb tl.length tc) tl ((w7.alloc (.cells #[.int .i64 (N : Int), .int .i64 (s : Int), .int .i64 128, .int .i64 192, .slice (some ⟨gw', 0, none⟩) s cw, .slice (some ⟨g2, 0, none⟩) s c2] 35 (0, 0))).setRow mb #[.int .i64 (N : Int), .int .i64 (s : Int), .int .i64 128, .int .i64 192, .slice (some ⟨gw', 0, none⟩) s cw, .slice (some ⟨g2, 0, none⟩) s c2])) := HRP6.out.putR (hb7.alloc hb7.size _) (hw7.keep (by simp) (Below.heap_alloc _ _ _ hw7.1)) (hh7.keep (by simp) (Below.heap_alloc _ _ _ hh7.1)) (.inl rfl) eh7 HRP6.out.cws cc7
                clear hrow7 hw7 hh7 eh7 cc7 hb7 q0 q1 q2 q3 q4 q5
                go_upto_region 28 with (refine wpList_store_row rfl 35 (.tmp 9) (.tmp 123) rfl mb #[.int .i64 (N : Int), .int .i64 (s : Int), .int .i64 128, .int .i64 192, .slice (some ⟨gw', 0, none⟩) s cw, .slice (some ⟨g2, 0, none⟩) s c2] rfl rfl 35 #[.int .i64 (N : Int), .int .i64 (s : Int), .int .i64 128, .int .i64 192, .slice (some ⟨gw', 0, none⟩) s cw, .slice (some ⟨gh', 0, none⟩) s ch] hm7 info_rpool rfl (rp_one _ _ _ _ _ _ _ _ _) ?_)
                generalize ((w7.alloc (.cells #[.int .i64 (N : Int), .int .i64 (s : Int), .int .i64 128, .int .i64 192, .slice (some ⟨gw', 0, none⟩) s cw, .slice (some ⟨g2, 0, none⟩) s c2] 35 (0, 0))).setRow mb #[.int .i64 (N : Int), .int .i64 (s : Int), .int .i64 128, .int .i64 192, .slice (some ⟨gw', 0, none⟩) s cw, .slice (some ⟨g2, 0, none⟩) s c2]) = W8 at *
                clear n0 n1 n2 n3 n4 n5 hm7
                have hyy : ((y : Int) != y) = false := by simp
                rcases HER.out with rfl | rfl
                · have HX8 := Lib.hid (HRI.out rfl)
                  have HO8 : Hid (∀ o : Obj, (W8.alloc o).ownsRow w1.heap.size 3 1 (.slice tb tl.length tc) tl.length (tl.map (Value.int .i64))) := fun o => HRP8.out.tp.row.alloc o
                  have HW8 : Hid (∀ o : Obj, w1.heap.size ≤ (W8.alloc o).heap.size) := fun o => by
                    have := HRP8.out.tp.pool.below0.size
                    have : (W8.alloc o).heap.size = W8.heap.size + 1 := by simp
                    omega
                  have hm1 : tl.length + 1 ≤ maxLen := by unfold maxLen; omega
                  have hm2 : (tl.length + 1) * 8 ≤ 140737488355328 := by omega
                  go_wp2_with (at_builtin; refine wpList_append_lies _ rfl (.tmp 131) (.tmp 133) 37 rfl w1.heap.size 3 i0 _ 1 8 Tryz.underlying37 hi hz0 hz1 hz2 rfl (by decide) _ tl.length _ rfl (HO8.out _) _ 1 1 [.int .i64 y] rfl rfl (World.news_of_block (heap_alloc_new _ _)) (by simp [Value.oneCell']) (by decide) hm1 hm2 (HW8.out _) _ rfl ?_)
                  intro g9 cap9 w9 o9 gr9 at9 lt9
                  have HD9 : Hid (Ra w1 q D N s sb mb (k + 1) (.slice (some ⟨g9, 0, none⟩) (tl.length + 1) cap9) w9) := ⟨_, _, _, _, _, _, _, _, HRP8.out.push HX8.out o9 gr9 at9, HS6.out.more.more, by have := HTL.out; simp; omega⟩
                  clear o9 gr9 at9 lt9
                  go_wp2
                  go_meet
                  case rel => exact ⟨0, rfl, rfl, HD9⟩
                · have HD9 : Hid (Ra w1 q D N s sb mb (k + 1) (.slice tb tl.length tc) W8) := ⟨_, _, _, _, _, _, _, _, HRP8.out, HS6.out.more.more, by have := HTL.out; omega⟩
                  go_wp2
                  go_meet
                  case rel => exact ⟨6, rfl, rfl, HD9⟩
              · as_aux_lemma =>
                have HRV := Lib.hid (t_reserve7 HRP.out.tp HSK.out HT71.out 2)
                have HER := Lib.hid (rsv_err12 (ws := ws) (xs := xs) (c := 2) (by decide))
                have HRI := Lib.hid (rsv_i64 HST.out.good 2)
                have HS6 := Lib.hid (HST.out.reserve 2)
                have HRR := Lib.hid (rR_rsv HST.out.good (c := ((2 : Nat) : Int)) (by decide))
                have HRR : Hid (rR 192 (both ws xs) ((2 : Nat) : Int) = (both ws (rsv 192 ws xs 2).1, (rsv 192 ws xs 2).2.1, (rsv 192 ws xs 2).2.2)) := HRR.out
                have HRC : Hid (∀ (d' : V.Dv) (xs' : List Nat) (W : World), Rp w1 q D d' N s ws xs' sb mb gw' cw gh' ch ws (both ws xs) (.slice tb tl.length tc) tl W → Calls Tryz.prog 11 #[.agg #[.int .i64 (N : Int), .int .i64 (s : Int), .int .i64 128, .int .i64 192, .slice (some ⟨gw', 0, none⟩) s cw, .slice (some ⟨gh', 0, none⟩) s ch], .int .i64 2] W fun e w' => ∃ g2 c2, e = .returned (.tuple #[.agg #[.int .i64 (N : Int), .int .i64 (s : Int), .int .i64 128, .int .i64 192, .slice (some ⟨gw', 0, none⟩) s cw, .slice (some ⟨g2, 0, none⟩) s c2], .int .i64 (rsv 192 ws xs 2).2.1, .int .i64 (rsv 192 ws xs 2).2.2]) ∧ WAt w' gw' ws ∧ WAt w' g2 (both ws (rsv 192 ws xs 2).1) ∧ (g2 = gh' ∨ W.heap.size ≤ g2) ∧ (s ≤ c2 ∧ c2 ≤ maxLen) ∧ Below W.heap.size W w') := fun d' xs' W h => by
                  obtain ⟨_, _, b3, b4⟩ := both64 HST.out.good HST.out.wl
                  have h2 := ra_reserve h 2 (by decide) b4 (by omega) b3
                  rw [HRR.out] at h2
                  exact h2
                clear HRR
                generalize rsv 192 ws xs 2 = r at *
                obtain ⟨xs', y, er⟩ := r
                dsimp only at HRV HER HRI HS6 HRC
                go_wp2_with fail
                refine HRV.out.mono ?_
                rintro e w6 ⟨rfl, htp6, hk6⟩
                have HRP6 := Lib.hid (HRP.out.call htp6 (by exact hk6))
                obtain ⟨q0, q1, q2, q3, q4, q5⟩ := HRP6.out.mrow.cells
                have HRC6 := Lib.hid (HRC.out _ _ _ HRP6.out)
                clear htp6 hk6
                go_wp2_with fail
                refine HRC6.out.mono ?_
                rintro e w7 ⟨g2, c2, rfl, hw7, hh7, eh7, cc7, hb7⟩
                have hrow7 : (w7.alloc (.cells #[.int .i64 (N : Int), .int .i64 (s : Int), .int .i64 128, .int .i64 192, .slice (some ⟨gw', 0, none⟩) s cw, .slice (some ⟨g2, 0, none⟩) s c2] 35 (0, 0))).heap[w7.heap.size]? = some (.cells #[.int .i64 (N : Int), .int .i64 (s : Int), .int .i64 128, .int .i64 192, .slice (some ⟨gw', 0, none⟩) s cw, .slice (some ⟨g2, 0, none⟩) s c2] 35 (0, 0)) := heap_alloc_new w7 _
                have n0 := cell_of_row _ _ 0 _ _ _ hrow7
                have n1 := cell_of_row _ _ 1 _ _ _ hrow7
                have n2 := cell_of_row _ _ 2 _ _ _ hrow7
                have n3 := cell_of_row _ _ 3 _ _ _ hrow7
                have n4 := cell_of_row _ _ 4 _ _ _ hrow7
                have n5 := cell_of_row _ _ 5 _ _ _ hrow7
                have hm7 : RpBox (N : Int) (s : Int) 128 192 (.slice (some ⟨gw', 0, none⟩) s cw) (.slice (some ⟨gh', 0, none⟩) s ch) mb (w7.alloc (.cells #[.int .i64 (N : Int), .int .i64 (s : Int), .int .i64 128, .int .i64 192, .slice (some ⟨gw', 0, none⟩) s cw, .slice (some ⟨g2, 0, none⟩) s c2] 35 (0, 0))) := (HRP6.out.mrow.below hb7).keep (Below.heap_alloc _ _ _ (HRP6.out.mrow.below hb7).lt)
                have HRP8 : Hid (Rp w1 q D d N s ws xs' sb mb gw' cw g2 c2 ws (both ws xs') (.slice tb tl.length tc) tl ((w7.alloc (.cells #[.int .i64 (N : Int), .int .i64 (s : Int), .int .i64 128, .int .i64 192, .slice (some ⟨gw', 0, none⟩) s cw, .slice (some ⟨g2, 0, none⟩) s c2] 35 (0, 0))).setRow mb #[.int .i64 (N : Int), .int .i64 (s : Int), .int .i64 128, .int .i64 192, .slice (some ⟨gw', 0, none⟩) s cw, .slice (some ⟨g2, 0, none⟩) s c2])) := HRP6.out.putR (hb7.alloc hb7.size _) (hw7.keep (by simp) (Below.heap_alloc _ _ _ hw7.1)) (hh7.keep (by simp) (Below.heap_alloc _ _ _ hh7.1)) (.inl rfl) eh7 HRP6.out.cws cc7
                clear hrow7 hw7 hh7 eh7 cc7 hb7 q0 q1 q2 q3 q4 q5
                go_upto_region 28 with (refine wpList_store_row rfl 35 (.tmp 9) (.tmp 123) rfl mb #[.int .i64 (N : Int), .int .i64 (s : Int), .int .i64 128, .int .i64 192, .slice (some ⟨gw', 0, none⟩) s cw, .slice (some ⟨g2, 0, none⟩) s c2] rfl rfl 35 #[.int .i64 (N : Int), .int .i64 (s : Int), .int .i64 128, .int .i64 192, .slice (some ⟨gw', 0, none⟩) s cw, .slice (some ⟨gh', 0, none⟩) s ch] hm7 info_rpool rfl (rp_one _ _ _ _ _ _ _ _ _) ?_)
                generalize ((w7.alloc (.cells #[.int .i64 (N : Int), .int .i64 (s : Int), .int .i64 128, .int .i64 192, .slice (some ⟨gw', 0, none⟩) s cw, .slice (some ⟨g2, 0, none⟩) s c2] 35 (0, 0))).setRow mb #[.int .i64 (N : Int), .int .i64 (s : Int), .int .i64 128, .int .i64 192, .slice (some ⟨gw', 0, none⟩) s cw, .slice (some ⟨g2, 0, none⟩) s c2]) = W8 at *
                clear n0 n1 n2 n3 n4 n5 hm7
                have hyy : ((y : Int) != y) = false := by simp
                rcases HER.out with rfl | rfl
                · have HX8 := Lib.hid (HRI.out rfl)
                  have HO8 : Hid (∀ o : Obj, (W8.alloc o).ownsRow w1.heap.size 3 1 (.slice tb tl.length tc) tl.length (tl.map (Value.int .i64))) := fun o => HRP8.out.tp.row.alloc o
                  have HW8 : Hid (∀ o : Obj, w1.heap.size ≤ (W8.alloc o).heap.size) := fun o => by
                    have := HRP8.out.tp.pool.below0.size
                    have : (W8.alloc o).heap.size = W8.heap.size + 1 := by simp
                    omega
                  have hm1 : tl.length + 1 ≤ maxLen := by unfold maxLen; omega
                  have hm2 : (tl.length + 1) * 8 ≤ 140737488355328 := by omega
                  go_wp2_with (at_builtin; refine wpList_append_lies _ rfl (.tmp 131) (.tmp 133) 37 rfl w1.heap.size 3 i0 _ 1 8 Tryz.underlying37 hi hz0 hz1 hz2 rfl (by decide) _ tl.length _ rfl (HO8.out _) _ 1 1 [.int .i64 y] rfl rfl (World.news_of_block (heap_alloc_new _ _)) (by simp [Value.oneCell']) (by decide) hm1 hm2 (HW8.out _) _ rfl ?_)
                  intro g9 cap9 w9 o9 gr9 at9 lt9
                  have HD9 : Hid (Ra w1 q D N s sb mb (k + 1) (.slice (some ⟨g9, 0, none⟩) (tl.length + 1) cap9) w9) := ⟨_, _, _, _, _, _, _, _, HRP8.out.push HX8.out o9 gr9 at9, HS6.out.more.more, by have := HTL.out; simp; omega⟩
                  clear o9 gr9 at9 lt9
                  go_wp2
                  go_meet
                  case rel => exact ⟨0, rfl, rfl, HD9⟩
                · have HD9 : Hid (Ra w1 q D N s sb mb (k + 1) (.slice tb tl.length tc) W8) := ⟨_, _, _, _, _, _, _, _, HRP8.out, HS6.out.more.more, by have := HTL.out; omega⟩
                  go_wp2
                  go_meet
                  case rel => exact ⟨6, rfl, rfl, HD9⟩
              · as_aux_lemma =>
                have HCAa := Lib.hid (t_take7 HRP.out.tp HSK.out (by have := HST.out.steps; have := HKB.out; omega) x HX.out)
                have HSNa := Lib.hid (HST.out.take HN19.out.1 HN19.out.2.1 (sh := ⟨(N : Int), (s : Int), 128, 192⟩) rfl x).1
                have HRCa : Hid (∀ (d' : V.Dv) (ws' xs' : List Nat) (W : World), Rp w1 q D d' N s ws' xs' sb mb gw' cw gh' ch ws (both ws xs) (.slice tb tl.length tc) tl W → Calls Tryz.prog 15 #[.agg #[.int .i64 (N : Int), .int .i64 (s : Int), .int .i64 128, .int .i64 192, .slice (some ⟨gw', 0, none⟩) s cw, .slice (some ⟨gh', 0, none⟩) s ch], .int .i64 x] W _) := fun d' ws' xs' W h => ra_take h HST.out HN19.out.1 HN19.out.2.1 x
                generalize takeR d ⟨(N : Int), (s : Int), 128, 192⟩ 192 ws xs x = ra at *
                obtain ⟨da, wsa, xsa, era⟩ := ra
                dsimp only at HCAa HSNa HRCa
                go_wp2_with fail
                refine HCAa.out.mono ?_
                rintro e w6a ⟨rfl, htp6, hk6⟩
                have HRP6a := Lib.hid (HRP.out.call htp6 (by exact hk6))
                obtain ⟨q0, q1, q2, q3, q4, q5⟩ := HRP6a.out.mrow.cells
                have HRDa := Lib.hid (HRCa.out _ _ _ _ HRP6a.out)
                clear htp6 hk6
                go_wp2_with fail
                refine HRDa.out.mono ?_
                rintro e w7 ⟨g1a, c1a, g2a, c2a, rfl, hw7, hh7, ew7, eh7, cw7, ch7, hb7⟩
                have hm7 := HRP6a.out.mrow.below hb7
                clear q0 q1 q2 q3 q4 q5
                have HRP8a : Hid (Rp w1 q D da N s wsa xsa sb mb g1a c1a g2a c2a wsa (both wsa xsa) (.slice tb tl.length tc) tl (w7.setRow mb #[.int .i64 (N : Int), .int .i64 (s : Int), .int .i64 128, .int .i64 192, .slice (some ⟨g1a, 0, none⟩) s c1a, .slice (some ⟨g2a, 0, none⟩) s c2a])) := HRP6a.out.putR hb7 hw7 hh7 ew7 eh7 cw7 ch7
                clear hw7 hh7 ew7 eh7 cw7 ch7 hb7
                go_wp2_with (refine wpList_store_row rfl 35 (.tmp 9) (.tmp 98) rfl mb #[.int .i64 (N : Int), .int .i64 (s : Int), .int .i64 128, .int .i64 192, .slice (some ⟨g1a, 0, none⟩) s c1a, .slice (some ⟨g2a, 0, none⟩) s c2a] rfl rfl 35 #[.int .i64 (N : Int), .int .i64 (s : Int), .int .i64 128, .int .i64 192, .slice (some ⟨gw', 0, none⟩) s cw, .slice (some ⟨gh', 0, none⟩) s ch] hm7 info_rpool rfl (rp_one _ _ _ _ _ _ _ _ _) ?_)
                go_meet
                case rel => exact ⟨era, rfl, rfl, _, _, _, _, _, _, _, _, HRP8a.out, HSNa.out.more, by have := HTL.out; omega⟩
              · as_aux_lemma =>
                have HCAa := Lib.hid (t_take7 HRP.out.tp HSK.out (by have := HST.out.steps; have := HKB.out; omega) x HX.out)
                have HSNa := Lib.hid (HST.out.take HN19.out.1 HN19.out.2.1 (sh := ⟨(N : Int), (s : Int), 128, 192⟩) rfl x).1
                have HRCa : Hid (∀ (d' : V.Dv) (ws' xs' : List Nat) (W : World), Rp w1 q D d' N s ws' xs' sb mb gw' cw gh' ch ws (both ws xs) (.slice tb tl.length tc) tl W → Calls Tryz.prog 15 #[.agg #[.int .i64 (N : Int), .int .i64 (s : Int), .int .i64 128, .int .i64 192, .slice (some ⟨gw', 0, none⟩) s cw, .slice (some ⟨gh', 0, none⟩) s ch], .int .i64 x] W _) := fun d' ws' xs' W h => ra_take h HST.out HN19.out.1 HN19.out.2.1 x
                generalize takeR d ⟨(N : Int), (s : Int), 128, 192⟩ 192 ws xs x = ra at *
                obtain ⟨da, wsa, xsa, era⟩ := ra
                dsimp only at HCAa HSNa HRCa
                go_wp2_with fail
                refine HCAa.out.mono ?_
                rintro e w6a ⟨rfl, htp6, hk6⟩
                have HRP6a := Lib.hid (HRP.out.call htp6 (by exact hk6))
                obtain ⟨q0, q1, q2, q3, q4, q5⟩ := HRP6a.out.mrow.cells
                have HRDa := Lib.hid (HRCa.out _ _ _ _ HRP6a.out)
                clear htp6 hk6
                go_wp2_with fail
                refine HRDa.out.mono ?_
                rintro e w7 ⟨g1a, c1a, g2a, c2a, rfl, hw7, hh7, ew7, eh7, cw7, ch7, hb7⟩
                have hm7 := HRP6a.out.mrow.below hb7
                clear q0 q1 q2 q3 q4 q5
                have HRP8a : Hid (Rp w1 q D da N s wsa xsa sb mb g1a c1a g2a c2a wsa (both wsa xsa) (.slice tb tl.length tc) tl (w7.setRow mb #[.int .i64 (N : Int), .int .i64 (s : Int), .int .i64 128, .int .i64 192, .slice (some ⟨g1a, 0, none⟩) s c1a, .slice (some ⟨g2a, 0, none⟩) s c2a])) := HRP6a.out.putR hb7 hw7 hh7 ew7 eh7 cw7 ch7
                clear hw7 hh7 ew7 eh7 cw7 ch7 hb7
                go_wp2_with (refine wpList_store_row rfl 35 (.tmp 9) (.tmp 98) rfl mb #[.int .i64 (N : Int), .int .i64 (s : Int), .int .i64 128, .int .i64 192, .slice (some ⟨g1a, 0, none⟩) s c1a, .slice (some ⟨g2a, 0, none⟩) s c2a] rfl rfl 35 #[.int .i64 (N : Int), .int .i64 (s : Int), .int .i64 128, .int .i64 192, .slice (some ⟨gw', 0, none⟩) s cw, .slice (some ⟨gh', 0, none⟩) s ch] hm7 info_rpool rfl (rp_one _ _ _ _ _ _ _ _ _) ?_)
                go_meet
                case rel => exact ⟨era, rfl, rfl, _, _, _, _, _, _, _, _, HRP8a.out, HSNa.out.more, by have := HTL.out; omega⟩
              · as_aux_lemma =>
                have HCAa := Lib.hid (t_drop7 HRP.out.tp HSK.out (by have := HST.out.steps; have := HKB.out; omega) x HX.out)
                have HSNa := Lib.hid (HST.out.drop HN19.out.1 HN19.out.2.1 (sh := ⟨(N : Int), (s : Int), 128, 192⟩) rfl x)
                have HRCa : Hid (∀ (d' : V.Dv) (ws' xs' : List Nat) (W : World), Rp w1 q D d' N s ws' xs' sb mb gw' cw gh' ch ws (both ws xs) (.slice tb tl.length tc) tl W → Calls Tryz.prog 13 #[.agg #[.int .i64 (N : Int), .int .i64 (s : Int), .int .i64 128, .int .i64 192, .slice (some ⟨gw', 0, none⟩) s cw, .slice (some ⟨gh', 0, none⟩) s ch], .int .i64 x] W _) := fun d' ws' xs' W h => ra_drop h HST.out HN19.out.1 HN19.out.2.1 x
                generalize dropR d ⟨(N : Int), (s : Int), 128, 192⟩ 192 ws xs x = ra at *
                obtain ⟨da, wsa, xsa, era⟩ := ra
                dsimp only at HCAa HSNa HRCa
                go_wp2_with fail
                refine HCAa.out.mono ?_
                rintro e w6a ⟨rfl, htp6, hk6⟩
                have HRP6a := Lib.hid (HRP.out.call htp6 (by exact hk6))
                obtain ⟨q0, q1, q2, q3, q4, q5⟩ := HRP6a.out.mrow.cells
                have HRDa := Lib.hid (HRCa.out _ _ _ _ HRP6a.out)
                clear htp6 hk6
                go_wp2_with fail
                refine HRDa.out.mono ?_
                rintro e w7 ⟨g1a, c1a, g2a, c2a, rfl, hw7, hh7, ew7, eh7, cw7, ch7, hb7⟩
                have hm7 := HRP6a.out.mrow.below hb7
                clear q0 q1 q2 q3 q4 q5
                have HRP8a : Hid (Rp w1 q D da N s wsa xsa sb mb g1a c1a g2a c2a wsa (both wsa xsa) (.slice tb tl.length tc) tl (w7.setRow mb #[.int .i64 (N : Int), .int .i64 (s : Int), .int .i64 128, .int .i64 192, .slice (some ⟨g1a, 0, none⟩) s c1a, .slice (some ⟨g2a, 0, none⟩) s c2a])) := HRP6a.out.putR hb7 hw7 hh7 ew7 eh7 cw7 ch7
                clear hw7 hh7 ew7 eh7 cw7 ch7 hb7
                go_wp2_with (refine wpList_store_row rfl 35 (.tmp 9) (.tmp 145) rfl mb #[.int .i64 (N : Int), .int .i64 (s : Int), .int .i64 128, .int .i64 192, .slice (some ⟨g1a, 0, none⟩) s c1a, .slice (some ⟨g2a, 0, none⟩) s c2a] rfl rfl 35 #[.int .i64 (N : Int), .int .i64 (s : Int), .int .i64 128, .int .i64 192, .slice (some ⟨gw', 0, none⟩) s cw, .slice (some ⟨gh', 0, none⟩) s ch] hm7 info_rpool rfl (rp_one _ _ _ _ _ _ _ _ _) ?_)
                go_meet
                case rel => exact ⟨era, rfl, rfl, _, _, _, _, _, _, _, _, HRP8a.out, HSNa.out.more, by have := HTL.out; omega⟩
              · as_aux_lemma =>
                have HCAa := Lib.hid (t_drop7 HRP.out.tp HSK.out (by have := HST.out.steps; have := HKB.out; omega) x HX.out)
                have HSNa := Lib.hid (HST.out.drop HN19.out.1 HN19.out.2.1 (sh := ⟨(N : Int), (s : Int), 128, 192⟩) rfl x)
                have HRCa : Hid (∀ (d' : V.Dv) (ws' xs' : List Nat) (W : World), Rp w1 q D d' N s ws' xs' sb mb gw' cw gh' ch ws (both ws xs) (.slice tb tl.length tc) tl W → Calls Tryz.prog 13 #[.agg #[.int .i64 (N : Int), .int .i64 (s : Int), .int .i64 128, .int .i64 192, .slice (some ⟨gw', 0, none⟩) s cw, .slice (some ⟨gh', 0, none⟩) s ch], .int .i64 x] W _) := fun d' ws' xs' W h => ra_drop h HST.out HN19.out.1 HN19.out.2.1 x
                generalize dropR d ⟨(N : Int), (s : Int), 128, 192⟩ 192 ws xs x = ra at *
                obtain ⟨da, wsa, xsa, era⟩ := ra
                dsimp only at HCAa HSNa HRCa
                go_wp2_with fail
                refine HCAa.out.mono ?_
                rintro e w6a ⟨rfl, htp6, hk6⟩
                have HRP6a := Lib.hid (HRP.out.call htp6 (by exact hk6))
                obtain ⟨q0, q1, q2, q3, q4, q5⟩ := HRP6a.out.mrow.cells
                have HRDa := Lib.hid (HRCa.out _ _ _ _ HRP6a.out)
                clear htp6 hk6
                go_wp2_with fail
                refine HRDa.out.mono ?_
                rintro e w7 ⟨g1a, c1a, g2a, c2a, rfl, hw7, hh7, ew7, eh7, cw7, ch7, hb7⟩
                have hm7 := HRP6a.out.mrow.below hb7
                clear q0 q1 q2 q3 q4 q5
                have HRP8a : Hid (Rp w1 q D da N s wsa xsa sb mb g1a c1a g2a c2a wsa (both wsa xsa) (.slice tb tl.length tc) tl (w7.setRow mb #[.int .i64 (N : Int), .int .i64 (s : Int), .int .i64 128, .int .i64 192, .slice (some ⟨g1a, 0, none⟩) s c1a, .slice (some ⟨g2a, 0, none⟩) s c2a])) := HRP6a.out.putR hb7 hw7 hh7 ew7 eh7 cw7 ch7
                clear hw7 hh7 ew7 eh7 cw7 ch7 hb7
                go_wp2_with (refine wpList_store_row rfl 35 (.tmp 9) (.tmp 145) rfl mb #[.int .i64 (N : Int), .int .i64 (s : Int), .int .i64 128, .int .i64 192, .slice (some ⟨g1a, 0, none⟩) s c1a, .slice (some ⟨g2a, 0, none⟩) s c2a] rfl rfl 35 #[.int .i64 (N : Int), .int .i64 (s : Int), .int .i64 128, .int .i64 192, .slice (some ⟨gw', 0, none⟩) s cw, .slice (some ⟨gh', 0, none⟩) s ch] hm7 info_rpool rfl (rp_one _ _ _ _ _ _ _ _ _) ?_)
                go_meet
                case rel => exact ⟨era, rfl, rfl, _, _, _, _, _, _, _, _, HRP8a.out, HSNa.out.more, by have := HTL.out; omega⟩
              · as_aux_lemma =>
                have HCAa := Lib.hid (t_take7 HRP.out.tp HSK.out (by have := HST.out.steps; have := HKB.out; omega) x HX.out)
                have HSNa := Lib.hid (HST.out.take HN19.out.1 HN19.out.2.1 (sh := ⟨(N : Int), (s : Int), 128, 192⟩) rfl x).1
                have HRCa : Hid (∀ (d' : V.Dv) (ws' xs' : List Nat) (W : World), Rp w1 q D d' N s ws' xs' sb mb gw' cw gh' ch ws (both ws xs) (.slice tb tl.length tc) tl W → Calls Tryz.prog 15 #[.agg #[.int .i64 (N : Int), .int .i64 (s : Int), .int .i64 128, .int .i64 192, .slice (some ⟨gw', 0, none⟩) s cw, .slice (some ⟨gh', 0, none⟩) s ch], .int .i64 x] W _) := fun d' ws' xs' W h => ra_take h HST.out HN19.out.1 HN19.out.2.1 x
                generalize takeR d ⟨(N : Int), (s : Int), 128, 192⟩ 192 ws xs x = ra at *
                obtain ⟨da, wsa, xsa, era⟩ := ra
                dsimp only at HCAa HSNa HRCa
                go_wp2_with fail
                refine HCAa.out.mono ?_
                rintro e w6a ⟨rfl, htp6, hk6⟩
                have HRP6a := Lib.hid (HRP.out.call htp6 (by exact hk6))
                obtain ⟨q0, q1, q2, q3, q4, q5⟩ := HRP6a.out.mrow.cells
                have HRDa := Lib.hid (HRCa.out _ _ _ _ HRP6a.out)
                clear htp6 hk6
                go_wp2_with fail
                refine HRDa.out.mono ?_
                rintro e w7 ⟨g1a, c1a, g2a, c2a, rfl, hw7, hh7, ew7, eh7, cw7, ch7, hb7⟩
                have hm7 := HRP6a.out.mrow.below hb7
                clear q0 q1 q2 q3 q4 q5
                have HRP8a : Hid (Rp w1 q D da N s wsa xsa sb mb g1a c1a g2a c2a wsa (both wsa xsa) (.slice tb tl.length tc) tl (w7.setRow mb #[.int .i64 (N : Int), .int .i64 (s : Int), .int .i64 128, .int .i64 192, .slice (some ⟨g1a, 0, none⟩) s c1a, .slice (some ⟨g2a, 0, none⟩) s c2a])) := HRP6a.out.putR hb7 hw7 hh7 ew7 eh7 cw7 ch7
                clear hw7 hh7 ew7 eh7 cw7 ch7 hb7
                go_upto_region 40 with (refine wpList_store_row rfl 35 (.tmp 9) (.tmp 156) rfl mb #[.int .i64 (N : Int), .int .i64 (s : Int), .int .i64 128, .int .i64 192, .slice (some ⟨g1a, 0, none⟩) s c1a, .slice (some ⟨g2a, 0, none⟩) s c2a] rfl rfl 35 #[.int .i64 (N : Int), .int .i64 (s : Int), .int .i64 128, .int .i64 192, .slice (some ⟨gw', 0, none⟩) s cw, .slice (some ⟨gh', 0, none⟩) s ch] hm7 info_rpool rfl (rp_one _ _ _ _ _ _ _ _ _) ?_)
                generalize (w7.setRow mb #[.int .i64 (N : Int), .int .i64 (s : Int), .int .i64 128, .int .i64 192, .slice (some ⟨g1a, 0, none⟩) s c1a, .slice (some ⟨g2a, 0, none⟩) s c2a]) = W8a at *
                clear hm7
                have hee : ((era : Int) != era) = false := by simp
                have HCAb := Lib.hid (t_drop7 HRP8a.out.tp HSK.out (by have := HSNa.out.steps; have := HKB.out; omega) x HX.out)
                have HSNb := Lib.hid (HSNa.out.drop HN19.out.1 HN19.out.2.1 (sh := ⟨(N : Int), (s : Int), 128, 192⟩) rfl x)
                have HRCb : Hid (∀ (d' : V.Dv) (ws' xs' : List Nat) (W : World), Rp w1 q D d' N s ws' xs' sb mb g1a c1a g2a c2a wsa (both wsa xsa) (.slice tb tl.length tc) tl W → Calls Tryz.prog 13 #[.agg #[.int .i64 (N : Int), .int .i64 (s : Int), .int .i64 128, .int .i64 192, .slice (some ⟨g1a, 0, none⟩) s c1a, .slice (some ⟨g2a, 0, none⟩) s c2a], .int .i64 x] W _) := fun d' ws' xs' W h => ra_drop h HSNa.out HN19.out.1 HN19.out.2.1 x
                generalize dropR da ⟨(N : Int), (s : Int), 128, 192⟩ 192 wsa xsa x = rb at *
                obtain ⟨db, wsb, xsb, erb⟩ := rb
                dsimp only at HCAb HSNb HRCb
                go_wp2_with fail
                refine HCAb.out.mono ?_
                rintro e w6b ⟨rfl, htp6, hk6⟩
                have HRP6b := Lib.hid (HRP8a.out.call htp6 (by exact hk6))
                obtain ⟨q0, q1, q2, q3, q4, q5⟩ := HRP6b.out.mrow.cells
                have HRDb := Lib.hid (HRCb.out _ _ _ _ HRP6b.out)
                clear htp6 hk6
                go_wp2_with fail
                refine HRDb.out.mono ?_
                rintro e w7 ⟨g1b, c1b, g2b, c2b, rfl, hw7, hh7, ew7, eh7, cw7, ch7, hb7⟩
                have hm7 := HRP6b.out.mrow.below hb7
                clear q0 q1 q2 q3 q4 q5
                have HRP8b : Hid (Rp w1 q D db N s wsb xsb sb mb g1b c1b g2b c2b wsb (both wsb xsb) (.slice tb tl.length tc) tl (w7.setRow mb #[.int .i64 (N : Int), .int .i64 (s : Int), .int .i64 128, .int .i64 192, .slice (some ⟨g1b, 0, none⟩) s c1b, .slice (some ⟨g2b, 0, none⟩) s c2b])) := HRP6b.out.putR hb7 hw7 hh7 ew7 eh7 cw7 ch7
                clear hw7 hh7 ew7 eh7 cw7 ch7 hb7
                go_wp2_with (refine wpList_store_row rfl 35 (.tmp 9) (.tmp 168) rfl mb #[.int .i64 (N : Int), .int .i64 (s : Int), .int .i64 128, .int .i64 192, .slice (some ⟨g1b, 0, none⟩) s c1b, .slice (some ⟨g2b, 0, none⟩) s c2b] rfl rfl 35 #[.int .i64 (N : Int), .int .i64 (s : Int), .int .i64 128, .int .i64 192, .slice (some ⟨g1a, 0, none⟩) s c1a, .slice (some ⟨g2a, 0, none⟩) s c2a] hm7 info_rpool rfl (rp_one _ _ _ _ _ _ _ _ _) ?_)
                go_meet
                case rel => exact ⟨erb, rfl, rfl, _, _, _, _, _, _, _, _, HRP8b.out, HSNb.out, by have := HTL.out; omega⟩
            case rest =>
              clear HRP HST HTL HX
              obtain ⟨er, rfl, rfl, hra⟩ := hcut
              obtain ⟨d2, ws2, xs2, tl2, gw2, cw2, gh2, ch2, hrp, hst, htl⟩ := hra.out
              obtain ⟨tb2, tc2, rfl, _, _⟩ := owns_form hrp.tp.row
              have hee : ((er : Int) != er) = false := by simp
              have hwl := hst.wl
              have hs63 : s ≤ 63 := by omega
              have hcb := count_both hst.good s (by omega)
              have hle1 := count_le ws2 s
              have hle2 := count_le xs2 s
              have hbl : (both ws2 xs2).length = s := by rw [both_len, hwl]
              have HH1 : Hid (∀ W, Rp w1 q D d2 N s ws2 xs2 sb mb gw2 cw2 gh2 ch2 ws2 (both ws2 xs2) (.slice tb2 tl2.length tc2) tl2 W → Calls Tryz.prog 16 #[.pointer (some ⟨q, 0, none⟩)] W fun e w' => e = .returned (.int .i64 (P.count xs2 s : Nat)) ∧ Below W.heap.size W w') := fun W h => ra_held h hwl
              have HH2 : Hid (∀ W, Rp w1 q D d2 N s ws2 xs2 sb mb gw2 cw2 gh2 ch2 ws2 (both ws2 xs2) (.slice tb2 tl2.length tc2) tl2 W → Calls Tryz.prog 17 #[.slice (some ⟨gh2, 0, none⟩) s ch2] W fun e w' => e = .returned (.int .i64 (P.count (both ws2 xs2) s : Nat)) ∧ Below W.heap.size W w') := fun W h => ra_counth h hbl hs63
              have HH3 : Hid (∀ W, Rp w1 q D d2 N s ws2 xs2 sb mb gw2 cw2 gh2 ch2 ws2 (both ws2 xs2) (.slice tb2 tl2.length tc2) tl2 W → Calls Tryz.prog 17 #[.slice (some ⟨gw2, 0, none⟩) s cw2] W fun e w' => e = .returned (.int .i64 (P.count ws2 s : Nat)) ∧ Below W.heap.size W w') := fun W h => ra_countw h hwl hs63
              have HH4 : Hid (∀ W, Rp w1 q D d2 N s ws2 xs2 sb mb gw2 cw2 gh2 ch2 ws2 (both ws2 xs2) (.slice tb2 tl2.length tc2) tl2 W → Calls Tryz.prog 19 #[.pointer (some ⟨q, 0, none⟩)] W (LsPost W (P.all 192 ws2 s))) := fun W h => ra_all h hwl HSK.out
              have HH5 : Hid (∀ W, Rp w1 q D d2 N s ws2 xs2 sb mb gw2 cw2 gh2 ch2 ws2 (both ws2 xs2) (.slice tb2 tl2.length tc2) tl2 W → Calls Tryz.prog 20 #[.agg #[.int .i64 (N : Int), .int .i64 (s : Int), .int .i64 128, .int .i64 192, .slice (some ⟨gw2, 0, none⟩) s cw2, .slice (some ⟨gh2, 0, none⟩) s ch2]] W (LsPost W (P.all 192 ws2 s))) := fun W h => ra_rall h hwl hs63
              have HCE : Hid (∀ W, Rp w1 q D d2 N s ws2 xs2 sb mb gw2 cw2 gh2 ch2 ws2 (both ws2 xs2) (.slice tb2 tl2.length tc2) tl2 W → W.cell? ⟨mb, 0, none⟩ = some (.int .i64 (N : Int)) ∧ W.cell? ⟨mb, 1, none⟩ = some (.int .i64 (s : Int)) ∧ W.cell? ⟨mb, 2, none⟩ = some (.int .i64 128) ∧ W.cell? ⟨mb, 3, none⟩ = some (.int .i64 192) ∧ W.cell? ⟨mb, 4, none⟩ = some (.slice (some ⟨gw2, 0, none⟩) s cw2) ∧ W.cell? ⟨mb, 5, none⟩ = some (.slice (some ⟨gh2, 0, none⟩) s ch2)) := fun W h => h.mrow.cells
              generalize P.count xs2 s = cx at *
              generalize P.count ws2 s = cy at *
              generalize P.count (both ws2 xs2) s = cz at *
              have hz1 : IntKind.i64.wrap ((cz : Int) - (cy : Int)) = (cx : Int) := by rw [IntWalk.i64_in _ (by omega)]; omega
              have hz2 : (cz : Int) - (cy : Int) = (cx : Int) := by omega
              have hz3 : ((cx : Int) != cx) = false := by simp
              have hz4 : IntKind.i64.wrap (cx : Int) = (cx : Int) := IntWalk.i64_in _ (by omega)
              have hz5 : wrap64 (cx : Int) = (cx : Int) := IntWalk.wrap64_in _ (by omega)
              have hz6 : wrap64 ((cz : Int) - (cy : Int)) = (cx : Int) := by rw [hz2]; exact hz5
              have HST := Lib.hid hst
              have HTL := Lib.hid htl
              generalize P.all 192 ws2 s = L2 at *
              go_upto_region 44 with fail
              go_cut [192] (fun sv wx => sv = .bool false ∧ Hid (Ra w1 q D N s sb mb (k + 1) (.slice tb2 tl2.length tc2) wx))
              case first =>
                as_aux_lemma =>
                  have HY : Hid (Rp w1 q D d2 N s ws2 xs2 sb mb gw2 cw2 gh2 ch2 ws2 (both ws2 xs2) (.slice tb2 tl2.length tc2) tl2 wc.drew) := hrp.below (Below.refl _ _).drew
                  have hS := HCE.out _ HY.out
                  clear hrp hst hcb hle1 hle2 htl hra hbl hwl
                  first | (go_region_held_law (fun W => W.cell? ⟨mb, 0, none⟩ = some (.int .i64 (N : Int)) ∧ W.cell? ⟨mb, 1, none⟩ = some (.int .i64 (s : Int)) ∧ W.cell? ⟨mb, 2, none⟩ = some (.int .i64 128) ∧ W.cell? ⟨mb, 3, none⟩ = some (.int .i64 192) ∧ W.cell? ⟨mb, 4, none⟩ = some (.slice (some ⟨gw2, 0, none⟩) s cw2) ∧ W.cell? ⟨mb, 5, none⟩ = some (.slice (some ⟨gh2, 0, none⟩) s ch2)) (exact HCE.out _ HY.out)
                    (first
                      | (go_at_call 16; refine (HH1.out _ HY.out).mono ?_; rintro e wz ⟨rfl, hb⟩; have HY := Lib.hid (HY.out.below hb); clear hb)
                      | (go_at_call 17; (first | with_reducible refine (HH2.out _ HY.out).mono ?_ | with_reducible refine (HH3.out _ HY.out).mono ?_); rintro e wz ⟨rfl, hb⟩; have HY := Lib.hid (HY.out.below hb); clear hb)
                      | (go_at_call 19; refine (HH4.out _ HY.out).mono ?_; rintro e wz ⟨aA, cA, rfl, hiA, hb⟩; have HIA := Lib.hid hiA; (try have HIB := Lib.hid (IsInts.below HIB.out hb)); have HY := Lib.hid (HY.out.below hb); clear hb hiA)
                      | (go_at_call 20; refine (HH5.out _ HY.out).mono ?_; rintro e wz ⟨aB, cB, rfl, hiB, hb⟩; have HIB := Lib.hid hiB; (try have HIA := Lib.hid (IsInts.below HIA.out hb)); have HY := Lib.hid (HY.out.below hb); clear hb hiB)
                      | (go_at_call 18; refine (ints_same HIA.out HIB.out).mono ?_; rintro e wz ⟨rfl, mz, rfl⟩; have HY := Lib.hid (HY.out.below (below_drewN' (Below.refl _ _) mz))))) | fail "held"
                  all_goals
                    go_wp2
                    go_meet
                    case rel => exact ⟨rfl, _, _, _, _, _, _, _, _, HY.out, HST.out, HTL.out⟩
              case rest =>
                clear hrp hst hcb hle1 hle2 htl hra hbl hwl HH1 HH2 HH3 HH4 HH5 HCE
                obtain ⟨rfl, HRA2⟩ := hcut
                go_wp2
                go_roundw
                case rel => exact ⟨k + 1, by omega, by go_num, HRA2.out⟩
                case measure => simp [intOf]; omega
      · as_aux_lemma =>
        obtain rfl : k = len := by omega
        have HRP := Lib.hid hrp
        have HST := Lib.hid hst
        have hs63 : s ≤ 63 := by omega
        have hk120 : k ≤ 120 := by omega
        have hwl := hst.wl
        obtain ⟨q0, q1, q2, q3, q4, q5⟩ := hrp.mrow.cells
        clear hrp hst htl
        go_wp2_with fail
        go_loopw [197] (fun iv wq => ∃ i : Nat, i ≤ s ∧ iv = .int .i64 i ∧ Hid (Rp w1 q D d N s ws xs sb mb gw' cw gh' ch ws (both ws xs) (.slice tb tl.length tc) tl wq)) (fun iv _ => s - (intOf iv).toNat)
        case atStart => exact ⟨0, by omega, rfl, HRP⟩
        case round =>
          obtain ⟨i, hi, rfl, HRQ⟩ := hrel
          by_cases hlti : i < s
          · have hcell := HRQ.out.wa.2 i (by rw [hwl]; exact hlti)
            have hsb2 := cell_of_row _ _ 2 _ _ _ HRQ.out.srow
            have HLD := Lib.hid (ra_load HRQ.out HST.out HN19.out.1 HN19.out.2.1 hs63 hlti)
            generalize ws.getD i 0 = u at *
            have huu : ((u : Int) != u) = false := by simp
            go_wp2_with fail
            refine HLD.out.mono ?_
            rintro e wz ⟨rfl, mz, rfl⟩
            have HRQ2 : Hid (Rp w1 q D d N s ws xs sb mb gw' cw gh' ch ws (both ws xs) (.slice tb tl.length tc) tl (wr.drewN mz)) := HRQ.out.below (below_drewN' (Below.refl _ _) mz)
            clear hcell hsb2 HLD
            go_wp2
            go_roundw
            case rel => exact ⟨i + 1, by omega, by go_num, HRQ2⟩
            case measure => simp [intOf]; omega
          · have hni : ¬ ((i : Int) < (s : Int)) := by omega
            have HCR := Lib.hid (ra_crash HRQ.out HST.out (by omega))
            have hwl2 := HST.out.wl
            clear q0 q1 q2 q3 q4 q5
            go_wp2_with fail
            refine HCR.out.mono ?_
            rintro e wz ⟨rfl, hrz⟩
            have HOP := Lib.hid (ra_open hrz HST.out HN19.out.1 HN19.out.2.1 HN19.out.2.2.2 HT1.out HG1.out)
            have HRZ := Lib.hid hrz
            clear hrz HCR
            go_wp2_with fail
            refine HOP.out.mono ?_
            rintro e wy ⟨q2, K2, rfl, hq2, hb⟩
            have HRY := Lib.hid (HRZ.out.below hb)
            have HQ2 := Lib.hid hq2
            clear hq2 hb HRZ HOP
            generalize V.Dv.crash d [] = dc at *
            have HH4 : Hid (∀ W, PoolR (.pointer (some ⟨q2, 0, none⟩)) (some ⟨D, 0, none⟩) ⟨(N : Int), (s : Int), 128, 192⟩ ws (List.replicate s 0) K2 W → Calls Tryz.prog 19 #[.pointer (some ⟨q2, 0, none⟩)] W (LsPost W (P.all 192 ws s))) := fun W h => by
              have h2 := r_all h HSK.out
              rwa [hwl2] at h2
            have HH5 : Hid (∀ W, Rp w1 q D dc N s ws xs sb mb gw' cw gh' ch ws (both ws xs) (.slice tb tl.length tc) tl W → Calls Tryz.prog 20 #[.agg #[.int .i64 (N : Int), .int .i64 (s : Int), .int .i64 128, .int .i64 192, .slice (some ⟨gw', 0, none⟩) s cw, .slice (some ⟨gh', 0, none⟩) s ch]] W (LsPost W (P.all 192 ws s))) := fun W h => ra_rall h hwl2 hs63
            have HH6 : Hid (∀ W, PoolR (.pointer (some ⟨q2, 0, none⟩)) (some ⟨D, 0, none⟩) ⟨(N : Int), (s : Int), 128, 192⟩ ws (List.replicate s 0) K2 W → Calls Tryz.prog 16 #[.pointer (some ⟨q2, 0, none⟩)] W fun e w' => e = .returned (.int .i64 0) ∧ Below W.heap.size W w') := fun W h => by
              have h2 := r_held h
              rw [zeros_count] at h2
              exact h2
            have HCE : Hid (∀ W, Rp w1 q D dc N s ws xs sb mb gw' cw gh' ch ws (both ws xs) (.slice tb tl.length tc) tl W → W.cell? ⟨mb, 0, none⟩ = some (.int .i64 (N : Int)) ∧ W.cell? ⟨mb, 1, none⟩ = some (.int .i64 (s : Int)) ∧ W.cell? ⟨mb, 2, none⟩ = some (.int .i64 128) ∧ W.cell? ⟨mb, 3, none⟩ = some (.int .i64 192) ∧ W.cell? ⟨mb, 4, none⟩ = some (.slice (some ⟨gw', 0, none⟩) s cw) ∧ W.cell? ⟨mb, 5, none⟩ = some (.slice (some ⟨gh', 0, none⟩) s ch)) := fun W h => h.mrow.cells
            have HFB : Hid (∀ W, Rp w1 q D dc N s ws xs sb mb gw' cw gh' ch ws (both ws xs) (.slice tb tl.length tc) tl W → Below w.heap.size w W) := fun W h => HB1.out.trans (h.tp.pool.below0.mono HB1.out.size)
            have HY : Hid (Rp w1 q D dc N s ws xs sb mb gw' cw gh' ch ws (both ws xs) (.slice tb tl.length tc) tl wy.drew) := HRY.out.below (Below.refl _ _).drew
            have HQ : Hid (PoolR (.pointer (some ⟨q2, 0, none⟩)) (some ⟨D, 0, none⟩) ⟨(N : Int), (s : Int), 128, 192⟩ ws (List.replicate s 0) K2 wy.drew) := HQ2.out.below (Below.refl _ _).drew
            have hS := HCE.out _ HY.out
            generalize P.all 192 ws s = L2 at *
            clear HRY HQ2 HRP HST hwl hwl2
            go_upto_region 56 with fail
            first | (go_region_held_law (fun W => W.cell? ⟨mb, 0, none⟩ = some (.int .i64 (N : Int)) ∧ W.cell? ⟨mb, 1, none⟩ = some (.int .i64 (s : Int)) ∧ W.cell? ⟨mb, 2, none⟩ = some (.int .i64 128) ∧ W.cell? ⟨mb, 3, none⟩ = some (.int .i64 192) ∧ W.cell? ⟨mb, 4, none⟩ = some (.slice (some ⟨gw', 0, none⟩) s cw) ∧ W.cell? ⟨mb, 5, none⟩ = some (.slice (some ⟨gh', 0, none⟩) s ch)) (exact HCE.out _ HY.out)
              (first
                | (go_at_call 16; refine (HH6.out _ HQ.out).mono ?_; rintro e wz ⟨rfl, hb⟩; (try have HIA := Lib.hid (IsInts.below HIA.out hb)); (try have HIB := Lib.hid (IsInts.below HIB.out hb)); have HY := Lib.hid (HY.out.below hb); have HQ := Lib.hid (HQ.out.below hb); clear hb)
                | (go_at_call 19; refine (HH4.out _ HQ.out).mono ?_; rintro e wz ⟨aA, cA, rfl, hiA, hb⟩; have HIA := Lib.hid hiA; (try have HIB := Lib.hid (IsInts.below HIB.out hb)); have HY := Lib.hid (HY.out.below hb); have HQ := Lib.hid (HQ.out.below hb); clear hb hiA)
                | (go_at_call 20; refine (HH5.out _ HY.out).mono ?_; rintro e wz ⟨aB, cB, rfl, hiB, hb⟩; have HIB := Lib.hid hiB; (try have HIA := Lib.hid (IsInts.below HIA.out hb)); have HY := Lib.hid (HY.out.below hb); have HQ := Lib.hid (HQ.out.below hb); clear hb hiB)
                | (go_at_call 18; refine (ints_same HIA.out HIB.out).mono ?_; rintro e wz ⟨rfl, mz, rfl⟩; have HY := Lib.hid (HY.out.below (below_drewN' (Below.refl _ _) mz)); have HQ := Lib.hid (HQ.out.below (below_drewN' (Below.refl _ _) mz))))) | fail "held"
            all_goals
              go_wp2
              go_ret
              exact ⟨rfl, HFB.out _ HY.out⟩
end Go.Proofs.YtaceogpdjbikiaaGreatDoor
