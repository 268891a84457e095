
/- PoolApart: the walk. -/
import Derived.Test.YtaceogpdjbikiaaDoorPoApN
import Derived.Test.YtaceogpdjbikiaaDoorPoAgW
import Derived.Deep.DeepCutAuto
import Derived.Deep.CutBlock
namespace Go.Proofs.YtaceogpdjbikiaaDoor

open Go.RowKit Go.Maps

theorem ref_lines12 (c : Int) (h : c = 1 ∨ c = 2) (w : World) : Calls Tryd.prog 12 #[.int .i64 c] w fun e w' => e = .returned (.int .i64 (S.lns c : Nat)) ∧ w = w' := by
  rcases h with rfl | rfl
  · go_enter Tryd.func12, Tryd.ntmps12
    go_wp2
    go_ret
    exact ⟨rfl, rfl⟩
  · go_enter Tryd.func12, Tryd.ntmps12
    go_wp2
    go_ret
    exact ⟨rfl, rfl⟩
/-- What the loop of acts keeps: the map of the sizes lies in block Z. -/
def Ap (w1 : World) (q D Z N s : Nat) (k : Nat) (tv : Value) (w : World) : Prop := ∃ d ws xs l Dm n, TPool w1 (.pointer (some ⟨q, 0, none⟩)) (some ⟨D, 0, none⟩) d ⟨(N : Int), (s : Int), 128, 192⟩ ws xs [Z] tv l w ∧ St7 N s d ws xs k ∧ l.length ≤ k ∧ n ≤ k ∧ MapI w Z n Dm ∧ SzIs Dm ws xs
set_option maxHeartbeats 4000000 in
set_option maxRecDepth 100000 in
theorem poolApart_walk (n : Int) (A : Option Addr) (len cap : Nat) (l : List (Nat × Int)) (w : World) (hn : (Lit.int .u8 n).wf = true) (hl : IsActs7 w A len cap l) (hTab : TabAt 1 Lib.deBruijn64tab w) (_hs : 1 < w.heap.size) (hT : TabT w) (hg : 0 < w.heap.size) :
    Calls Tryd.prog 3 #[.int .u8 n, .slice A len cap] w fun e w' => e = .returned (.bool true) ∧ Below w.heap.size w w' := by
  have hmm := @run_makeMap Tryd.prog
  have HAL := Lib.hid (alive7_any w hT hg hTab)
  obtain ⟨i0, hi, hz0, hz1, hz2⟩ := info_parts info_i64
  obtain ⟨hn0, hn1⟩ : 0 ≤ n ∧ n ≤ 255 := by
    simp [Lit.wf, IntKind.min, IntKind.max, IntKind.signed, IntKind.bits] at hn
    omega
  obtain ⟨n, rfl⟩ := Int.eq_ofNat_of_zero_le hn0
  have HZ := Lib.hid hl
  have HT7 : Hid (Tab7 w) := hTab
  have HT := Lib.hid hT
  have HG := Lib.hid hg
  have hzl : len ≤ cap ∧ cap ≤ maxLen := ⟨hl.2.1, hl.2.2.1⟩
  have HLN : Hid (∀ W, Calls Tryd.prog 10 #[.int .u8 (n : Int)] W fun e w' => e = .returned (.int .i64 ((3 + 16 * (1 + n % 4) : Nat) : Int)) ∧ W = w') := fun W => lines_any n W (by omega)
  obtain ⟨s, hs⟩ : ∃ s, 1 + n % 4 = s := ⟨_, rfl⟩
  have hs1 : 1 ≤ s := by omega
  have hs5 : s < 5 := by omega
  rw [hs] at HLN
  have HSH := Lib.hid (fill_sh s hs5 hs1)
  have HBG : Hid (∀ W, Below w.heap.size w W → Calls Tryd.prog 9 #[.int .i64 ((3 + 16 * s : Nat) : Int)] W fun e w' => ∃ D q : Nat, e = .returned (.tuple #[.pointer (some ⟨D, 0, none⟩), .pointer (some ⟨q, 0, none⟩)]) ∧ (∃ d, TPool W (.pointer (some ⟨q, 0, none⟩)) (some ⟨D, 0, none⟩) d ⟨((3 + 16 * s : Nat) : Int), (s : Int), 128, 192⟩ (List.replicate s 0) (List.replicate s 0) [] (.slice none 0 0) [] w' ∧ St7 (3 + 16 * s) s d (List.replicate s 0) (List.replicate s 0) 0)) := fun W hb => by
    refine (begin_any (3 + 16 * s) (by omega) (by omega) W (HT.out.below hb HG.out) (Nat.lt_of_lt_of_le HG.out hb.size)).mono ?_
    rintro e w' ⟨D, q, he, hp⟩
    have hst : St7 (3 + 16 * s) s (V.newDv (3 + 16 * s)).format.1 (List.replicate (V.slabs (3 + 16 * s)) 0) (List.replicate (V.slabs (3 + 16 * s)) 0) 0 := ⟨V.up7_fresh hs1 hs5, hp.good, by rw [List.length_replicate]; exact HSH.out.2, (V.fresh (by omega) (by omega)).2.2.steps⟩
    rw [HSH.out.1] at hp
    rw [HSH.out.2] at hp hst
    exact ⟨D, q, he, _, TPool.start hp, hst⟩
  have HN19 : Hid (19 ≤ 3 + 16 * s ∧ s = V.slabs (3 + 16 * s)) := ⟨by omega, HSH.out.2.symm⟩
  have HSK : Hid (ShOk ⟨((3 + 16 * s : Nat) : Int), (s : Int), 128, 192⟩ 192) := ⟨rfl, by decide, ⟨by show (0 : Int) ≤ 128; decide, by show (128 : Int) ≤ 1000000; decide⟩⟩
  clear hTab hT hg hl hn hs HSH
  by_cases hbig : 120 < len
  · go_enter Tryd.func3, Tryd.ntmps3
    go_wp2_with fail
    refine HAL.out.mono ?_
    rintro e w1 ⟨rfl, hb1⟩
    have HB1 := Lib.hid hb1
    clear hb1
    go_wp2
    go_ret
    exact ⟨rfl, HB1.out⟩
  · generalize 3 + 16 * s = N at *
    go_enter Tryd.func3, Tryd.ntmps3
    go_wp2_with fail
    refine HAL.out.mono ?_
    rintro e w1 ⟨rfl, hb1⟩
    have HB1 := Lib.hid hb1
    have HBG1 := Lib.hid (HBG.out w1 hb1)
    have HT71 : Hid (Tab7 w1) := HT7.out.block (hb1.block _ HT7.out.lt)
    clear hb1
    go_wp2_with fail
    refine (HLN.out _).mono ?_
    rintro e w2 ⟨rfl, rfl⟩
    go_wp2_with fail
    refine HBG1.out.mono ?_
    rintro e w3 ⟨D, q, rfl, d0, hp3, hst3⟩
    have hZ0 : w1.heap.size ≤ w3.heap.size := hp3.pool.below0.size
    have HAP3 : Hid (Ap w1 q D w3.heap.size N s 0 (.slice none 0 0) (w3.alloc (.map #[] 0))) := ⟨d0, _, _, [], _, 0, hp3.newer ((Below.refl _ _).alloc (Nat.le_refl _) _) (fun k hk => .inr (by rw [List.mem_singleton.1 hk]; exact ⟨Nat.le_refl _, by simp⟩)), hst3, Nat.le_refl _, Nat.le_refl _, World.ownsMap_made w3 _ _ _, SzIs.zeros s⟩
    clear hp3 hst3
    go_wp2_with fail
    generalize hZg : w3.heap.size = Z at *
    clear hZg
    go_loopw [8, 40] (fun tv kv wr => ∃ k : Nat, k ≤ len ∧ kv = .int .i64 k ∧ Ap w1 q D Z N s k tv wr) (fun _ kv _ => len - (intOf kv).toNat)
    case atStart => exact ⟨0, Nat.zero_le _, rfl, HAP3.out⟩
    case round =>
      obtain ⟨k, hk, rfl, d, ws, xs, tl, Dm, nm, htp, hst, htl, hnm, hmap, hsz⟩ := hrel
      obtain ⟨tb, tc, rfl, htc1, htc2⟩ := owns_form htp.row
      by_cases hlt : k < len
      · obtain ⟨ak, ax, b, o, hla, hak, hax, rfl, hc0, hc1⟩ := HZ.out.at (HB1.out.trans (htp.pool.below0.mono HB1.out.size)) hlt
        have HTP : Hid (TPool w1 (.pointer (some ⟨q, 0, none⟩)) (some ⟨D, 0, none⟩) d ⟨(N : Int), (s : Int), 128, 192⟩ ws xs [Z] (.slice tb tl.length tc) tl (wr.alloc (actObj ak ax))) := htp.newer ((Below.refl _ _).alloc (Nat.le_refl _) _) (fun k hk => .inl hk)
        have HMP : Hid (MapI (wr.alloc (actObj ak ax)) Z nm Dm) := hmap.alloc _
        have HR5 : Hid ((wr.alloc (actObj ak ax)).heap[wr.heap.size]? = some (actObj ak ax)) := heap_alloc_new wr _
        have ha0 : (wr.alloc (actObj ak ax)).cell? ⟨wr.heap.size, 0, none⟩ = some (.int .u8 (ak : Int)) := cell_of_row _ _ 0 _ _ _ HR5.out
        have ha1 : (wr.alloc (actObj ak ax)).cell? ⟨wr.heap.size, 1, none⟩ = some (.int .i64 ax) := cell_of_row _ _ 1 _ _ _ HR5.out
        have HST := Lib.hid hst
        have HSZ := Lib.hid hsz
        have htlk : tl.length ≤ 120 := by omega
        have HTL := Lib.hid htl
        have HNM := Lib.hid hnm
        have HZ0 := Lib.hid hZ0
        clear htp hst hla hmap hsz
        unfold actObj at ha0 ha1
        go_upto_block 2 with fail
        go_cut [8, 46] (fun tv _ wx => Hid (Ap w1 q D Z N s (k + 1) tv wx))
        case first =>
          have h4 : (ak : Int) % 4 = 0 ∨ (ak : Int) % 4 = 1 ∨ (ak : Int) % 4 = 2 ∨ (ak : Int) % 4 = 3 := by omega
          rcases h4 with h4 | h4 | h4 | h4
          · -- Reserve, class 1
            have HRV := Lib.hid (t_reserve7 HTP.out HSK.out HT71.out 1)
            have HER := Lib.hid (rsv_err12 (ws := ws) (xs := xs) (c := 1) (by decide))
            have HRS := Lib.hid (sz_rsv HST.out.good 1)
            have HRN := Lib.hid (rsv_not (ws := ws) (xs := xs) (x := 1))
            have HRI := Lib.hid (rsv_i64 HST.out.good 1)
            have HS6 := Lib.hid (HST.out.reserve 1)
            have HLI : Hid (∀ W, Calls Tryd.prog 12 #[.int .i64 1] W fun e w' => e = .returned (.int .i64 1) ∧ W = w') := fun W => ref_lines12 1 (by decide) W
            rw [show (64 * (S.lns 1 : Int)) = 64 from rfl] at HRS
            generalize rsv 192 ws xs 1 = r at *
            obtain ⟨xs', x, er⟩ := r
            dsimp only at HRV HER HRS HRN HRI HS6
            go_wp2_with fail
            refine HRV.out.mono ?_
            rintro e w6 ⟨rfl, htp6, hk6⟩
            have HTP6 := Lib.hid htp6
            have hm6 : MapI w6 Z nm Dm := HMP.out.keep (hk6 Z (by simp))
            clear htp6 hk6
            rcases HER.out with rfl | rfl
            · obtain ⟨hs0, hs1', hs2⟩ := HRS.out rfl
              have hx := HRI.out rfl
              have hlk := MapI.look hm6 hx (c := 0) (by rw [HSZ.out.zero_at, hs0])
              have hkey := keyX hx
              have hnm9 : nm < maxLen := by unfold maxLen; have := HNM.out; omega
              have HX := Lib.hid hx
              have HSP : Hid (SzIs (Dm.put (.int .i64 x) (.lit (.int .i64 64))) ws xs') := HSZ.out.put hm6.isMap hs1' (by decide) hs2
              have hm1 : tl.length + 1 ≤ maxLen := by unfold maxLen; omega
              have hm2 : (tl.length + 1) * 8 ≤ 140737488355328 := by omega
              clear hs0 hs1' hs2 hx
              go_wp2_with fail
              refine (HLI.out _).mono ?_
              rintro e w6' ⟨rfl, rfl⟩
              go_upto_region 29 with (first
                | (at_mapUpdate; refine wpList_mapUpdate_own _ rfl _ _ _ 29 rfl 3 3 lawI Tryd.underlying29 _ Z nm _ rfl hm6 hnm9 _ _ _ rfl rfl hkey _ [] (plainElem_int Tryd.underlying3 (by decide)) ?_; intro w7 hown7 hgrow7)
                | go_in)
              have HTP7 := Lib.hid (HTP6.out.turned (List.mem_singleton_self Z) HZ0.out hgrow7)
              have HOW7 := Lib.hid hown7
              have HO7 : Hid (∀ o : Obj, (w7.alloc o).ownsRow w1.heap.size 3 1 (.slice tb tl.length tc) tl.length (tl.map (Value.int .i64))) := fun o => HTP7.out.row.alloc o
              have HW7 : Hid (∀ o : Obj, w1.heap.size ≤ (w7.alloc o).heap.size) := fun o => by
                have := HTP7.out.pool.below0.size
                have : (w7.alloc o).heap.size = w7.heap.size + 1 := by simp
                omega
              clear hown7 hgrow7 hm6 hlk
              go_wp2_with (at_builtin; refine wpList_append_lies _ rfl (.tmp 102) (.tmp 104) 30 rfl w1.heap.size 3 i0 _ 1 8 Tryd.underlying30 hi hz0 hz1 hz2 rfl (by decide) _ tl.length _ rfl (HO7.out _) _ 1 1 [.int .i64 x] rfl rfl (World.news_of_block (heap_alloc_new _ _)) (by simp [Value.oneCell']) (by decide) hm1 hm2 (HW7.out _) _ rfl ?_)
              intro g8 cap8 w8 o8 gr8 at8 lt8
              have HD8 : Hid (Ap w1 q D Z N s (k + 1) (.slice (some ⟨g8, 0, none⟩) (tl.length + 1) cap8) w8) := ⟨_, _, _, _, _, nm + 1, HTP7.out.push HX.out o8 gr8 at8, HS6.out.more, by have := HTL.out; simp; omega, by have := HNM.out; omega, World.ownsMap.kept (World.ownsMap.alloc HOW7.out _) gr8 (fun e => HTP7.out.apart Z (List.mem_singleton_self Z) (mem_ownL.2 e.symm)), HSP.out⟩
              clear o8 gr8 at8 lt8
              go_wp2
              go_meet
              case rel => exact HD8
            · have e6 := HRN.out (by decide)
              subst e6
              have HD6 : Hid (Ap w1 q D Z N s (k + 1) (.slice tb tl.length tc) w6) := ⟨_, _, _, _, _, _, HTP6.out, HST.out.more, by have := HTL.out; omega, by have := HNM.out; omega, hm6, HSZ.out⟩
              clear hm6
              go_wp2
              go_roundw
              case rel => exact ⟨k + 1, by omega, by go_num, HD6.out⟩
              case measure => simp [intOf]; omega
          · -- Reserve, class 2
            have HRV := Lib.hid (t_reserve7 HTP.out HSK.out HT71.out 2)
            have HER := Lib.hid (rsv_err12 (ws := ws) (xs := xs) (c := 2) (by decide))
            have HRS := Lib.hid (sz_rsv HST.out.good 2)
            have HRN := Lib.hid (rsv_not (ws := ws) (xs := xs) (x := 2))
            have HRI := Lib.hid (rsv_i64 HST.out.good 2)
            have HS6 := Lib.hid (HST.out.reserve 2)
            have HLI : Hid (∀ W, Calls Tryd.prog 12 #[.int .i64 2] W fun e w' => e = .returned (.int .i64 4) ∧ W = w') := fun W => ref_lines12 2 (by decide) W
            rw [show (64 * (S.lns 2 : Int)) = 256 from rfl] at HRS
            generalize rsv 192 ws xs 2 = r at *
            obtain ⟨xs', x, er⟩ := r
            dsimp only at HRV HER HRS HRN HRI HS6
            go_wp2_with fail
            refine HRV.out.mono ?_
            rintro e w6 ⟨rfl, htp6, hk6⟩
            have HTP6 := Lib.hid htp6
            have hm6 : MapI w6 Z nm Dm := HMP.out.keep (hk6 Z (by simp))
            clear htp6 hk6
            rcases HER.out with rfl | rfl
            · obtain ⟨hs0, hs1', hs2⟩ := HRS.out rfl
              have hx := HRI.out rfl
              have hlk := MapI.look hm6 hx (c := 0) (by rw [HSZ.out.zero_at, hs0])
              have hkey := keyX hx
              have hnm9 : nm < maxLen := by unfold maxLen; have := HNM.out; omega
              have HX := Lib.hid hx
              have HSP : Hid (SzIs (Dm.put (.int .i64 x) (.lit (.int .i64 256))) ws xs') := HSZ.out.put hm6.isMap hs1' (by decide) hs2
              have hm1 : tl.length + 1 ≤ maxLen := by unfold maxLen; omega
              have hm2 : (tl.length + 1) * 8 ≤ 140737488355328 := by omega
              clear hs0 hs1' hs2 hx
              go_wp2_with fail
              refine (HLI.out _).mono ?_
              rintro e w6' ⟨rfl, rfl⟩
              go_upto_region 29 with (first
                | (at_mapUpdate; refine wpList_mapUpdate_own _ rfl _ _ _ 29 rfl 3 3 lawI Tryd.underlying29 _ Z nm _ rfl hm6 hnm9 _ _ _ rfl rfl hkey _ [] (plainElem_int Tryd.underlying3 (by decide)) ?_; intro w7 hown7 hgrow7)
                | go_in)
              have HTP7 := Lib.hid (HTP6.out.turned (List.mem_singleton_self Z) HZ0.out hgrow7)
              have HOW7 := Lib.hid hown7
              have HO7 : Hid (∀ o : Obj, (w7.alloc o).ownsRow w1.heap.size 3 1 (.slice tb tl.length tc) tl.length (tl.map (Value.int .i64))) := fun o => HTP7.out.row.alloc o
              have HW7 : Hid (∀ o : Obj, w1.heap.size ≤ (w7.alloc o).heap.size) := fun o => by
                have := HTP7.out.pool.below0.size
                have : (w7.alloc o).heap.size = w7.heap.size + 1 := by simp
                omega
              clear hown7 hgrow7 hm6 hlk
              go_wp2_with (at_builtin; refine wpList_append_lies _ rfl (.tmp 102) (.tmp 104) 30 rfl w1.heap.size 3 i0 _ 1 8 Tryd.underlying30 hi hz0 hz1 hz2 rfl (by decide) _ tl.length _ rfl (HO7.out _) _ 1 1 [.int .i64 x] rfl rfl (World.news_of_block (heap_alloc_new _ _)) (by simp [Value.oneCell']) (by decide) hm1 hm2 (HW7.out _) _ rfl ?_)
              intro g8 cap8 w8 o8 gr8 at8 lt8
              have HD8 : Hid (Ap w1 q D Z N s (k + 1) (.slice (some ⟨g8, 0, none⟩) (tl.length + 1) cap8) w8) := ⟨_, _, _, _, _, nm + 1, HTP7.out.push HX.out o8 gr8 at8, HS6.out.more, by have := HTL.out; simp; omega, by have := HNM.out; omega, World.ownsMap.kept (World.ownsMap.alloc HOW7.out _) gr8 (fun e => HTP7.out.apart Z (List.mem_singleton_self Z) (mem_ownL.2 e.symm)), HSP.out⟩
              clear o8 gr8 at8 lt8
              go_wp2
              go_meet
              case rel => exact HD8
            · have e6 := HRN.out (by decide)
              subst e6
              have HD6 : Hid (Ap w1 q D Z N s (k + 1) (.slice tb tl.length tc) w6) := ⟨_, _, _, _, _, _, HTP6.out, HST.out.more, by have := HTL.out; omega, by have := HNM.out; omega, hm6, HSZ.out⟩
              clear hm6
              go_wp2
              go_roundw
              case rel => exact ⟨k + 1, by omega, by go_num, HD6.out⟩
              case measure => simp [intOf]; omega
          · -- Take
            by_cases h0 : tl.length = 0
            · have HD7 : Hid (Ap w1 q D Z N s (k + 1) (.slice tb tl.length tc) (wr.alloc (actObj ak ax))) := ⟨_, _, _, _, _, _, HTP.out, HST.out.more, by have := HTL.out; omega, by have := HNM.out; omega, HMP.out, HSZ.out⟩
              unfold actObj at HD7
              rw [h0] at HD7 |-
              go_wp2
              go_meet
              case rel => exact HD7
            · have hn0 : 0 < tl.length := by omega
              obtain ⟨mm, j, hmm1, hmm2, hj⟩ := pick7 ax hn0 (by omega)
              obtain ⟨b1, o1, rfl, hcj, hxj⟩ := HTP.out.pick hj
              have HTK := Lib.hid (t_take7 HTP.out HSK.out (by have := HST.out.steps; omega) _ hxj)
              have HSN := Lib.hid (HST.out.take HN19.out.1 HN19.out.2 (sh := ⟨(N : Int), (s : Int), 128, 192⟩) rfl (tl.getD j 0)).1
              have HSS := Lib.hid (HSZ.out.like (sz_take HST.out HN19.out.1 HN19.out.2 (sh := ⟨(N : Int), (s : Int), 128, 192⟩) rfl (tl.getD j 0)))
              clear hxj
              generalize tl.getD j 0 = x at *
              unfold actObj at hcj HTK
              have hmm0 : (tl.length : Int) ≠ 0 := by omega
              go_wp2_with fail
              refine HTK.out.mono ?_
              rintro e w6 ⟨rfl, htp6, hk6⟩
              have HD7 : Hid (Ap w1 q D Z N s (k + 1) (.slice (some ⟨b1, o1, none⟩) tl.length tc) w6) := ⟨_, _, _, _, _, _, htp6, HSN.out, by have := HTL.out; omega, by have := HNM.out; omega, HMP.out.keep (hk6 Z (by simp)), HSS.out⟩
              clear htp6 hk6
              go_wp2
              go_meet
              case rel => exact HD7
          · -- Drop
            by_cases h0 : tl.length = 0
            · have HD7 : Hid (Ap w1 q D Z N s (k + 1) (.slice tb tl.length tc) (wr.alloc (actObj ak ax))) := ⟨_, _, _, _, _, _, HTP.out, HST.out.more, by have := HTL.out; omega, by have := HNM.out; omega, HMP.out, HSZ.out⟩
              unfold actObj at HD7
              rw [h0] at HD7 |-
              go_wp2
              go_meet
              case rel => exact HD7
            · have hn0 : 0 < tl.length := by omega
              obtain ⟨mm, j, hmm1, hmm2, hj⟩ := pick7 ax hn0 (by omega)
              obtain ⟨b1, o1, rfl, hcj, hxj⟩ := HTP.out.pick hj
              have HTK : Hid (∀ m, Calls Tryd.prog 14 #[.pointer (some ⟨q, 0, none⟩), .int .i64 (tl.getD j 0)] ((wr.alloc (actObj ak ax)).drewN m) _) := fun m => t_drop7 (HTP.out.newer (below_drewN' (Below.refl _ _) m) (fun k hk => .inl hk)) HSK.out (by have := HST.out.steps; omega) _ hxj
              have HSN := Lib.hid (HST.out.drop HN19.out.1 HN19.out.2 (sh := ⟨(N : Int), (s : Int), 128, 192⟩) rfl (tl.getD j 0))
              have hszd := sz_drop HST.out HN19.out.1 HN19.out.2 (sh := ⟨(N : Int), (s : Int), 128, 192⟩) rfl (tl.getD j 0)
              have HSS := Lib.hid (HSZ.out.del hszd.2.1 hszd.2.2)
              have hlk : ∀ W : World, MapI W Z nm Dm → (Instr.lookup 29 (.map (some Z)) (.int .i64 (tl.getD j 0)) false).run Tryd.prog W = .ok (.int .i64 (sz ws xs (tl.getD j 0))) W := fun W h => MapI.look h hxj HSZ.out.zero_at
              have hszv : sz ws xs (tl.getD j 0) = 0 ∨ 0 < sz ws xs (tl.getD j 0) := by
                by_cases e : sz ws xs (tl.getD j 0) = 0
                · exact .inl e
                · right; rcases sz_size e with h | h <;> rw [h] <;> decide
              have HER := Lib.hid hszd.1
              have hkey := keyX hxj
              clear hxj hszd
              generalize tl.getD j 0 = x at *
              unfold actObj at hcj HTK
              have hmm0 : (tl.length : Int) ≠ 0 := by omega
              have HM6 : Hid (∀ w6, KeepB (ownL (.slice (some ⟨b1, o1, none⟩) tl.length tc) ++ [Z]) (wr.alloc (actObj ak ax)) w6 → MapI w6 Z nm Dm) := fun w6 h => HMP.out.keep (h Z (by simp))
              unfold actObj at HM6 HMP
              have hlkA := hlk _ HMP.out
              have hlkB := hlk _ (MapI.keep (w' := World.drew (wr.alloc (.cells #[.int .u8 (ak : Int), .int .i64 ax] 32 (0, 0)))) HMP.out rfl)
              generalize sz ws xs x = v at *
              generalize dropR d ⟨(N : Int), (s : Int), 128, 192⟩ 192 ws xs x = R at *
              obtain ⟨d', ws', xs', er⟩ := R
              dsimp only at HTK HSN HSS HER
              rcases hszv with rfl | hv
              · rw [if_pos rfl] at HER
                have her : er = 7 := HER.out
                subst her
                go_upto_region 16 with fail
                go_region_with (first
                  | (go_at_call 14; refine (HTK.out _).mono ?_; rintro e w6 ⟨rfl, htp6, hk6⟩; have HTP6 := Lib.hid htp6; have HK6 := Lib.hid (HM6.out _ hk6); have hlk6 := hlk _ HK6.out; clear htp6 hk6)
                  | fail)
                all_goals
                  go_wp2_with (first
                    | (at_delete; refine wpList_delete_own _ rfl _ _ 29 3 rfl 3 lawI Tryd.underlying29 _ Z nm Dm rfl HK6.out _ _ rfl hkey ?_; intro w7 hown7 hturn7)
                    | go_in)
                  have HD7 : Hid (Ap w1 q D Z N s (k + 1) (.slice (some ⟨b1, o1, none⟩) tl.length tc) w7) := ⟨_, _, _, _, _, _, HTP6.out.turned (List.mem_singleton_self Z) HZ0.out hturn7.grown, HSN.out, by have := HTL.out; omega, by have := HNM.out; omega, hown7, HSS.out⟩
                  clear hown7 hturn7
                  go_meet
                  case rel => exact HD7
              · rw [if_neg (by omega)] at HER
                have her : er = 0 := HER.out
                subst her
                go_upto_region 16 with fail
                go_region_with (first
                  | (go_at_call 14; refine (HTK.out _).mono ?_; rintro e w6 ⟨rfl, htp6, hk6⟩; have HTP6 := Lib.hid htp6; have HK6 := Lib.hid (HM6.out _ hk6); have hlk6 := hlk _ HK6.out; clear htp6 hk6)
                  | fail)
                all_goals
                  go_wp2_with (first
                    | (at_delete; refine wpList_delete_own _ rfl _ _ 29 3 rfl 3 lawI Tryd.underlying29 _ Z nm Dm rfl HK6.out _ _ rfl hkey ?_; intro w7 hown7 hturn7)
                    | go_in)
                  have HD7 : Hid (Ap w1 q D Z N s (k + 1) (.slice (some ⟨b1, o1, none⟩) tl.length tc) w7) := ⟨_, _, _, _, _, _, HTP6.out.turned (List.mem_singleton_self Z) HZ0.out hturn7.grown, HSN.out, by have := HTL.out; omega, by have := HNM.out; omega, hown7, HSS.out⟩
                  clear hown7 hturn7
                  go_meet
                  case rel => exact HD7
        case rest =>
          clear HTP HMP HR5 ha0 ha1 HST HSZ htlk HTL HNM
          obtain ⟨d', ws', xs', tl', Dm', n', htp, hst, htl, hnm, hmap, hsz⟩ := hcut.out
          obtain ⟨tb', tc', rfl, htc1', htc2'⟩ := owns_form htp.row
          have HTP := Lib.hid htp
          have HST := Lib.hid hst
          have HTL := Lib.hid htl
          have HNM := Lib.hid hnm
          have HSZ := Lib.hid hsz
          have HSP := Lib.hid (k_shape htp.pool)
          unfold shV at HSP
          dsimp only at HSP
          have hZw : Z < wc.heap.size := hmap.lt
          have HMP := Lib.hid hmap
          clear htp hst htl hnm hmap hsz hcut
          go_wp2_with fail
          refine HSP.out.mono ?_
          rintro e w6 ⟨rfl, _, hb6⟩
          have hc6 := hb6.size
          have HR6 : Hid ((w6.alloc (shObj N s 128 192)).heap[w6.heap.size]? = some (shObj N s 128 192)) := heap_alloc_new w6 _
          have HB7 : Hid (Below wc.heap.size wc ((w6.alloc (shObj N s 128 192)).alloc (.map #[] 0))) := (hb6.alloc hc6 _).alloc (by simp; omega) _
          have HM8 : Hid (MapI ((w6.alloc (shObj N s 128 192)).alloc (.map #[] 0)) Z n' Dm') := MapI.keep HMP.out (HB7.out.block Z hZw)
          have HT8 : Hid (MapI ((w6.alloc (shObj N s 128 192)).alloc (.map #[] 0)) (w6.heap.size + 1) 0 (.map [])) := by
            have h := World.ownsMap_made (w6.alloc (shObj N s 128 192)) Tryd.prog 3 (plainElem (H := Unit) Tryd.prog 3)
            rwa [show (w6.alloc (shObj N s 128 192)).heap.size = w6.heap.size + 1 by simp] at h
          have HR8 : Hid (((w6.alloc (shObj N s 128 192)).alloc (.map #[] 0)).heap[w6.heap.size]? = some (shObj N s 128 192)) := (Below.heap_alloc _ _ _ (by simp)).trans HR6.out
          have hs8 : ((w6.alloc (shObj N s 128 192)).alloc (.map #[] 0)).heap.size = w6.heap.size + 2 := by simp
          clear hb6
          unfold shObj at HR8 HB7 HM8 HT8 hs8
          go_upto_region 35 with fail
          generalize hW8 : (w6.alloc (.cells #[.int .i64 (N : Int), .int .i64 (s : Int), .int .i64 128, .int .i64 192] 39 (0, 0))).alloc (.map #[] 0) = W8 at *
          clear hW8
          have hwl := HST.out.wl
          have HWL := Lib.hid hwl
          clear hwl
          go_wp2_with (first
            | (at_range; refine wpList_range_own _ rfl _ 29 rfl 3 3 lawI Tryd.underlying29 _ Z n' Dm' rfl HM8.out ?_; intro w0 hrg0 hg0 hs0)
            | go_in)
          go_frame
          rw [hs8]
          rw [hs8] at hrg0
          have HRG0 := Lib.hid hrg0
          have HB0 : Hid (Below (w6.heap.size + 1) W8 w0) := (Below.refl _ _).grown hg0 (by omega) (fun _ h => by cases h)
          have HT0 : Hid (MapI w0 (w6.heap.size + 1) 0 (.map [])) := World.ownsMap.kept HT8.out hg0 (by simp)
          have HSZ0 : Hid (0 + 4 * Maps.size Dm' ≤ 500) := by
            show _ ≤ _
            have h := World.ownsMap.size_le HM8.out
            have := HNM.out
            omega
          clear hrg0 hg0 hs0
          go_loopw [17] (fun _ wr => ∃ (left : Lit → Bool) (cnt na : Nat) (Da : DataW Unit), Hid (wr.ranges Tryd.prog 3 (plainElem (H := Unit) Tryd.prog 3) Z (w6.heap.size + 2) n' Dm' left cnt) ∧ Hid (MapI wr (w6.heap.size + 1) na Da) ∧ na + 4 * cnt ≤ 500 ∧ Hid (Todo ws' xs' left Da) ∧ Hid (Below (w6.heap.size + 1) W8 wr)) (fun _ wr => wr.rangeLeft Z (w6.heap.size + 2))
          case atStart => exact ⟨_, _, 0, .map [], HRG0, HT0, HSZ0.out, Todo.start _, HB0⟩
          case round =>
            obtain ⟨left, cnt, na, Da, hrg, hat, hna, htd, hbw⟩ := hrel
            go_wp2_with (first
              | (at_next; refine wpList_next_ranges_ii _ rfl _ rfl 3 3 .i64 .i64 lawI Tryd.underlying3 Tryd.underlying3 Z (w6.heap.size + 2) n' _ _ _ rfl hrg.out ?_ ?_)
              | go_in)
            · -- nothing is left
              intro _ hl0
              have hbc : Below wc.heap.size wc wr := HB7.out.trans (hbw.out.mono (by omega))
              have HD9 : Hid (Ap w1 q D Z N s (k + 1) (.slice tb' tl'.length tc') wr) := ⟨_, _, _, _, _, _, HTP.out.newer hbc (fun k hk => .inl hk), HST.out, HTL.out, HNM.out, hrg.out.owns, HSZ.out⟩
              clear hrg hat htd hbw hbc hl0
              go_wp2
              go_roundw
              case rel => exact ⟨k + 1, by omega, by go_num, HD9.out⟩
              case measure => simp [intOf]; omega
            · -- an entry has come
              intro x c w9 cnt1 hwx hwc hlx hat1 hrg1 hlt1 hg1 hs1 hen
              obtain ⟨hsx, hcx⟩ := HSZ.out.entry hat1
              have hsx0 : sz ws' xs' x ≠ 0 := by rw [hsx]; exact hcx
              obtain ⟨X, K, m, hX, hK, hKm, hm1, hm4, hX1, hX2, hX3⟩ := sz_form HWL.out hsx0
              have HSX0 := Lib.hid hsx0
              have HSX := Lib.hid hK
              rw [hsx] at hK
              clear hsx hcx hsx0
              subst hX hK
              have HTD : Hid (Todo ws' xs' (fun z => left z && !z.sameKey (.int .i64 (X : Int))) Da) := htd.out.strike
              have HRE : Hid (Rest Da (X : Int) ((X : Int) + (K : Int))) := fun c h1 h2 => htd.out X hlx c h1 (by rw [HSX.out]; exact h2)
              have HRG1 := Lib.hid hrg1
              have HAT1 : Hid (MapI w9 (w6.heap.size + 1) na Da) := World.ownsMap.kept hat.out hg1 (by simp <;> omega)
              have HBW1 : Hid (Below (w6.heap.size + 1) W8 w9) := hbw.out.grown hg1 (by have := hbw.out.size; omega) (fun k hk => by cases hk; omega)
              have hr9 : w9.heap[w6.heap.size]? = some (shObj N s 128 192) := (HBW1.out.block _ (by omega)).trans HR8.out
              have hd9 : w9.cell? ⟨w6.heap.size, 3, none⟩ = some (.int .i64 192) := cell_of_row _ _ 3 _ _ _ hr9
              have hd8 : w9.cell? ⟨w6.heap.size, 1, none⟩ = some (.int .i64 (s : Int)) := cell_of_row _ _ 1 _ _ _ hr9
              have hX64 : (X : Int) % 64 = 0 := by omega
              have HRG := hrg
              clear hat1 hrg1 hat htd hbw hg1 hs1 hwx hwc hlx hr9
              have HKM := Lib.hid hKm
              have hK4 : K ≤ 256 := by omega
              have hs5' : (s : Int) ≤ 4 := by omega
              clear hKm
              go_wp2_with fail
              go_loopw [19] (fun bv wr => ∃ (j bb na' : Nat) (Da' : DataW Unit), j ≤ m ∧ Hid (bb = X + 64 * j) ∧ bv = .int .i64 (bb : Int) ∧ Hid (wr.ranges Tryd.prog 3 (plainElem (H := Unit) Tryd.prog 3) Z (w6.heap.size + 2) n' Dm' (fun z => left z && !z.sameKey (.int .i64 (X : Int))) cnt1) ∧ Hid (MapI wr (w6.heap.size + 1) na' Da') ∧ na' + 4 * cnt1 + 4 ≤ 500 + j ∧ Hid (Todo ws' xs' (fun z => left z && !z.sameKey (.int .i64 (X : Int))) Da') ∧ Hid (Rest Da' (bb : Int) ((X : Int) + (K : Int))) ∧ Hid (Below (w6.heap.size + 1) W8 wr)) (fun bv _ => X + K + 64 - (intOf bv).toNat)
              case atStart => exact ⟨0, X, na, Da, Nat.zero_le _, rfl, rfl, HRG1, HAT1, by omega, HTD, HRE, HBW1⟩
              case round =>
                obtain ⟨j, bb, na', Da', hj, hbb, rfl, hrg2, hat2, hna2, htd2, hre2, hbw2⟩ := hrel
                by_cases hltj : j < m
                · have hbk : (bb : Int) < (X : Int) + (K : Int) := by have := hbb.out; have := HKM.out; omega
                  have hbi : I64 (bb : Int) := ⟨by omega, by omega⟩
                  have hz : Da'.atKey (.int .i64 (bb : Int)) (.lit (.int .i64 0)) = .lit (.int .i64 0) := hre2.out _ (Int.le_refl _) hbk
                  have hlk := MapI.look hat2.out hbi hz
                  have hkey := keyX hbi
                  have hna9 : na' < maxLen := by unfold maxLen; omega
                  have hbx : (X : Int) ≤ (bb : Int) := by have := hbb.out; omega
                  have HTD3 : Hid (Todo ws' xs' (fun z => left z && !z.sameKey (.int .i64 (X : Int))) (Da'.put (.int .i64 (bb : Int)) (.lit (.int .i64 1)))) := htd2.out.put HSX0.out hbx (by rw [HSX.out]; exact hbk)
                  have HRE3 : Hid (Rest (Da'.put (.int .i64 (bb : Int)) (.lit (.int .i64 1))) ((bb + 64 : Nat) : Int) ((X : Int) + (K : Int))) := hre2.out.put _ (by omega)
                  have HLT : Hid (j < m) := hltj
                  have hbb9 : bb ≤ 10000 := by omega
                  clear hz
                  go_upto_region 44 with (first
                    | (at_mapUpdate; refine wpList_mapUpdate_own _ rfl _ _ _ 29 rfl 3 3 lawI Tryd.underlying29 _ (w6.heap.size + 1) na' _ rfl hat2.out hna9 _ _ _ rfl rfl hkey _ [] (plainElem_int Tryd.underlying3 (by decide)) ?_; intro w10 hown10 hgrow10)
                    | go_in)
                  have hlk2 := MapI.look hown10 hbi (c := 1) (atKey_put_same hat2.out.isMap (by simp [WideAt.IsKeyLit]) _ _)
                  have HOW10 := Lib.hid hown10
                  have HRG3 := Lib.hid (World.ranges.kept hrg2.out hgrow10 (by simp <;> omega) (by simp <;> omega))
                  have HBW3 : Hid (Below (w6.heap.size + 1) W8 w10) := hbw2.out.grown hgrow10 (by have := hbw2.out.size; omega) (fun k hk => by cases hk; omega)
                  clear hown10 hgrow10 hrg2 hat2 htd2 hre2 hbw2 hlk
                  go_wp2
                  go_roundw
                  case rel => exact ⟨j + 1, bb + 64, na' + 1, _, HLT.out, by show _ = _; have := hbb.out; omega, by go_num, HRG3, HOW10, by omega, HTD3, HRE3, HBW3⟩
                  case measure => simp [intOf]; omega
                · have hbk : ¬ (bb : Int) < (X : Int) + (K : Int) := by have := hbb.out; have := HKM.out; omega
                  have hm : j = m := by omega
                  have hle : (bb : Int) ≤ (X : Int) + (K : Int) := by have := hbb.out; have := HKM.out; omega
                  have HM := Lib.hid hm
                  clear hltj hm hre2
                  go_wp2
                  go_roundw
                  case rel => exact ⟨_, cnt1, na', Da', hrg2, hat2, by have := HM.out; omega, htd2, hbw2⟩
                  case measure => rw [hrg2.out.left_eq, HRG.out.left_eq]; exact hlt1
      · obtain rfl : k = len := by omega
        have HBR : Hid (Below w.heap.size w wr) := HB1.out.trans (htp.pool.below0.mono HB1.out.size)
        clear htp hst hmap hsz htl hnm
        go_wp2
        go_ret
        exact ⟨rfl, HBR.out⟩
end Go.Proofs.YtaceogpdjbikiaaDoor
