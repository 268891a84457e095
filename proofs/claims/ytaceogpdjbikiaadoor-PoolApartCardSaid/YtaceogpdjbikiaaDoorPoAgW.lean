
/- PoolAgain: the walk. -/
import Derived.Test.YtaceogpdjbikiaaDoorPoAgL
namespace Go.Proofs.YtaceogpdjbikiaaDoor

open Go.RowKit

/-- An act's own cells, in a block. -/
def actObj (k : Nat) (x : Int) : Obj := .cells #[.int .u8 (k : Int), .int .i64 x] 32 (0, 0)
/-- What the first loop keeps. -/
def Ag (w1 : World) (q D N s : Nat) (k : Nat) (w : World) : Prop := ∃ d ws xs, PoolK w1 (.pointer (some ⟨q, 0, none⟩)) (some ⟨D, 0, none⟩) d ⟨(N : Int), (s : Int), 128, 192⟩ ws xs [] w ∧ St7 N s d ws xs k
set_option maxHeartbeats 4000000 in
set_option maxRecDepth 100000 in
theorem poolAgain_walk (n : Int) (A : Option Addr) (len cap : Nat) (l : List (Nat × Int)) (w : World) (hn : (Lit.int .u8 n).wf = true) (hl : IsActs7 w A len cap l) (hTab : TabAt 1 Lib.deBruijn64tab w) (_hs : 1 < w.heap.size) (hT : TabT w) (hg : 0 < w.heap.size) :
    Calls Tryd.prog 7 #[.int .u8 n, .slice A len cap] w fun e w' => e = .returned (.bool true) ∧ Below w.heap.size w w' := by
  have HAL := Lib.hid (alive7_any w hT hg hTab)
  obtain ⟨hn0, hn1⟩ : 0 ≤ n ∧ n ≤ 255 := by
    simp [Lit.wf, IntKind.min, IntKind.max, IntKind.signed, IntKind.bits] at hn
    omega
  obtain ⟨n, rfl⟩ := Int.eq_ofNat_of_zero_le hn0
  have HZ := Lib.hid hl
  have HT7 : Hid (Tab7 w) := hTab
  have HT := Lib.hid hT
  have HG := Lib.hid hg
  have hzl : len ≤ cap ∧ cap ≤ maxLen := ⟨hl.2.1, hl.2.2.1⟩
  have HLN : Hid (∀ W, Calls Tryd.prog 10 #[.int .u8 (n : Int)] W fun e w' => e = .returned (.int .i64 ((3 + 16 * (1 + n % 4) : Nat) : Int)) ∧ W = w') := fun W => lines_any n W (by omega)
  obtain ⟨s, hs⟩ : ∃ s, 1 + n % 4 = s := ⟨_, rfl⟩
  have hs1 : 1 ≤ s := by omega
  have hs5 : s < 5 := by omega
  rw [hs] at HLN
  have HSH := Lib.hid (fill_sh s hs5 hs1)
  have HBG : Hid (∀ W, Below w.heap.size w W → Calls Tryd.prog 9 #[.int .i64 ((3 + 16 * s : Nat) : Int)] W fun e w' => ∃ D q : Nat, e = .returned (.tuple #[.pointer (some ⟨D, 0, none⟩), .pointer (some ⟨q, 0, none⟩)]) ∧ Ag W q D (3 + 16 * s) s 0 w') := fun W hb => by
    refine (begin_any (3 + 16 * s) (by omega) (by omega) W (HT.out.below hb HG.out) (Nat.lt_of_lt_of_le HG.out hb.size)).mono ?_
    rintro e w' ⟨D, q, he, hp⟩
    have hst : St7 (3 + 16 * s) s (V.newDv (3 + 16 * s)).format.1 (List.replicate (V.slabs (3 + 16 * s)) 0) (List.replicate (V.slabs (3 + 16 * s)) 0) 0 := ⟨V.up7_fresh hs1 hs5, hp.good, by rw [List.length_replicate]; exact HSH.out.2, (V.fresh (by omega) (by omega)).2.2.steps⟩
    rw [HSH.out.1] at hp
    exact ⟨D, q, he, _, _, _, hp, hst⟩
  have HN19 : Hid (19 ≤ 3 + 16 * s ∧ s = V.slabs (3 + 16 * s) ∧ V.Sh.at (3 + 16 * s) = ⟨((3 + 16 * s : Nat) : Int), (s : Int), 128, 192⟩) := ⟨by omega, HSH.out.2.symm, HSH.out.1⟩
  have HSK : Hid (ShOk ⟨((3 + 16 * s : Nat) : Int), (s : Int), 128, 192⟩ 192) := ⟨rfl, by decide, ⟨by show (0 : Int) ≤ 128; decide, by show (128 : Int) ≤ 1000000; decide⟩⟩
  clear hTab hT hg hl hn hs HSH
  by_cases hbig : 120 < len
  · go_enter Tryd.func7, Tryd.ntmps7
    go_wp2_with fail
    refine HAL.out.mono ?_
    rintro e w1 ⟨rfl, hb1⟩
    have HB1 := Lib.hid hb1
    clear hb1
    go_wp2
    go_ret
    exact ⟨rfl, HB1.out⟩
  · generalize 3 + 16 * s = N at *
    go_enter Tryd.func7, Tryd.ntmps7
    go_wp2_with fail
    refine HAL.out.mono ?_
    rintro e w1 ⟨rfl, hb1⟩
    have HB1 := Lib.hid hb1
    have HBG1 := Lib.hid (HBG.out w1 hb1)
    have HT71 : Hid (Tab7 w1) := HT7.out.block (hb1.block _ HT7.out.lt)
    have HT1 : Hid (TabT w1) := HT.out.below hb1 HG.out
    have HG1 : Hid (0 < w1.heap.size) := Nat.lt_of_lt_of_le HG.out hb1.size
    clear hb1
    go_wp2_with fail
    refine (HLN.out _).mono ?_
    rintro e w2 ⟨rfl, rfl⟩
    go_wp2_with fail
    refine HBG1.out.mono ?_
    rintro e w3 ⟨D, q, rfl, hp3⟩
    have HP3 := Lib.hid hp3
    clear hp3
    go_wp2_with fail
    go_loopw [34] (fun kv wr => ∃ k : Nat, k ≤ len ∧ kv = .int .i64 k ∧ Ag w1 q D N s k wr) (fun kv _ => len - (intOf kv).toNat)
    case atStart => exact ⟨0, Nat.zero_le _, rfl, HP3.out⟩
    case round =>
      obtain ⟨k, hk, rfl, hag⟩ := hrel
      by_cases hlt : k < len
      · obtain ⟨d, ws, xs, hp, hst⟩ := hag
        obtain ⟨ak, ax, b, o, hla, hak, hax, rfl, hc0, hc1⟩ := HZ.out.at (HB1.out.trans (hp.below0.mono HB1.out.size)) hlt
        have hp1 : PoolK w1 (.pointer (some ⟨q, 0, none⟩)) (some ⟨D, 0, none⟩) d ⟨(N : Int), (s : Int), 128, 192⟩ ws xs [wr.heap.size] (wr.alloc (actObj ak ax)) := hp.newer ((Below.refl _ _).alloc (Nat.le_refl _) _) (fun k hk => .inr (by rw [List.mem_singleton.1 hk]; exact ⟨Nat.le_refl _, by simp⟩))
        have HR5 : Hid ((wr.alloc (actObj ak ax)).heap[wr.heap.size]? = some (actObj ak ax)) := heap_alloc_new wr _
        have ha0 : (wr.alloc (actObj ak ax)).cell? ⟨wr.heap.size, 0, none⟩ = some (.int .u8 (ak : Int)) := cell_of_row _ _ 0 _ _ _ HR5.out
        obtain ⟨c2, hc2⟩ : ∃ c2, ak % 2 = c2 := ⟨_, rfl⟩
        obtain ⟨c3, hc3⟩ : ∃ c3, ak % 3 = c3 := ⟨_, rfl⟩
        have e2 : (ak : Int) % 2 = (c2 : Int) := by omega
        have e3 : (ak : Int) % 3 = (c3 : Int) := by omega
        have hc22 : c2 < 2 := by omega
        have hc33 : c3 < 3 := by omega
        have HRV := Lib.hid (k_reserve hp1 HSK.out HT71.out (1 + (c2 : Int)))
        have hst2 := hst.reserve (1 + (c2 : Int))
        have hfd := rsv_found hst.good (1 + (c2 : Int))
        have her := rsv_err ws xs (1 + (c2 : Int))
        have HB0 := Lib.hid (show Ag w1 q D N s k wr → True from fun _ => trivial)
        generalize rsv 192 ws xs (1 + (c2 : Int)) = r at *
        obtain ⟨xs', x, er⟩ := r
        dsimp only at her hfd hst2
        have HST2 := Lib.hid hst2
        have HFD := Lib.hid hfd
        have HAX := Lib.hid hax
        clear hst2 hfd hst hp hp1 hla hax HB0 hc2 hc3
        unfold actObj at ha0 HRV
        go_wp2_with fail
        refine HRV.out.mono ?_
        rintro e w6 ⟨rfl, hp6, hk6⟩
        have HP6 := Lib.hid hp6
        have hr6 : w6.heap[wr.heap.size]? = some (actObj ak ax) := (hk6 _ (by simp)).trans HR5.out
        have ha6 : w6.cell? ⟨wr.heap.size, 0, none⟩ = some (.int .u8 (ak : Int)) := cell_of_row _ _ 0 _ _ _ hr6
        clear hp6 hk6 hr6
        dsimp only at HP6 ⊢
        rcases her with rfl | rfl | rfl
        · have hfi := HFD.out rfl
          have HTK : Hid (Calls Tryd.prog 13 #[.pointer (some ⟨q, 0, none⟩), .int .i64 x] w6 fun e w' => e = .returned (.int .i64 0) ∧ Ag w1 q D N s (k + 1) w') := by
            obtain ⟨i, b, hf⟩ := hfi
            refine (po_take HP6.out HSK.out x (find_i64 hf (by decide) (by have := HST2.out.good.len; have := HST2.out.good.most; omega)) (by have := HST2.out.steps; omega)).mono ?_
            have ht := HST2.out.take HN19.out.1 HN19.out.2.1 (sh := ⟨(N : Int), (s : Int), 128, 192⟩) rfl x
            rintro e w' ⟨rfl, hp, hk⟩
            refine ⟨by rw [ht.2.2 ⟨i, b, hf⟩], _, _, _, hp.newer (Below.refl _ _) (fun k hk => by cases hk), ht.1⟩
          by_cases hc0 : c3 = 0
          · subst hc0
            have HAG : Hid (Ag w1 q D N s (k + 1) w6) := ⟨_, _, _, HP6.out.newer (Below.refl _ _) (fun k hk => by cases hk), HST2.out.more⟩
            clear hfi
            go_wp2
            go_roundw
            case rel => exact ⟨k + 1, by omega, by go_num, HAG.out⟩
            case measure => simp [intOf]; omega
          · clear hfi
            go_wp2_with fail
            refine HTK.out.mono ?_
            rintro e w7 ⟨rfl, hag⟩
            have HAG := Lib.hid hag
            clear hag
            go_wp2
            go_roundw
            case rel => exact ⟨k + 1, by omega, by go_num, HAG.out⟩
            case measure => simp [intOf]; omega
        · have HAG : Hid (Ag w1 q D N s (k + 1) w6) := ⟨_, _, _, HP6.out.newer (Below.refl _ _) (fun k hk => by cases hk), HST2.out.more⟩
          go_wp2
          go_roundw
          case rel => exact ⟨k + 1, by omega, by go_num, HAG.out⟩
          case measure => simp [intOf]; omega
        · have HAG : Hid (Ag w1 q D N s (k + 1) w6) := ⟨_, _, _, HP6.out.newer (Below.refl _ _) (fun k hk => by cases hk), HST2.out.more⟩
          go_wp2
          go_roundw
          case rel => exact ⟨k + 1, by omega, by go_num, HAG.out⟩
          case measure => simp [intOf]; omega
      · obtain rfl : k = len := by omega
        obtain ⟨d, ws, xs, hp, hst⟩ := hag
        have HOP : Hid (Calls Tryd.prog 19 #[.pointer (some ⟨D, 0, none⟩)] wr fun e w' => ∃ (q2 : Nat) (K K2 : List Nat), e = .returned (.tuple #[.pointer (some ⟨q2, 0, none⟩), .int .i64 0]) ∧ PoolR (.pointer (some ⟨q, 0, none⟩)) (some ⟨D, 0, none⟩) ⟨(N : Int), (s : Int), 128, 192⟩ ws xs K w' ∧ PoolR (.pointer (some ⟨q2, 0, none⟩)) (some ⟨D, 0, none⟩) ⟨(N : Int), (s : Int), 128, 192⟩ ws (List.replicate s 0) K2 w' ∧ Below w.heap.size w w') := by
          refine (k_open hp (by have := hst.up.left; omega) HT1.out HG1.out).mono ?_
          rintro e w' ⟨K, hr, hb, h⟩
          have hto := hst.up.tableOf HN19.out.1 (by rw [hst.wl]; exact HN19.out.2.1)
          have hop := hst.up.opens HN19.out.1
          rcases h with ⟨_, _, q2, he, hq⟩ | ⟨hno, _⟩
          · rw [hto, hst.up.len, HN19.out.2.2, ← HN19.out.2.1] at hq
            obtain ⟨K2, hq2⟩ := hq.reads
            exact ⟨q2, K, K2, he, hr, hq2, HB1.out.trans ((hp.below0.mono HB1.out.size).trans (hb.mono (Nat.le_trans HB1.out.size hp.below0.size)))⟩
          · rcases hno with h | h
            · rw [hop] at h; exact absurd rfl h
            · rw [hto] at h
              have : allRight ws = true := by
                unfold allRight
                rw [List.all_eq_true]
                intro t ht
                obtain ⟨i, hi, rfl⟩ := List.mem_iff_getElem.1 ht
                have := (hst.good.pair i hi).rw
                rwa [List.getD_eq_getElem?_getD, List.getElem?_eq_getElem hi] at this
              rw [this] at h; cases h
        have HGD := Lib.hid hst.good
        clear hp hst
        go_wp2_with fail
        refine HOP.out.mono ?_
        rintro e w7 ⟨q2, K, K2, rfl, hp7, hq7, hb7⟩
        have HA1 := Lib.hid (r_all hp7 HSK.out)
        have HP7 := Lib.hid hp7
        have HQ7 := Lib.hid hq7
        have HB7 := Lib.hid hb7
        clear hp7 hq7 hb7
        go_wp2_with fail
        refine HA1.out.mono ?_
        rintro e w8 ⟨A8, c8, rfl, hi8, hb8⟩
        have HI8 := Lib.hid hi8
        have HB8 := Lib.hid hb8
        have HA2 := Lib.hid (r_all (HQ7.out.below hb8) HSK.out)
        clear hi8 hb8
        go_wp2_with fail
        refine HA2.out.mono ?_
        rintro e w9 ⟨A9, c9, rfl, hi9, hb9⟩
        have HSI := Lib.hid (ints_same (HI8.out.below hb9) hi9)
        have HB9 : Hid (Below w7.heap.size w7 w9) := HB8.out.trans (hb9.mono HB8.out.size)
        clear hi9 hb9
        go_wp2_with fail
        refine HSI.out.mono ?_
        rintro e w10 ⟨rfl, m10, rfl⟩
        have HHE := Lib.hid (r_held (HQ7.out.below (below_drewN' HB9.out m10)))
        rw [zeros_count] at HHE
        go_wp2_with fail
        refine HHE.out.mono ?_
        rintro e w11 ⟨rfl, hb11⟩
        have HB11 : Hid (Below w7.heap.size w7 w11) := (below_drewN' HB9.out m10).trans (hb11.mono (below_drewN' HB9.out m10).size)
        have HA3 := Lib.hid (r_all (HQ7.out.below HB11.out) HSK.out)
        clear hb11
        go_wp2_with fail
        refine HA3.out.mono ?_
        rintro e w12 ⟨A12, c12, rfl, hi12, hb12⟩
        have hcl := fun x (hx : x ∈ P.all 192 ws ws.length) => And.intro (all_cls hx) (show I64 x by
          obtain ⟨i, b, _, hf⟩ := (P.mem_all (Nat.le_refl _)).1 hx
          exact find_i64 hf (by decide) HGD.out.most)
        have HCL := Lib.hid hcl
        have HI12 := Lib.hid hi12
        have HB12 : Hid (Below w7.heap.size w7 w12) := HB11.out.trans (hb12.mono HB11.out.size)
        have hlen := IsInts.len' hi12
        unfold maxLen at hlen
        clear hi12 hb12 hcl
        obtain ⟨L, hL⟩ : ∃ L, (P.all 192 ws ws.length).length = L := ⟨_, rfl⟩
        have HLL : Hid ((P.all 192 ws ws.length).length = L) := hL
        rw [hL] at hlen
        rw [hL] at HI12
        rw [hL]
        clear hL
        generalize P.all 192 ws ws.length = zs at *
        go_wp2_with fail
        go_loopw [90] (fun kv wr => ∃ j : Nat, j ≤ L ∧ kv = .int .i64 j ∧ Below w12.heap.size w12 wr) (fun kv _ => L - (intOf kv).toNat)
        case atStart => exact ⟨0, Nat.zero_le _, rfl, Below.refl _ _⟩
        case round =>
          obtain ⟨j, hj, rfl, hbw⟩ := hrel
          have HBW := Lib.hid hbw
          clear hbw
          by_cases hlt2 : j < L
          · obtain ⟨b, o, rfl, -, -, -, hcx⟩ := (HI12.out.below HBW.out).at6 (i := j) (by rw [HLL.out]; exact hlt2)
            have hmem : zs.getD j 0 ∈ zs := by
              rw [List.getD_eq_getElem?_getD, List.getElem?_eq_getElem (by rw [HLL.out]; exact hlt2)]; exact List.getElem_mem _
            obtain ⟨hcl1, hcl2⟩ := HCL.out _ hmem
            have HX := Lib.hid hcl2
            have hbb : Below w7.heap.size w7 wr := HB12.out.trans (HBW.out.mono HB12.out.size)
            have HBB := Lib.hid hbb
            have hcc1 := hcl1.1
            have HCQ : Hid (∀ W, Below w7.heap.size w7 W → Calls Tryd.prog 22 #[.pointer (some ⟨q2, 0, none⟩), .int .i64 (zs.getD j 0)] W fun e w' => e = .returned (.int .i64 (clsOf 192 ws (zs.getD j 0) : Nat)) ∧ Below W.heap.size W w') := fun W h => r_class (HQ7.out.below h) HSK.out _ HX.out
            have HCP : Hid (∀ W, Below w7.heap.size w7 W → Calls Tryd.prog 22 #[.pointer (some ⟨q, 0, none⟩), .int .i64 (zs.getD j 0)] W fun e w' => e = .returned (.int .i64 (clsOf 192 ws (zs.getD j 0) : Nat)) ∧ Below W.heap.size W w') := fun W h => r_class (HP7.out.below h) HSK.out _ HX.out
            have HTN : Hid (∀ W, Below w7.heap.size w7 W → Calls Tryd.prog 13 #[.pointer (some ⟨q2, 0, none⟩), .int .i64 (zs.getD j 0)] W fun e w' => e = .returned (.int .i64 7) ∧ Below W.heap.size W w') := fun W h => r_take_none (HQ7.out.below h) HSK.out _ HX.out (zeros_find _ _ _)
            have HUP : Hid (∀ W, Below wr.heap.size wr W → Below w7.heap.size w7 W) := fun W h => hbb.trans (h.mono hbb.size)
            clear hbb hcl1 hcl2 hmem
            generalize zs.getD j 0 = x at *
            generalize clsOf 192 ws x = cl at *
            have hcl0 : ((cl : Int) == 0) = false := by simp [hcc1]
            have HC1 := Lib.hid (HCQ.out wr HBB.out)
            go_wp2_with fail
            refine HC1.out.mono ?_
            rintro e w13 ⟨rfl, hb13⟩
            have HC2 := Lib.hid (HCQ.out w13 (HUP.out _ hb13))
            have HB13 := Lib.hid hb13
            clear hb13
            go_wp2_with fail
            refine HC2.out.mono ?_
            rintro e w14 ⟨rfl, hb14⟩
            have HB14 : Hid (Below wr.heap.size wr w14) := HB13.out.trans (hb14.mono HB13.out.size)
            have HC3 := Lib.hid (HCP.out w14 (HUP.out _ HB14.out))
            clear hb14
            go_wp2_with fail
            refine HC3.out.mono ?_
            rintro e w15 ⟨rfl, hb15⟩
            have HB15 : Hid (Below wr.heap.size wr w15) := HB14.out.trans (hb15.mono HB14.out.size)
            have HC4 := Lib.hid (HTN.out w15 (HUP.out _ HB15.out))
            clear hb15
            go_wp2_with fail
            refine HC4.out.mono ?_
            rintro e w16 ⟨rfl, hb16⟩
            have HB16 : Hid (Below w12.heap.size w12 w16) := HBW.out.trans ((HB15.out.trans (hb16.mono HB15.out.size)).mono HBW.out.size)
            clear hb16
            go_wp2
            go_roundw
            case rel => exact ⟨j + 1, by omega, by go_num, HB16.out⟩
            case measure => simp [intOf]; omega
          · obtain rfl : j = L := by omega
            have HBE : Hid (Below w.heap.size w wr) := HB7.out.trans ((HB12.out.trans (HBW.out.mono HB12.out.size)).mono HB7.out.size)
            go_wp2
            go_ret
            exact ⟨rfl, HBE.out⟩
end Go.Proofs.YtaceogpdjbikiaaDoor
