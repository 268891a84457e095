
/- PoolFills: what filling leaves, by reckoning over one to four slabs; the walk. -/
import Derived.Test.YtaceogpdjbikiaaDoorPoU
namespace Go.Proofs.YtaceogpdjbikiaaDoor

open Go.RowKit

/-- The reserved words behind k small blocks. -/
def fill7 (s k : Nat) : List Nat := (List.range s).map fun i => if k ≤ 16 * i then 0 else 65536 + (2 ^ min 16 (k - 16 * i) - 1)
def one7 (s j : Nat) : List Nat := (fill7 s (16 * s)).set (j / 16) (S.drW ((fill7 s (16 * s)).getD (j / 16) 0) ((j % 16 : Nat) : Int))
theorem fill_rsv : ∀ s, s < 5 → ∀ k, k < 16 * s → rsv 192 (List.replicate s 0) (fill7 s k) 1 = (fill7 s (k + 1), ((192 + 64 * k : Nat) : Int), 0) := by decide +kernel
theorem full_rsv : ∀ s, s < 5 → rsv 192 (List.replicate s 0) (fill7 s (16 * s)) 1 = (fill7 s (16 * s), 0, 6) := by decide +kernel
theorem one_rsv : ∀ s, s < 5 → ∀ j, j < 16 * s → rsv 192 (List.replicate s 0) (one7 s j) 1 = (fill7 s (16 * s), ((192 + 64 * j : Nat) : Int), 0) := by decide +kernel
theorem one_count : ∀ s, s < 5 → ∀ j, j < 16 * s → P.count (one7 s j) s = 16 * s - 1 := by decide +kernel
theorem full_find : ∀ s, s < 5 → ∀ j, j < 16 * s → P.FindIs 192 (fill7 s (16 * s)) ((192 + 64 * j : Nat) : Int) (j / 16) (j % 16) := by unfold P.FindIs; decide +kernel
theorem fill_zero : ∀ s, s < 5 → fill7 s 0 = List.replicate s 0 := by decide +kernel
theorem fill_all : ∀ s, s < 5 → P.all 192 (List.replicate s 0) s = [] := by decide +kernel
theorem fill_sh : ∀ s, s < 5 → 1 ≤ s → V.Sh.at (3 + 16 * s) = ⟨((3 + 16 * s : Nat) : Int), (s : Int), 128, 192⟩ ∧ V.slabs (3 + 16 * s) = s := by decide +kernel
theorem full_drop (d : V.Dv) (sh : V.Sh) (s : Nat) (hs : s < 5) (j : Nat) (hj : j < 16 * s) : dropR d sh 192 (List.replicate s 0) (fill7 s (16 * s)) ((192 + 64 * j : Nat) : Int) = (d, List.replicate s 0, one7 s j, 0) := by
  unfold dropR
  rw [P.find_some (full_find s hs j hj)]
  rfl
theorem lines_any (n : Nat) (w : World) (hn : n ≤ 255) : Calls Tryd.prog 10 #[.int .u8 (n : Int)] w fun e w' => e = .returned (.int .i64 ((3 + 16 * (1 + n % 4) : Nat) : Int)) ∧ w = w' := by
  obtain ⟨m, hm⟩ : ∃ m, n % 4 = m := ⟨_, rfl⟩
  have hm4 : m < 4 := by omega
  have e1 : (n : Int) % 4 = (m : Int) := by omega
  have HE : Hid (((3 + 16 * (1 + n % 4) : Nat) : Int) = 3 + 16 * (1 + (m : Int))) := by show _ = _; rw [hm]; omega
  rw [HE.out]
  clear hm
  go_enter Tryd.func10, Tryd.ntmps10
  go_wp2
  go_ret
  exact ⟨rfl, rfl⟩
/-- The shape's own cells, in a block. -/
def shObj (a b c d : Int) : Obj := .cells #[.int .i64 a, .int .i64 b, .int .i64 c, .int .i64 d] 39 (0, 0)
set_option maxHeartbeats 4000000 in
set_option maxRecDepth 100000 in
theorem poolFills_walk (n : Int) (b : Option Addr) (len cap : Nat) (z : List Int) (w : World) (hn : (Lit.int .u8 n).wf = true) (hz : IsBytes w (.slice b len cap) z) (hTab : TabAt 1 Lib.deBruijn64tab w) (_hs : 1 < w.heap.size) (hT : TabT w) (hg : 0 < w.heap.size) :
    Calls Tryd.prog 6 #[.int .u8 n, .slice b len cap] w fun e w' => e = .returned (.bool true) ∧ Below w.heap.size w w' := by
  have HAL := Lib.hid (alive7_any w hT hg hTab)
  obtain ⟨hn0, hn1⟩ : 0 ≤ n ∧ n ≤ 255 := by
    simp [Lit.wf, IntKind.min, IntKind.max, IntKind.signed, IntKind.bits] at hn
    omega
  obtain ⟨n, rfl⟩ := Int.eq_ofNat_of_zero_le hn0
  have HZ := Lib.hid hz
  have HT7 : Hid (Tab7 w) := hTab
  have HT := Lib.hid hT
  have HG := Lib.hid hg
  have hzl : z.length = len ∧ len ≤ cap ∧ cap ≤ maxLen := IsInts.len' hz
  have HLN : Hid (∀ W, Calls Tryd.prog 10 #[.int .u8 (n : Int)] W fun e w' => e = .returned (.int .i64 ((3 + 16 * (1 + n % 4) : Nat) : Int)) ∧ W = w') := fun W => lines_any n W (by omega)
  obtain ⟨s, hs⟩ : ∃ s, 1 + n % 4 = s := ⟨_, rfl⟩
  have hs1 : 1 ≤ s := by omega
  have hs5 : s < 5 := by omega
  rw [hs] at HLN
  have HSH := Lib.hid (fill_sh s hs5 hs1)
  have HBG : Hid (∀ W, Below w.heap.size w W → Calls Tryd.prog 9 #[.int .i64 ((3 + 16 * s : Nat) : Int)] W fun e w' => ∃ D q : Nat, e = .returned (.tuple #[.pointer (some ⟨D, 0, none⟩), .pointer (some ⟨q, 0, none⟩)]) ∧ PoolK W (.pointer (some ⟨q, 0, none⟩)) (some ⟨D, 0, none⟩) (V.newDv (3 + 16 * s)).format.1 ⟨((3 + 16 * s : Nat) : Int), (s : Int), 128, 192⟩ (List.replicate s 0) (fill7 s 0) [] w') := fun W hb => by
    refine (begin_any (3 + 16 * s) (by omega) (by omega) W (HT.out.below hb HG.out) (Nat.lt_of_lt_of_le HG.out hb.size)).mono ?_
    rintro e w' ⟨D, q, he, hp⟩
    rw [HSH.out.1, HSH.out.2] at hp
    exact ⟨D, q, he, by rw [fill_zero s hs5]; exact hp⟩
  have HSK : Hid (ShOk ⟨((3 + 16 * s : Nat) : Int), (s : Int), 128, 192⟩ 192) := ⟨rfl, by decide, ⟨by show (0 : Int) ≤ 128; decide, by show (128 : Int) ≤ 1000000; decide⟩⟩
  have HST : Hid ((V.newDv (3 + 16 * s)).format.1.steps ≤ 10000000) := Nat.le_trans (V.fresh (by omega) (by omega)).2.2.steps (by decide)
  clear hTab hT hg hz hn hs
  generalize (V.newDv (3 + 16 * s)).format.1 = d at *
  by_cases hbig : 100 < len
  · go_enter Tryd.func6, Tryd.ntmps6
    go_wp2_with fail
    refine HAL.out.mono ?_
    rintro e w1 ⟨rfl, hb1⟩
    have HB1 := Lib.hid hb1
    clear hb1
    go_wp2
    go_ret
    exact ⟨rfl, HB1.out⟩
  · generalize hNg : ((3 + 16 * s : Nat) : Int) = N at *
    go_enter Tryd.func6, Tryd.ntmps6
    go_wp2_with fail
    refine HAL.out.mono ?_
    rintro e w1 ⟨rfl, hb1⟩
    have HB1 := Lib.hid hb1
    have HBG1 := Lib.hid (HBG.out w1 hb1)
    have HT71 : Hid (Tab7 w1) := HT7.out.block (hb1.block _ HT7.out.lt)
    clear hb1
    go_wp2_with fail
    refine (HLN.out _).mono ?_
    rintro e w2 ⟨rfl, rfl⟩
    go_wp2_with fail
    refine HBG1.out.mono ?_
    rintro e w3 ⟨D, q, rfl, hp3⟩
    have HP3 := Lib.hid hp3
    have HSP := Lib.hid (k_shape hp3)
    unfold shV at HSP
    dsimp only at HSP
    clear hp3
    go_wp2_with fail
    refine HSP.out.mono ?_
    rintro e w4 ⟨rfl, hp4, _⟩
    have HP5 : Hid (PoolK w1 (.pointer (some ⟨q, 0, none⟩)) (some ⟨D, 0, none⟩) d ⟨N, (s : Int), 128, 192⟩ (List.replicate s 0) (fill7 s 0) [w4.heap.size] (w4.alloc (shObj N s 128 192))) := hp4.newer ((Below.refl _ _).alloc (Nat.le_refl _) _) (fun k hk => .inr (by rw [List.mem_singleton.1 hk]; exact ⟨Nat.le_refl _, by simp⟩))
    have HR5 : Hid ((w4.alloc (shObj N s 128 192)).heap[w4.heap.size]? = some (shObj N s 128 192)) := heap_alloc_new w4 _
    have hc5 : (w4.alloc (shObj N s 128 192)).cell? ⟨w4.heap.size, 1, none⟩ = some (.int .i64 (s : Int)) := cell_of_row _ _ 1 _ _ _ HR5.out
    unfold shObj at hc5
    clear hp4
    go_wp2_with fail
    have HPZ : Hid (∀ (W : World) (xs : List Nat), PoolK w1 (.pointer (some ⟨q, 0, none⟩)) (some ⟨D, 0, none⟩) d ⟨N, (s : Int), 128, 192⟩ (List.replicate s 0) xs [w4.heap.size] W → Below w.heap.size w W) := fun W xs h => HB1.out.trans (h.below0.mono HB1.out.size)
    generalize hsb : w4.heap.size = sb at *
    clear hc5 hsb
    have hs16 : 16 * (s : Int) ≠ 0 := by omega
    have hs64 : 16 * (s : Int) ≤ 64 := by omega
    go_loopw [4, 8, 9, 10, 36] (fun _ _ _ _ kv wr => ∃ k : Nat, k ≤ 16 * s ∧ kv = .int .i64 k ∧ PoolK w1 (.pointer (some ⟨q, 0, none⟩)) (some ⟨D, 0, none⟩) d ⟨N, (s : Int), 128, 192⟩ (List.replicate s 0) (fill7 s k) [sb] wr ∧ wr.heap[sb]? = some (shObj N s 128 192)) (fun _ _ _ _ kv _ => 16 * s - (intOf kv).toNat)
    case atStart => exact ⟨0, Nat.zero_le _, rfl, HP5.out, HR5.out⟩
    case round =>
      obtain ⟨k, hk, rfl, hp, hr⟩ := hrel
      by_cases hlt : k < 16 * s
      · have HRV := Lib.hid (k_reserve hp HSK.out HT71.out 1)
        rw [fill_rsv s hs5 k hlt, show ((192 + 64 * k : Nat) : Int) = 192 + 64 * (k : Int) by omega] at HRV
        have HR := Lib.hid hr
        have hk64 : k ≤ 64 := by omega
        clear hp hr
        go_wp2_with fail
        refine HRV.out.mono ?_
        rintro e w6 ⟨rfl, hp6, hk6⟩
        have HP6 := Lib.hid hp6
        have HR6 : Hid (w6.heap[sb]? = some (shObj N s 128 192)) := (hk6 sb (by simp)).trans HR.out
        have hc3 : w6.cell? ⟨sb, 3, none⟩ = some (.int .i64 192) := cell_of_row _ _ 3 _ _ _ HR6.out
        clear hp6 hk6
        go_wp2
        go_roundw
        case rel => exact ⟨k + 1, by omega, by go_num, HP6.out, HR6.out⟩
        case measure => simp [intOf]; omega
      · obtain rfl : k = 16 * s := by omega
        have HPF := Lib.hid hp
        have HRF := Lib.hid hr
        clear hp hr
        go_wp2_with fail
        go_loopw [4, 12, 13, 14, 15, 16, 17, 58] (fun _ _ _ _ _ _ _ kv wr => ∃ k : Nat, k ≤ len ∧ kv = .int .i64 k ∧ PoolK w1 (.pointer (some ⟨q, 0, none⟩)) (some ⟨D, 0, none⟩) d ⟨N, (s : Int), 128, 192⟩ (List.replicate s 0) (fill7 s (16 * s)) [sb] wr ∧ wr.heap[sb]? = some (shObj N s 128 192)) (fun _ _ _ _ _ _ _ kv _ => len - (intOf kv).toNat)
        case atStart => exact ⟨0, Nat.zero_le _, rfl, HPF.out, HRF.out⟩
        case round =>
          obtain ⟨k, hk, rfl, hp, hr⟩ := hrel
          by_cases hlt : k < len
          · have hzw := HZ.out.below (HPZ.out _ _ hp)
            obtain ⟨b0, o0, rfl, -, -, -, hcz⟩ := hzw.at6 (i := k) (by omega)
            have hzr := IsInts.range hzw (z.getD k 0) (by rw [List.getD_eq_getElem?_getD, List.getElem?_eq_getElem (by omega : k < z.length)]; exact List.getElem_mem _)
            obtain ⟨v, hv⟩ := Int.eq_ofNat_of_zero_le hzr.1
            rw [hv] at hcz
            have hv255 : v ≤ 255 := by omega
            obtain ⟨j, hj⟩ : ∃ j, v % (16 * s) = j := ⟨_, rfl⟩
            have hjl : j < 16 * s := by rw [← hj]; exact Nat.mod_lt _ (by omega)
            have e1 : (v : Int) % (16 * (s : Int)) = (j : Int) := by rw [← hj]; simp
            have hj64 : j < 64 := by omega
            have HRV := Lib.hid (k_reserve hp HSK.out HT71.out 1)
            rw [full_rsv s hs5] at HRV
            have HR := Lib.hid hr
            have HFD := Lib.hid (full_drop d ⟨N, (s : Int), 128, 192⟩ s hs5 j hjl)
            have HOR := Lib.hid (one_rsv s hs5 j hjl)
            have HOC := Lib.hid (one_count s hs5 j hjl)
            have HZL : Hid (z.length = len) := hzl.1
            clear hp hr hzw hzr hv hj
            go_wp2_with fail
            refine HRV.out.mono ?_
            rintro e w6 ⟨rfl, hp6, hk6⟩
            have HP6 := Lib.hid hp6
            have HR6 : Hid (w6.heap[sb]? = some (shObj N s 128 192)) := (hk6 sb (by simp)).trans HR.out
            have hc1 : w6.cell? ⟨sb, 1, none⟩ = some (.int .i64 (s : Int)) := cell_of_row _ _ 1 _ _ _ HR6.out
            have hc3 : w6.cell? ⟨sb, 3, none⟩ = some (.int .i64 192) := cell_of_row _ _ 3 _ _ _ HR6.out
            clear hp6 hk6
            go_wp2_with fail
            go_quiet (fail)
            have HDR : Hid (∀ m, Calls Tryd.prog 14 #[.pointer (some ⟨q, 0, none⟩), .int .i64 (192 + 64 * (j : Int))] (w6.drewN m) (TkPost w1 (.pointer (some ⟨q, 0, none⟩)) (some ⟨D, 0, none⟩) ⟨N, (s : Int), 128, 192⟩ [sb] (w6.drewN m) (d, List.replicate s 0, one7 s j, 0))) := fun m => by
              have h := po_drop (HP6.out.drewN m) HSK.out (192 + 64 * (j : Int)) ⟨by omega, by omega⟩ HST.out
              rw [← show ((192 + 64 * j : Nat) : Int) = 192 + 64 * (j : Int) by omega, HFD.out] at h
              rw [← show ((192 + 64 * j : Nat) : Int) = 192 + 64 * (j : Int) by omega]
              exact h
            obtain ⟨c9, hc9⟩ : ∃ c9, 16 * s - 1 = c9 := ⟨_, rfl⟩
            have e9 : 16 * (s : Int) - 1 = (c9 : Int) := by omega
            have hq2 : IntKind.i64.wrap (16 * (s : Int)) = 16 * (s : Int) := IntWalk.i64_in _ (by omega)
            have hq3 : IntKind.i64.wrap (16 * (s : Int) - 1) = (c9 : Int) := by rw [IntWalk.i64_in _ (by omega)]; omega
            have hq4 : IntKind.i64.wrap (c9 : Int) = (c9 : Int) := IntWalk.i64_in _ (by omega)
            have HHC : Hid (P.count (one7 s j) (List.replicate s 0).length = c9) := by show _ = _; rw [List.length_replicate, HOC.out, hc9]
            clear hc9
            go_wp2_with fail
            go_region_with (first
              | (go_at_call 14; refine (HDR.out _).mono ?_; rintro e w7 ⟨rfl, hp7, hk7⟩; have HR7 : Hid (w7.heap[sb]? = some (shObj N s 128 192)) := (hk7 sb (by simp)).trans HR6.out; have hc17 : w7.cell? ⟨sb, 1, none⟩ = some (.int .i64 (s : Int)) := cell_of_row _ _ 1 _ _ _ HR7.out; have HHE := Lib.hid (k_held hp7); rw [HHC.out] at HHE; clear hp7 hk7)
              | (go_at_call 20; refine HHE.out.mono ?_; rintro e w8 ⟨rfl, hp8, hk8⟩; have HP8 := Lib.hid hp8; have HR8 : Hid (w8.heap[sb]? = some (shObj N s 128 192)) := (hk8 sb (by simp)).trans HR7.out; have hc18 : w8.cell? ⟨sb, 1, none⟩ = some (.int .i64 (s : Int)) := cell_of_row _ _ 1 _ _ _ HR8.out; clear hp8 hk8)
              | fail)
            all_goals
              have HRV2 := Lib.hid (k_reserve HP8.out HSK.out HT71.out 1)
              rw [HOR.out, show ((192 + 64 * j : Nat) : Int) = 192 + 64 * (j : Int) by omega] at HRV2
              go_wp2_with fail
              refine HRV2.out.mono ?_
              rintro e w9 ⟨rfl, hp9, hk9⟩
              have HP9 := Lib.hid hp9
              have HR9 : Hid (w9.heap[sb]? = some (shObj N s 128 192)) := (hk9 sb (by simp)).trans HR8.out
              clear hp9 hk9
              go_wp2
              go_roundw
              case rel =>
                iterate 54 (apply Exists.intro)
                exact ⟨⟨k + 1, by omega, by go_num, HP9.out, HR9.out⟩, rfl⟩
              case measure => simp [intOf]; omega
          · obtain rfl : k = len := by omega
            have HPA := Lib.hid (k_all hp HSK.out)
            rw [List.length_replicate, fill_all s hs5] at HPA
            have HPZ2 := Lib.hid (fun W h => HPZ.out W (fill7 s (16 * s)) h)
            clear hp hr
            go_wp2_with fail
            refine HPA.out.mono ?_
            rintro e w6 ⟨⟨A, c, rfl, _, _⟩, hp6, _⟩
            have HBE := Lib.hid (HPZ2.out _ hp6)
            clear hp6
            go_wp2
            go_ret
            exact ⟨rfl, HBE.out⟩
end Go.Proofs.YtaceogpdjbikiaaDoor
