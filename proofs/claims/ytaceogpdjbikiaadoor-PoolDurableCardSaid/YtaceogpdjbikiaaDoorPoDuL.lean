
/- PoolDurable: the walk. -/
import Derived.Test.YtaceogpdjbikiaaDoorPoDuN
import Derived.Test.YtaceogpdjbikiaaDoorPoTd
import Derived.Test.YtaceogpdjbikiaaDoorPoDuT
import Derived.Test.YtaceogpdjbikiaaDoorPoAgW
namespace Go.Proofs.YtaceogpdjbikiaaDoor

open Go.RowKit

/-- What the loop of acts keeps. -/
def Du (w1 : World) (q D : Nat) (k : Nat) (tv : Value) (w : World) : Prop := ∃ d ws xs l, TPool w1 (.pointer (some ⟨q, 0, none⟩)) (some ⟨D, 0, none⟩) d ⟨35, 2, 128, 192⟩ ws xs [] tv l w ∧ St7 35 2 d ws xs k ∧ l.length ≤ k
theorem du_sh : V.Sh.at 35 = ⟨35, 2, 128, 192⟩ ∧ V.slabs 35 = 2 := by decide +kernel
section

variable {w1 w : World} {pv : Value} {a : Addr} {d : V.Dv} {sh : V.Sh} {ws xs X : List Nat} {tv : Value} {l : List Int} {N s k : Nat}

theorem t_reserve (h : TPool w1 pv (some a) d sh ws xs X tv l w) (hst : St7 N s d ws xs k) (hs : ShOk sh 192) (hT : Tab7 w1) (c : Int) : Calls Tryd.prog 11 #[pv, .int .i64 c] w fun e w' => ∃ (xs' : List Nat) (x er : Int), e = .returned (.tuple #[.int .i64 x, .int .i64 er]) ∧ TPool w1 pv (some a) d sh ws xs' X tv l w' ∧ St7 N s d ws xs' (k + 1) ∧ (er = 0 ∧ I64 x ∨ er = 6 ∨ er = 2) := by
  refine (k_reserve h.pool hs hT c).mono ?_
  rintro e w' ⟨he, hp, hk⟩
  refine ⟨_, _, _, he, h.call hp hk, (hst.reserve c).more, ?_⟩
  rcases rsv_err ws xs c with h0 | h0 | h0
  · left
    obtain ⟨i, b, hf⟩ := rsv_found hst.good c h0
    exact ⟨h0, find_i64 hf (by decide) (by have h1 := (hst.reserve c).good.len; have h2 := (hst.reserve c).good.most; omega)⟩
  · exact .inr (.inl h0)
  · exact .inr (.inr h0)
theorem t_take (h : TPool w1 pv (some a) d sh ws xs X tv l w) (hst : St7 N s d ws xs k) (hs : ShOk sh 192) (h19 : 19 ≤ N) (hN : s = V.slabs N) (hsh : sh.table = 128) (hk : k ≤ 1000) (x : Int) (hx : I64 x) : Calls Tryd.prog 13 #[pv, .int .i64 x] w fun e w' => ∃ (d' : V.Dv) (ws' xs' : List Nat) (er : Int), e = .returned (.int .i64 er) ∧ TPool w1 pv (some a) d' sh ws' xs' X tv l w' ∧ St7 N s d' ws' xs' (k + 1) := by
  refine (po_take h.pool hs x hx (by have := hst.steps; omega)).mono ?_
  rintro e w' ⟨he, hp, hkk⟩
  exact ⟨_, _, _, _, he, h.call hp hkk, (hst.take h19 hN hsh x).1⟩
theorem t_drop (h : TPool w1 pv (some a) d sh ws xs X tv l w) (hst : St7 N s d ws xs k) (hs : ShOk sh 192) (h19 : 19 ≤ N) (hN : s = V.slabs N) (hsh : sh.table = 128) (hk : k ≤ 1000) (x : Int) (hx : I64 x) : Calls Tryd.prog 14 #[pv, .int .i64 x] w fun e w' => ∃ (d' : V.Dv) (ws' xs' : List Nat) (er : Int), e = .returned (.int .i64 er) ∧ TPool w1 pv (some a) d' sh ws' xs' X tv l w' ∧ St7 N s d' ws' xs' (k + 1) := by
  refine (po_drop h.pool hs x hx (by have := hst.steps; omega)).mono ?_
  rintro e w' ⟨he, hp, hkk⟩
  exact ⟨_, _, _, _, he, h.call hp hkk, hst.drop h19 hN hsh x⟩
end

theorem count_take7 (x : Int) (l : List Int) {j : Nat} (hj : j < l.length) : (l.take (j + 1)).count x = (l.take j).count x + if l.getD j 0 = x then 1 else 0 := by
  rw [List.take_add_one, List.count_append, List.getD_eq_getElem?_getD, List.getElem?_eq_getElem hj]
  simp only [Option.toList_some, Option.getD_some, List.count_singleton, beq_iff_eq]
set_option maxHeartbeats 4000000 in
set_option maxRecDepth 100000 in
theorem poolDurable_walk (A : Option Addr) (len cap : Nat) (l : List (Nat × Int)) (lk : Nat) (lx : Int) (ea : Nat) (PA : Option Addr) (pn pc : Nat) (zs : List Int) (w : World) (hl : IsActs7 w A len cap l) (hlk : lk ≤ 255) (hlx : I64 lx) (hea : ea ≤ 255) (hz : IsBytes w (.slice PA pn pc) zs) (hTab : TabAt 1 Lib.deBruijn64tab w) (_hs : 1 < w.heap.size) (hT : TabT w) (hg : 0 < w.heap.size) :
    Calls Tryd.prog 4 #[.slice A len cap, .agg #[.int .u8 (lk : Int), .int .i64 lx], .agg #[.int .u8 (ea : Int), .slice PA pn pc]] w fun e w' => e = .returned (.bool true) ∧ Below w.heap.size w w' := by
  obtain ⟨i0, hi, hz0, hz1, hz2⟩ := info_parts info_i64
  have HZ := Lib.hid hl
  have HPS := Lib.hid hz
  have HLX := Lib.hid hlx
  have HPA : Hid (zs ≠ [] → ∀ b, PA = some b → b.block < w.heap.size) := fun hne b e => by
    obtain ⟨b2, o2, e2, _, _, _, hc⟩ := hz.at6 (i := 0) (by cases zs with | nil => exact absurd rfl hne | cons z zs => simp)
    rw [e2] at e
    obtain rfl := Option.some.inj e
    exact World.block_lt_of_cell? w _ hc
  have hzl : len ≤ cap ∧ cap ≤ maxLen := ⟨hl.2.1, hl.2.2.1⟩
  have hpl : zs.length = pn ∧ pn ≤ pc ∧ pc ≤ maxLen := IsInts.len' hz
  -- the two structs in their blocks
  obtain ⟨W, hW⟩ : ∃ W, (w.alloc (actObj lk lx)).alloc (.cells #[.int .u8 (ea : Int), .slice PA pn pc] 44 (0, 0)) = W := ⟨_, rfl⟩
  have hbW : Below w.heap.size w W := by rw [← hW]; exact ((Below.refl _ _).alloc (Nat.le_refl _) _).alloc (by simp) _
  have HBW := Lib.hid hbW
  have HR1 : Hid (W.heap[w.heap.size]? = some (actObj lk lx)) := by
    show _ = _
    rw [← hW]; exact (Below.heap_alloc _ _ _ (by simp)).trans (heap_alloc_new w _)
  have HR2 : Hid (W.heap[w.heap.size + 1]? = some (.cells #[.int .u8 (ea : Int), .slice PA pn pc] 44 (0, 0))) := by
    show _ = _
    rw [← hW]
    have h := heap_alloc_new (w.alloc (actObj lk lx)) (.cells #[.int .u8 (ea : Int), .slice PA pn pc] 44 (0, 0))
    rwa [show (w.alloc (actObj lk lx)).heap.size = w.heap.size + 1 by simp] at h
  have HT7 : Hid (Tab7 w) := hTab
  have HAL : Hid (Calls Tryd.prog 8 #[] W fun e w' => e = .returned (.bool true) ∧ Below W.heap.size W w') := alive7_any W (hT.below hbW hg) (Nat.lt_of_lt_of_le hg hbW.size) (HT7.out.block (hbW.block _ HT7.out.lt))
  have HT := Lib.hid hT
  have HG := Lib.hid hg
  have HBG : Hid (∀ W, Below w.heap.size w W → Calls Tryd.prog 9 #[.int .i64 35] W fun e w' => ∃ D q : Nat, e = .returned (.tuple #[.pointer (some ⟨D, 0, none⟩), .pointer (some ⟨q, 0, none⟩)]) ∧ Du W q D 0 (.slice none 0 0) w') := fun W hb => by
    refine (begin_any 35 (by omega) (by omega) W (HT.out.below hb HG.out) (Nat.lt_of_lt_of_le HG.out hb.size)).mono ?_
    rintro e w' ⟨D, q, he, hp⟩
    have hst : St7 35 2 (V.newDv 35).format.1 (List.replicate (V.slabs 35) 0) (List.replicate (V.slabs 35) 0) 0 := ⟨V.up7_fresh (s := 2) (by decide) (by decide), hp.good, by rw [List.length_replicate]; exact du_sh.2, (V.fresh (by omega) (by omega)).2.2.steps⟩
    rw [du_sh.1] at hp
    exact ⟨D, q, he, _, _, _, [], TPool.start hp, hst, Nat.le_refl _⟩
  have HSK : Hid (ShOk ⟨35, 2, 128, 192⟩ 192) := ⟨rfl, by decide, ⟨by show (0 : Int) ≤ 128; decide, by show (128 : Int) ≤ 1000000; decide⟩⟩
  have hend0 : W.cell? ⟨w.heap.size + 1, 0, none⟩ = some (.int .u8 (ea : Int)) := cell_of_row _ _ 0 _ _ _ HR2.out
  have hend1 : W.cell? ⟨w.heap.size + 1, 1, none⟩ = some (.slice PA pn pc) := cell_of_row _ _ 1 _ _ _ HR2.out
  clear hTab hT hg hl hz hlx hbW
  unfold actObj at hW
  go_enter Tryd.func4, Tryd.ntmps4
  go_wp2_with fail
  refine HAL.out.mono ?_
  rintro e w1 ⟨rfl, hb1⟩
  have HB1 : Hid (Below w.heap.size w w1) := HBW.out.trans (hb1.mono HBW.out.size)
  have HBG1 := Lib.hid (HBG.out w1 HB1.out)
  have HT71 : Hid (Tab7 w1) := HT7.out.block (HB1.out.block _ HT7.out.lt)
  have HT1 : Hid (TabT w1) := HT.out.below HB1.out HG.out
  have HG1 : Hid (0 < w1.heap.size) := Nat.lt_of_lt_of_le HG.out HB1.out.size
  have HL1 : Hid (w1.heap[w.heap.size]? = some (actObj lk lx)) := (hb1.block _ (Array.getElem?_eq_some_iff.1 HR1.out).1).trans HR1.out
  have hend0' : w1.cell? ⟨w.heap.size + 1, 0, none⟩ = some (.int .u8 (ea : Int)) := (World.cell?_of_block (w := W) (a := ⟨w.heap.size + 1, 0, none⟩) (hb1.block _ (Array.getElem?_eq_some_iff.1 HR2.out).1)).trans hend0
  have hend1' : w1.cell? ⟨w.heap.size + 1, 1, none⟩ = some (.slice PA pn pc) := (World.cell?_of_block (w := W) (a := ⟨w.heap.size + 1, 1, none⟩) (hb1.block _ (Array.getElem?_eq_some_iff.1 HR2.out).1)).trans hend1
  have HND : Hid (∀ W' : World, Below w1.heap.size w1 W' → ∀ m, Below w1.heap.size w1 (W'.drewN m)) := fun W' h m => below_drewN' h m
  clear hb1 hW hend0 hend1
  by_cases hbig : 120 < len ∨ 100 < pn
  · rcases hbig with hbig | hbig
    · go_wp2_with fail
      go_quiet (fail)
      go_wp2
      go_ret
      first | exact ⟨rfl, HB1.out⟩ | exact ⟨rfl, below_drewN' HB1.out _⟩
    · by_cases hbig2 : 120 < len
      · go_wp2_with fail
        go_quiet (fail)
        go_wp2
        go_ret
        first | exact ⟨rfl, HB1.out⟩ | exact ⟨rfl, below_drewN' HB1.out _⟩
      · go_wp2_with fail
        go_quiet (fail)
        go_wp2
        go_ret
        first | exact ⟨rfl, HB1.out⟩ | exact ⟨rfl, below_drewN' HB1.out _⟩
  · have hb120 : len ≤ 120 := by omega
    have hb100 : pn ≤ 100 := by omega
    have HBG2 : Hid (∀ m, Calls Tryd.prog 9 #[.int .i64 35] (w1.drewN m) fun e w' => ∃ (W1 : World) (D q : Nat), e = .returned (.tuple #[.pointer (some ⟨D, 0, none⟩), .pointer (some ⟨q, 0, none⟩)]) ∧ Du W1 q D 0 (.slice none 0 0) w' ∧ Below w.heap.size w W1 ∧ Tab7 W1 ∧ TabT W1 ∧ 0 < W1.heap.size ∧ W1.heap[w.heap.size]? = some (actObj lk lx)) := fun m => by
      refine (HBG.out _ (below_drewN' HB1.out m)).mono ?_
      rintro e w' ⟨D, q, he, hd⟩
      have hb := below_drewN' (Below.refl w1.heap.size w1) m
      exact ⟨_, D, q, he, hd, below_drewN' HB1.out m, HT71.out.block (hb.block _ HT71.out.lt), HT1.out.below hb HG1.out, Nat.lt_of_lt_of_le HG1.out hb.size, (hb.block _ (Array.getElem?_eq_some_iff.1 HL1.out).1).trans HL1.out⟩
    clear hbig
    go_wp2_with fail
    go_quiet (fail)
    go_wp2_with fail
    refine (HBG2.out _).mono ?_
    rintro e w3 ⟨W1, D, q, rfl, hdu, hbw1, ht7, ht, hg, hl1⟩
    have HDU := Lib.hid hdu
    have HB1 := Lib.hid hbw1
    have HT71 := Lib.hid ht7
    have HT1 := Lib.hid ht
    have HG1 := Lib.hid hg
    have HL1 := Lib.hid hl1
    clear hdu hbw1 ht7 ht hg hl1 hend0' hend1'
    go_wp2_with fail
    go_loopw [11, 55] (fun tv kv wr => ∃ k : Nat, k ≤ len ∧ kv = .int .i64 k ∧ Du W1 q D k tv wr) (fun _ kv _ => len - (intOf kv).toNat)
    case atStart => exact ⟨0, Nat.zero_le _, rfl, HDU.out⟩
    case round =>
      obtain ⟨k, hk, rfl, hdu⟩ := hrel
      obtain ⟨d, ws, xs, tl, htp, hst, htl⟩ := hdu
      obtain ⟨tb, tc, rfl, htc1, htc2⟩ := owns_form htp.row
      by_cases hlt : k < len
      · obtain ⟨ak, ax, b, o, hla, hak, hax, rfl, hc0, hc1⟩ := HZ.out.at (HB1.out.trans (htp.pool.below0.mono HB1.out.size)) hlt
        have HTP : Hid (TPool W1 (.pointer (some ⟨q, 0, none⟩)) (some ⟨D, 0, none⟩) d ⟨35, 2, 128, 192⟩ ws xs [] (.slice tb tl.length tc) tl (wr.alloc (actObj ak ax))) := htp.newer ((Below.refl _ _).alloc (Nat.le_refl _) _) (fun k hk => by cases hk)
        have HR5 : Hid ((wr.alloc (actObj ak ax)).heap[wr.heap.size]? = some (actObj ak ax)) := heap_alloc_new wr _
        have ha0 : (wr.alloc (actObj ak ax)).cell? ⟨wr.heap.size, 0, none⟩ = some (.int .u8 (ak : Int)) := cell_of_row _ _ 0 _ _ _ HR5.out
        have ha1 : (wr.alloc (actObj ak ax)).cell? ⟨wr.heap.size, 1, none⟩ = some (.int .i64 ax) := cell_of_row _ _ 1 _ _ _ HR5.out
        have HST := Lib.hid hst
        have htlk : tl.length ≤ 120 := by omega
        have HTL := Lib.hid htl
        clear htp hst hla
        unfold actObj at ha0 ha1
        have h4 : (ak : Int) % 4 = 0 ∨ (ak : Int) % 4 = 1 ∨ (ak : Int) % 4 = 2 ∨ (ak : Int) % 4 = 3 := by omega
        rcases h4 with h4 | h4 | h4 | h4
        · -- Reserve of small ones
          have HRV := Lib.hid (t_reserve HTP.out HST.out HSK.out HT71.out 1)
          go_wp2_with fail
          refine HRV.out.mono ?_
          rintro e w6 ⟨xs', x, er, rfl, htp6, hst6, her⟩
          have HTP6 := Lib.hid htp6
          have HST6 := Lib.hid hst6
          have HO6 : Hid (∀ o : Obj, (w6.alloc o).ownsRow W1.heap.size 3 1 (.slice tb tl.length tc) tl.length (tl.map (Value.int .i64))) := fun o => htp6.row.alloc o
          have HW6 : Hid (∀ o : Obj, W1.heap.size ≤ (w6.alloc o).heap.size) := fun o => by
            have := htp6.pool.below0.size
            have : (w6.alloc o).heap.size = w6.heap.size + 1 := by simp
            omega
          clear htp6 hst6
          rcases her with ⟨rfl, hx⟩ | rfl | rfl
          · have HX := Lib.hid hx
            have hm1 : tl.length + 1 ≤ maxLen := by unfold maxLen; omega
            have hm2 : (tl.length + 1) * 8 ≤ 140737488355328 := by omega
            clear hx
            go_wp2_with (at_builtin; refine wpList_append_lies _ rfl (.tmp 96) (.tmp 98) 30 rfl W1.heap.size 3 i0 _ 1 8 Tryd.underlying30 hi hz0 hz1 hz2 rfl (by decide) _ tl.length _ rfl (HO6.out _) _ 1 1 [.int .i64 x] rfl rfl (World.news_of_block (heap_alloc_new _ _)) (by simp [Value.oneCell']) (by decide) hm1 hm2 (HW6.out _) _ rfl ?_)
            intro g7 cap7 w7 o7 gr7 at7 lt7
            have HD7 : Hid (Du W1 q D (k + 1) (.slice (some ⟨g7, 0, none⟩) (tl.length + 1) cap7) w7) := ⟨_, _, _, _, HTP6.out.push HX.out o7 gr7 at7, HST6.out, by have := HTL.out; simp; omega⟩
            clear o7 gr7 at7 lt7
            go_wp2
            go_roundw
            case rel => exact ⟨k + 1, by omega, by go_num, HD7.out⟩
            case measure => simp [intOf]; omega
          all_goals
            have HD7 : Hid (Du W1 q D (k + 1) (.slice tb tl.length tc) w6) := ⟨_, _, _, _, HTP6.out, HST6.out, by have := HTL.out; omega⟩
            go_wp2
            go_roundw
            case rel => exact ⟨k + 1, by omega, by go_num, HD7.out⟩
            case measure => simp [intOf]; omega
        · -- .. of big ones
          have HRV := Lib.hid (t_reserve HTP.out HST.out HSK.out HT71.out 2)
          go_wp2_with fail
          refine HRV.out.mono ?_
          rintro e w6 ⟨xs', x, er, rfl, htp6, hst6, her⟩
          have HTP6 := Lib.hid htp6
          have HST6 := Lib.hid hst6
          have HO6 : Hid (∀ o : Obj, (w6.alloc o).ownsRow W1.heap.size 3 1 (.slice tb tl.length tc) tl.length (tl.map (Value.int .i64))) := fun o => htp6.row.alloc o
          have HW6 : Hid (∀ o : Obj, W1.heap.size ≤ (w6.alloc o).heap.size) := fun o => by
            have := htp6.pool.below0.size
            have : (w6.alloc o).heap.size = w6.heap.size + 1 := by simp
            omega
          clear htp6 hst6
          rcases her with ⟨rfl, hx⟩ | rfl | rfl
          · have HX := Lib.hid hx
            have hm1 : tl.length + 1 ≤ maxLen := by unfold maxLen; omega
            have hm2 : (tl.length + 1) * 8 ≤ 140737488355328 := by omega
            clear hx
            go_wp2_with (at_builtin; refine wpList_append_lies _ rfl (.tmp 96) (.tmp 98) 30 rfl W1.heap.size 3 i0 _ 1 8 Tryd.underlying30 hi hz0 hz1 hz2 rfl (by decide) _ tl.length _ rfl (HO6.out _) _ 1 1 [.int .i64 x] rfl rfl (World.news_of_block (heap_alloc_new _ _)) (by simp [Value.oneCell']) (by decide) hm1 hm2 (HW6.out _) _ rfl ?_)
            intro g7 cap7 w7 o7 gr7 at7 lt7
            have HD7 : Hid (Du W1 q D (k + 1) (.slice (some ⟨g7, 0, none⟩) (tl.length + 1) cap7) w7) := ⟨_, _, _, _, HTP6.out.push HX.out o7 gr7 at7, HST6.out, by have := HTL.out; simp; omega⟩
            clear o7 gr7 at7 lt7
            go_wp2
            go_roundw
            case rel => exact ⟨k + 1, by omega, by go_num, HD7.out⟩
            case measure => simp [intOf]; omega
          all_goals
            have HD7 : Hid (Du W1 q D (k + 1) (.slice tb tl.length tc) w6) := ⟨_, _, _, _, HTP6.out, HST6.out, by have := HTL.out; omega⟩
            go_wp2
            go_roundw
            case rel => exact ⟨k + 1, by omega, by go_num, HD7.out⟩
            case measure => simp [intOf]; omega
        · -- Take
          by_cases h0 : tl.length = 0
          · have HD7 : Hid (Du W1 q D (k + 1) (.slice tb tl.length tc) (wr.alloc (actObj ak ax))) := ⟨_, _, _, _, HTP.out, HST.out.more, by have := HTL.out; omega⟩
            unfold actObj at HD7
            rw [h0] at HD7 |-
            go_wp2
            go_roundw
            case rel => exact ⟨k + 1, by omega, by go_num, HD7.out⟩
            case measure => simp [intOf]; omega
          · have hn0 : 0 < tl.length := by omega
            obtain ⟨mm, j, hmm1, hmm2, hj⟩ := pick7 ax hn0 (by omega)
            obtain ⟨b1, o1, rfl, hcj, hxj⟩ := HTP.out.pick hj
            have HTK := Lib.hid (t_take HTP.out HST.out HSK.out (by decide) du_sh.2.symm rfl (by omega) _ hxj)
            have HDN : Hid (∀ (W : World) (d' : V.Dv) (ws' xs' : List Nat), TPool W1 (.pointer (some ⟨q, 0, none⟩)) (some ⟨D, 0, none⟩) d' ⟨35, 2, 128, 192⟩ ws' xs' [] (.slice (some ⟨b1, o1, none⟩) tl.length tc) tl W → St7 35 2 d' ws' xs' (k + 1) → Du W1 q D (k + 1) (.slice (some ⟨b1, o1, none⟩) tl.length tc) W) := fun W d' ws' xs' h1 h2 => ⟨_, _, _, _, h1, h2, by have := HTL.out; omega⟩
            clear hxj
            generalize tl.getD j 0 = x at *
            unfold actObj at hcj HTK
            have hmm0 : (tl.length : Int) ≠ 0 := by omega
            go_wp2_with fail
            refine HTK.out.mono ?_
            rintro e w6 ⟨d', ws', xs', er, rfl, htp6, hst6⟩
            have HD7 := Lib.hid (HDN.out _ _ _ _ htp6 hst6)
            clear htp6 hst6
            go_wp2
            go_roundw
            case rel => exact ⟨k + 1, by omega, by go_num, HD7.out⟩
            case measure => simp [intOf]; omega
        · -- Drop
          by_cases h0 : tl.length = 0
          · have HD7 : Hid (Du W1 q D (k + 1) (.slice tb tl.length tc) (wr.alloc (actObj ak ax))) := ⟨_, _, _, _, HTP.out, HST.out.more, by have := HTL.out; omega⟩
            unfold actObj at HD7
            rw [h0] at HD7 |-
            go_wp2
            go_roundw
            case rel => exact ⟨k + 1, by omega, by go_num, HD7.out⟩
            case measure => simp [intOf]; omega
          · have hn0 : 0 < tl.length := by omega
            obtain ⟨mm, j, hmm1, hmm2, hj⟩ := pick7 ax hn0 (by omega)
            obtain ⟨b1, o1, rfl, hcj, hxj⟩ := HTP.out.pick hj
            have HTK := Lib.hid (t_drop HTP.out HST.out HSK.out (by decide) du_sh.2.symm rfl (by omega) _ hxj)
            have HDN : Hid (∀ (W : World) (d' : V.Dv) (ws' xs' : List Nat), TPool W1 (.pointer (some ⟨q, 0, none⟩)) (some ⟨D, 0, none⟩) d' ⟨35, 2, 128, 192⟩ ws' xs' [] (.slice (some ⟨b1, o1, none⟩) tl.length tc) tl W → St7 35 2 d' ws' xs' (k + 1) → Du W1 q D (k + 1) (.slice (some ⟨b1, o1, none⟩) tl.length tc) W) := fun W d' ws' xs' h1 h2 => ⟨_, _, _, _, h1, h2, by have := HTL.out; omega⟩
            clear hxj
            generalize tl.getD j 0 = x at *
            unfold actObj at hcj HTK
            have hmm0 : (tl.length : Int) ≠ 0 := by omega
            go_wp2_with fail
            refine HTK.out.mono ?_
            rintro e w6 ⟨d', ws', xs', er, rfl, htp6, hst6⟩
            have HD7 := Lib.hid (HDN.out _ _ _ _ htp6 hst6)
            clear htp6 hst6
            go_wp2
            go_roundw
            case rel => exact ⟨k + 1, by omega, by go_num, HD7.out⟩
            case measure => simp [intOf]; omega
      · obtain rfl : k = len := by omega
        have HST := Lib.hid hst
        have hbr : Below w.heap.size w wr := HB1.out.trans (htp.pool.below0.mono HB1.out.size)
        have HBR := Lib.hid hbr
        have htlk : tl.length ≤ 120 := by omega
        by_cases h0 : tl.length = 0
        · clear htp hst htl htc1 hbr
          rw [h0]
          go_wp2
          go_ret
          exact ⟨rfl, HBR.out⟩
        · have hn0 : 0 < tl.length := by omega
          have HA := Lib.hid (t_all htp HSK.out)
          obtain ⟨a5, ha5⟩ : ∃ a5, ea % 5 = a5 := ⟨_, rfl⟩
          have e5 : (ea : Int) % 5 = (a5 : Int) := by omega
          have ha55 : a5 < 5 := by omega
          clear htp hst htl hbr ha5
          go_wp2_with fail
          refine HA.out.mono ?_
          rintro e w6 ⟨bv, rfl, htp6, hrow6, _⟩
          have HROW6 := Lib.hid hrow6
          obtain ⟨bb, bc, rfl, hbc1, hbc2⟩ := owns_form hrow6
          have HS5 := Lib.hid (t_stop htp6 (a5 : Int) (by omega))
          clear htp6 hrow6
          go_wp2_with fail
          refine HS5.out.mono ?_
          rintro e w7 ⟨rfl, htp7, hk7⟩
          have HROW7 : Hid (RowI W1 (.slice bb (P.all 192 ws ws.length).length bc) (P.all 192 ws ws.length) w7) := owns_keep HROW6.out (fun k hk => hk7 k (List.mem_append_right _ (List.mem_append_left _ hk)))
          have hl7 := (htp7.pool.below0.block _ (Array.getElem?_eq_some_iff.1 HL1.out).1).trans HL1.out
          have hl0 : w7.cell? ⟨w.heap.size, 0, none⟩ = some (.int .u8 (lk : Int)) := cell_of_row _ _ 0 _ _ _ hl7
          have hl1 : w7.cell? ⟨w.heap.size, 1, none⟩ = some (.int .i64 lx) := cell_of_row _ _ 1 _ _ _ hl7
          obtain ⟨mm, j, hmm1, hmm2, hj⟩ := pick7 lx hn0 (by omega)
          obtain ⟨b1, o1, rfl, hcj, hxj⟩ := htp7.pick hj
          have hmm0 : (tl.length : Int) ≠ 0 := by omega
          have HTK := Lib.hid (t_last_take htp7 HST.out HSK.out (by decide) du_sh.2.symm rfl (by omega) (by omega) zs _ hxj)
          have HTD := Lib.hid (t_last_drop htp7 HST.out HSK.out (by decide) du_sh.2.symm rfl (by omega) (by omega) zs _ hxj)
          clear hxj htp7 hk7 hl7
          generalize tl.getD j 0 = x at *
          have h2 : (lk : Int) % 2 = 0 ∨ (lk : Int) % 2 = 1 := by omega
          rcases h2 with h2 | h2
          · go_wp2_with fail
            refine HTK.out.mono ?_
            rintro e w8 ⟨d8, ws8, xs8, er, rfl, htp8, hk8, hla⟩
            have HROW8 : Hid (RowI W1 (.slice bb (P.all 192 ws ws.length).length bc) (P.all 192 ws ws.length) w8) := owns_keep HROW7.out (fun k hk => hk8 k (List.mem_append_right _ (List.mem_append_left _ hk)))
            have HA8 := Lib.hid (t_all htp8 HSK.out)
            have har : allRight (tableOf (d8.crash zs)) = true ∧ (tableOf (d8.crash zs)).length = 2 := by
              rcases hla.2.2.2.2.2 with ⟨_, h⟩ | ⟨_, _, h1, h2, _⟩
              · rw [h]; exact ⟨good_right hla.2.2.2.2.1, hla.2.2.2.1⟩
              · exact ⟨h1, h2⟩
            have HAR := Lib.hid har
            have HLA := Lib.hid hla
            clear htp8 hk8 hla har
            go_wp2_with fail
            refine HA8.out.mono ?_
            rintro e w9 ⟨hv, rfl, htp9, hrow9, hk9⟩
            have HROW9 : Hid (RowI W1 (.slice bb (P.all 192 ws ws.length).length bc) (P.all 192 ws ws.length) w9) := owns_keep HROW8.out (fun k hk => hk9 k (List.mem_append_right _ (List.mem_append_left _ hk)))
            have HROWB := Lib.hid hrow9
            obtain ⟨vb, vc, rfl, hvc1, hvc2⟩ := owns_form hrow9
            have HC := Lib.hid (t_crash htp9 PA pn pc zs (HPS.out.below HB1.out) (fun h b e => Nat.lt_of_lt_of_le (HPA.out h b e) HB1.out.size) (by have h := HLA.out.2.2.1; dsimp only at h; omega))
            clear htp9 hrow9 hk9
            go_wp2_with fail
            refine HC.out.mono ?_
            rintro e w10 ⟨rfl, htp10, hk10⟩
            have HROW10 : Hid (RowI W1 (.slice bb (P.all 192 ws ws.length).length bc) (P.all 192 ws ws.length) w10) := owns_keep HROW9.out (fun k hk => hk10 k (List.mem_append_right _ (List.mem_append_right _ (List.mem_append_left _ hk))))
            have HROWC : Hid (RowI W1 (.slice vb (P.all 192 ws8 ws8.length).length vc) (P.all 192 ws8 ws8.length) w10) := owns_keep HROWB.out (fun k hk => hk10 k (List.mem_append_right _ (List.mem_append_left _ hk)))
            have HOP := Lib.hid (t_open htp10 HT1.out HG1.out (by show (-1 : Int) ≠ 0; decide) (by rw [HLA.out.1]) HLA.out.2.1 HAR.out.1)
            have HB10 : Hid (Below w.heap.size w w10) := HB1.out.trans (htp10.pool.below0.mono HB1.out.size)
            clear htp10 hk10
            go_wp2_with fail
            refine HOP.out.mono ?_
            rintro e w11 ⟨q2, K2, rfl, hq2, hb11⟩
            rw [du_sh.1, du_sh.2] at hq2
            have HQ2 := Lib.hid hq2
            have HI1 : Hid (IsInts .i64 w11 (.slice bb (P.all 192 ws ws.length).length bc) (P.all 192 ws ws.length)) := IsInts.of_own (owns_below HROW10.out hb11) (all_wf (by decide) ws HST.out.good.most _ (Nat.le_refl _))
            have HI2 : Hid (IsInts .i64 w11 (.slice vb (P.all 192 ws8 ws8.length).length vc) (P.all 192 ws8 ws8.length)) := IsInts.of_own (owns_below HROWC.out hb11) (all_wf (by decide) ws8 HLA.out.2.2.2.2.1.most _ (Nat.le_refl _))
            have HB11 : Hid (Below w.heap.size w w11) := HB10.out.trans (hb11.mono HB10.out.size)
            have HHE := Lib.hid (r_held hq2)
            rw [zeros_count] at HHE
            clear hq2 hb11
            go_wp2_with fail
            refine HHE.out.mono ?_
            rintro e w12 ⟨rfl, hb12⟩
            have HB12 := Lib.hid hb12
            have HA12 := Lib.hid (r_all (HQ2.out.below hb12) HSK.out)
            clear hb12
            go_wp2_with fail
            refine HA12.out.mono ?_
            rintro e w13 ⟨A13, c13, rfl, hi13, hb13⟩
            have HI13 := Lib.hid hi13
            have hl13 := IsInts.len' hi13
            have HB13 : Hid (Below w11.heap.size w11 w13) := HB12.out.trans (hb13.mono HB12.out.size)
            have HBF : Hid (Below w.heap.size w w13) := HB11.out.trans (HB13.out.mono HB11.out.size)
            have HRS := Lib.hid (P.all_rising 192 (tableOf (d8.crash zs)) _ (Nat.le_refl _))
            have HRB := Lib.hid (P.all_rising 192 ws _ (Nat.le_refl _))
            have HWL := Lib.hid HST.out.wl
            have hcases := HLA.out.2.2.2.2.2
            dsimp only at hcases
            clear hi13 hb13
            rcases hcases with ⟨rfl | rfl, hT8⟩ | ⟨rfl, hws, h1, h2, hbut⟩
            · rw [hT8] at HI13 hl13 ⊢
              have HSI := Lib.hid (ints_same HI13.out (HI2.out.below HB13.out))
              go_wp2_with fail
              refine HSI.out.mono ?_
              rintro e w14 ⟨rfl, m14, rfl⟩
              go_wp2
              go_ret
              exact ⟨rfl, below_drewN' HBF.out _⟩
            · rw [hT8] at HI13 hl13 ⊢
              have HSI := Lib.hid (ints_same HI13.out (HI2.out.below HB13.out))
              go_wp2_with fail
              refine HSI.out.mono ?_
              rintro e w14 ⟨rfl, m14, rfl⟩
              go_wp2
              go_ret
              exact ⟨rfl, below_drewN' HBF.out _⟩
            · rw [hws] at HI2 ⊢
              have HSI := Lib.hid (ints_same (HI2.out.below HB13.out) (HI1.out.below HB13.out))
              rw [h2] at HI13 HRS hl13 ⊢
              have hbut2 := rising_but x HRS.out (by have := HRB.out; rw [HWL.out] at this; exact this) hbut
              have hc1 := rising_count x HRS.out
              have HX1 := Lib.hid (HI1.out.below HB13.out)
              rw [HWL.out] at HX1 HSI ⊢
              go_wp2_with fail
              refine HSI.out.mono ?_
              rintro e w14 ⟨rfl, m14, rfl⟩
              go_wp2_with fail
              have hlB : (P.all 192 ws 2).length ≤ bc ∧ bc ≤ maxLen := ⟨(IsInts.len' HX1.out).2.1, hbc2⟩
              have hlZ := hl13.2
              unfold maxLen at hlB hlZ
              clear hl13 hbut h1 h2 hws
              generalize P.all 192 (tableOf (d8.crash zs)) 2 = Z at *
              generalize P.all 192 ws 2 = B at *
              go_loopw [23, 198] (fun cv kv wr => ∃ j : Nat, j ≤ Z.length ∧ kv = .int .i64 j ∧ cv = .int .i64 ((Z.take j).count x : Nat) ∧ Below w13.heap.size w13 wr) (fun _ kv _ => Z.length - (intOf kv).toNat)
              case atStart => exact ⟨0, Nat.zero_le _, rfl, by simp, below_drewN' (Below.refl _ _) _⟩
              case round =>
                obtain ⟨j1, hj1, rfl, rfl, hbw⟩ := hrel
                have HBW := Lib.hid hbw
                by_cases hlt1 : j1 < Z.length
                · obtain ⟨zb, zo, rfl, -, -, -, hcz⟩ := (HI13.out.below hbw).at6 (i := j1) hlt1
                  have HCT := Lib.hid (count_take7 x Z hlt1)
                  have hcle : (Z.take j1).count x ≤ j1 := Nat.le_trans List.count_le_length (by rw [List.length_take]; omega)
                  generalize Z.getD j1 0 = y at *
                  generalize (Z.take j1).count x = c1 at *
                  clear hbw
                  by_cases hyx : y = x
                  · rw [if_pos hyx] at HCT
                    subst hyx
                    go_wp2
                    go_roundw
                    case rel => exact ⟨j1 + 1, by omega, by go_num, by rw [HCT.out]; go_num, HBW.out⟩
                    case measure => simp [intOf]; omega
                  · have hb : ((y : Int) == x) = false := by simp [hyx]
                    rw [if_neg hyx] at HCT
                    go_wp2
                    go_roundw
                    case rel => exact ⟨j1 + 1, by omega, by go_num, by rw [HCT.out]; rfl, HBW.out⟩
                    case measure => simp [intOf]; omega
                · obtain rfl : j1 = Z.length := by omega
                  have hclz : Z.count x ≤ Z.length := List.count_le_length
                  rw [List.take_length]
                  clear hbw
                  go_wp2_with fail
                  go_loopw [26, 210] (fun cv kv wr => ∃ j : Nat, j ≤ B.length ∧ kv = .int .i64 j ∧ cv = .int .i64 ((B.take j).count x : Nat) ∧ Below w13.heap.size w13 wr) (fun _ kv _ => B.length - (intOf kv).toNat)
                  case atStart => exact ⟨0, Nat.zero_le _, rfl, by simp, HBW.out⟩
                  case round =>
                    obtain ⟨j2, hj2, rfl, rfl, hbw2⟩ := hrel
                    have HBW2 := Lib.hid hbw2
                    by_cases hlt2 : j2 < B.length
                    · obtain ⟨zb, zo, rfl, -, -, -, hcz⟩ := (HX1.out.below hbw2).at6 (i := j2) hlt2
                      have HCT := Lib.hid (count_take7 x B hlt2)
                      have hcle : (B.take j2).count x ≤ j2 := Nat.le_trans List.count_le_length (by rw [List.length_take]; omega)
                      generalize B.getD j2 0 = y at *
                      generalize (B.take j2).count x = c1 at *
                      clear hbw2
                      by_cases hyx : y = x
                      · rw [if_pos hyx] at HCT
                        subst hyx
                        go_wp2
                        go_roundw
                        case rel => exact ⟨j2 + 1, by omega, by go_num, by rw [HCT.out]; go_num, HBW2.out⟩
                        case measure => simp [intOf]; omega
                      · have hb : ((y : Int) == x) = false := by simp [hyx]
                        rw [if_neg hyx] at HCT
                        go_wp2
                        go_roundw
                        case rel => exact ⟨j2 + 1, by omega, by go_num, by rw [HCT.out]; rfl, HBW2.out⟩
                        case measure => simp [intOf]; omega
                    · obtain rfl : j2 = B.length := by omega
                      have hclb : B.count x ≤ B.length := List.count_le_length
                      rw [List.take_length]
                      clear hbw2
                      have HBE : Hid (Below w.heap.size w wr) := HBF.out.trans (HBW2.out.mono HBF.out.size)
                      generalize Z.count x = c1 at *
                      generalize B.count x = c2 at *
                      have hq1 : wrap64 ((Z.length : Int) - (c1 : Int)) = (Z.length : Int) - (c1 : Int) := IntWalk.wrap64_in _ (by omega)
                      have hq2 : wrap64 ((B.length : Int) - (c2 : Int)) = (B.length : Int) - (c2 : Int) := IntWalk.wrap64_in _ (by omega)
                      have hd1 : (Z.length : Int) - (c1 : Int) = (B.length : Int) - (c2 : Int) := by omega
                      have hd2 : decide ((c1 : Int) ≤ 1) = true := by simp; omega
                      go_wp2
                      go_ret
                      first
                        | exact ⟨rfl, HBE.out⟩
                        | exact ⟨by simp [hd1, hd2], HBE.out⟩
                        | exact ⟨by simp; omega, HBE.out⟩
          · go_wp2_with fail
            refine HTD.out.mono ?_
            rintro e w8 ⟨d8, ws8, xs8, er, rfl, htp8, hk8, hla⟩
            have HROW8 : Hid (RowI W1 (.slice bb (P.all 192 ws ws.length).length bc) (P.all 192 ws ws.length) w8) := owns_keep HROW7.out (fun k hk => hk8 k (List.mem_append_right _ (List.mem_append_left _ hk)))
            have HA8 := Lib.hid (t_all htp8 HSK.out)
            have har : allRight (tableOf (d8.crash zs)) = true ∧ (tableOf (d8.crash zs)).length = 2 := by
              rcases hla.2.2.2.2.2 with ⟨_, h⟩ | ⟨_, _, h1, h2, _⟩
              · rw [h]; exact ⟨good_right hla.2.2.2.2.1, hla.2.2.2.1⟩
              · exact ⟨h1, h2⟩
            have HAR := Lib.hid har
            have HLA := Lib.hid hla
            clear htp8 hk8 hla har
            go_wp2_with fail
            refine HA8.out.mono ?_
            rintro e w9 ⟨hv, rfl, htp9, hrow9, hk9⟩
            have HROW9 : Hid (RowI W1 (.slice bb (P.all 192 ws ws.length).length bc) (P.all 192 ws ws.length) w9) := owns_keep HROW8.out (fun k hk => hk9 k (List.mem_append_right _ (List.mem_append_left _ hk)))
            have HROWB := Lib.hid hrow9
            obtain ⟨vb, vc, rfl, hvc1, hvc2⟩ := owns_form hrow9
            have HC := Lib.hid (t_crash htp9 PA pn pc zs (HPS.out.below HB1.out) (fun h b e => Nat.lt_of_lt_of_le (HPA.out h b e) HB1.out.size) (by have h := HLA.out.2.2.1; dsimp only at h; omega))
            clear htp9 hrow9 hk9
            go_wp2_with fail
            refine HC.out.mono ?_
            rintro e w10 ⟨rfl, htp10, hk10⟩
            have HROW10 : Hid (RowI W1 (.slice bb (P.all 192 ws ws.length).length bc) (P.all 192 ws ws.length) w10) := owns_keep HROW9.out (fun k hk => hk10 k (List.mem_append_right _ (List.mem_append_right _ (List.mem_append_left _ hk))))
            have HROWC : Hid (RowI W1 (.slice vb (P.all 192 ws8 ws8.length).length vc) (P.all 192 ws8 ws8.length) w10) := owns_keep HROWB.out (fun k hk => hk10 k (List.mem_append_right _ (List.mem_append_left _ hk)))
            have HOP := Lib.hid (t_open htp10 HT1.out HG1.out (by show (-1 : Int) ≠ 0; decide) (by rw [HLA.out.1]) HLA.out.2.1 HAR.out.1)
            have HB10 : Hid (Below w.heap.size w w10) := HB1.out.trans (htp10.pool.below0.mono HB1.out.size)
            clear htp10 hk10
            go_wp2_with fail
            refine HOP.out.mono ?_
            rintro e w11 ⟨q2, K2, rfl, hq2, hb11⟩
            rw [du_sh.1, du_sh.2] at hq2
            have HQ2 := Lib.hid hq2
            have HI1 : Hid (IsInts .i64 w11 (.slice bb (P.all 192 ws ws.length).length bc) (P.all 192 ws ws.length)) := IsInts.of_own (owns_below HROW10.out hb11) (all_wf (by decide) ws HST.out.good.most _ (Nat.le_refl _))
            have HI2 : Hid (IsInts .i64 w11 (.slice vb (P.all 192 ws8 ws8.length).length vc) (P.all 192 ws8 ws8.length)) := IsInts.of_own (owns_below HROWC.out hb11) (all_wf (by decide) ws8 HLA.out.2.2.2.2.1.most _ (Nat.le_refl _))
            have HB11 : Hid (Below w.heap.size w w11) := HB10.out.trans (hb11.mono HB10.out.size)
            have HHE := Lib.hid (r_held hq2)
            rw [zeros_count] at HHE
            clear hq2 hb11
            go_wp2_with fail
            refine HHE.out.mono ?_
            rintro e w12 ⟨rfl, hb12⟩
            have HB12 := Lib.hid hb12
            have HA12 := Lib.hid (r_all (HQ2.out.below hb12) HSK.out)
            clear hb12
            go_wp2_with fail
            refine HA12.out.mono ?_
            rintro e w13 ⟨A13, c13, rfl, hi13, hb13⟩
            have HI13 := Lib.hid hi13
            have hl13 := IsInts.len' hi13
            have HB13 : Hid (Below w11.heap.size w11 w13) := HB12.out.trans (hb13.mono HB12.out.size)
            have HBF : Hid (Below w.heap.size w w13) := HB11.out.trans (HB13.out.mono HB11.out.size)
            have HRS := Lib.hid (P.all_rising 192 (tableOf (d8.crash zs)) _ (Nat.le_refl _))
            have HRB := Lib.hid (P.all_rising 192 ws _ (Nat.le_refl _))
            have HWL := Lib.hid HST.out.wl
            have hcases := HLA.out.2.2.2.2.2
            dsimp only at hcases
            clear hi13 hb13
            rcases hcases with ⟨rfl | rfl, hT8⟩ | ⟨rfl, hws, h1, h2, hbut⟩
            · rw [hT8] at HI13 hl13 ⊢
              have HSI := Lib.hid (ints_same HI13.out (HI2.out.below HB13.out))
              go_wp2_with fail
              refine HSI.out.mono ?_
              rintro e w14 ⟨rfl, m14, rfl⟩
              go_wp2
              go_ret
              exact ⟨rfl, below_drewN' HBF.out _⟩
            · rw [hT8] at HI13 hl13 ⊢
              have HSI := Lib.hid (ints_same HI13.out (HI2.out.below HB13.out))
              go_wp2_with fail
              refine HSI.out.mono ?_
              rintro e w14 ⟨rfl, m14, rfl⟩
              go_wp2
              go_ret
              exact ⟨rfl, below_drewN' HBF.out _⟩
            · rw [hws] at HI2 ⊢
              have HSI := Lib.hid (ints_same (HI2.out.below HB13.out) (HI1.out.below HB13.out))
              rw [h2] at HI13 HRS hl13 ⊢
              have hbut2 := rising_but x HRS.out (by have := HRB.out; rw [HWL.out] at this; exact this) hbut
              have hc1 := rising_count x HRS.out
              have HX1 := Lib.hid (HI1.out.below HB13.out)
              rw [HWL.out] at HX1 HSI ⊢
              go_wp2_with fail
              refine HSI.out.mono ?_
              rintro e w14 ⟨rfl, m14, rfl⟩
              go_wp2_with fail
              have hlB : (P.all 192 ws 2).length ≤ bc ∧ bc ≤ maxLen := ⟨(IsInts.len' HX1.out).2.1, hbc2⟩
              have hlZ := hl13.2
              unfold maxLen at hlB hlZ
              clear hl13 hbut h1 h2 hws
              generalize P.all 192 (tableOf (d8.crash zs)) 2 = Z at *
              generalize P.all 192 ws 2 = B at *
              go_loopw [23, 198] (fun cv kv wr => ∃ j : Nat, j ≤ Z.length ∧ kv = .int .i64 j ∧ cv = .int .i64 ((Z.take j).count x : Nat) ∧ Below w13.heap.size w13 wr) (fun _ kv _ => Z.length - (intOf kv).toNat)
              case atStart => exact ⟨0, Nat.zero_le _, rfl, by simp, below_drewN' (Below.refl _ _) _⟩
              case round =>
                obtain ⟨j1, hj1, rfl, rfl, hbw⟩ := hrel
                have HBW := Lib.hid hbw
                by_cases hlt1 : j1 < Z.length
                · obtain ⟨zb, zo, rfl, -, -, -, hcz⟩ := (HI13.out.below hbw).at6 (i := j1) hlt1
                  have HCT := Lib.hid (count_take7 x Z hlt1)
                  have hcle : (Z.take j1).count x ≤ j1 := Nat.le_trans List.count_le_length (by rw [List.length_take]; omega)
                  generalize Z.getD j1 0 = y at *
                  generalize (Z.take j1).count x = c1 at *
                  clear hbw
                  by_cases hyx : y = x
                  · rw [if_pos hyx] at HCT
                    subst hyx
                    go_wp2
                    go_roundw
                    case rel => exact ⟨j1 + 1, by omega, by go_num, by rw [HCT.out]; go_num, HBW.out⟩
                    case measure => simp [intOf]; omega
                  · have hb : ((y : Int) == x) = false := by simp [hyx]
                    rw [if_neg hyx] at HCT
                    go_wp2
                    go_roundw
                    case rel => exact ⟨j1 + 1, by omega, by go_num, by rw [HCT.out]; rfl, HBW.out⟩
                    case measure => simp [intOf]; omega
                · obtain rfl : j1 = Z.length := by omega
                  have hclz : Z.count x ≤ Z.length := List.count_le_length
                  rw [List.take_length]
                  clear hbw
                  go_wp2_with fail
                  go_loopw [26, 210] (fun cv kv wr => ∃ j : Nat, j ≤ B.length ∧ kv = .int .i64 j ∧ cv = .int .i64 ((B.take j).count x : Nat) ∧ Below w13.heap.size w13 wr) (fun _ kv _ => B.length - (intOf kv).toNat)
                  case atStart => exact ⟨0, Nat.zero_le _, rfl, by simp, HBW.out⟩
                  case round =>
                    obtain ⟨j2, hj2, rfl, rfl, hbw2⟩ := hrel
                    have HBW2 := Lib.hid hbw2
                    by_cases hlt2 : j2 < B.length
                    · obtain ⟨zb, zo, rfl, -, -, -, hcz⟩ := (HX1.out.below hbw2).at6 (i := j2) hlt2
                      have HCT := Lib.hid (count_take7 x B hlt2)
                      have hcle : (B.take j2).count x ≤ j2 := Nat.le_trans List.count_le_length (by rw [List.length_take]; omega)
                      generalize B.getD j2 0 = y at *
                      generalize (B.take j2).count x = c1 at *
                      clear hbw2
                      by_cases hyx : y = x
                      · rw [if_pos hyx] at HCT
                        subst hyx
                        go_wp2
                        go_roundw
                        case rel => exact ⟨j2 + 1, by omega, by go_num, by rw [HCT.out]; go_num, HBW2.out⟩
                        case measure => simp [intOf]; omega
                      · have hb : ((y : Int) == x) = false := by simp [hyx]
                        rw [if_neg hyx] at HCT
                        go_wp2
                        go_roundw
                        case rel => exact ⟨j2 + 1, by omega, by go_num, by rw [HCT.out]; rfl, HBW2.out⟩
                        case measure => simp [intOf]; omega
                    · obtain rfl : j2 = B.length := by omega
                      have hclb : B.count x ≤ B.length := List.count_le_length
                      rw [List.take_length]
                      clear hbw2
                      have HBE : Hid (Below w.heap.size w wr) := HBF.out.trans (HBW2.out.mono HBF.out.size)
                      generalize Z.count x = c1 at *
                      generalize B.count x = c2 at *
                      have hq1 : wrap64 ((Z.length : Int) - (c1 : Int)) = (Z.length : Int) - (c1 : Int) := IntWalk.wrap64_in _ (by omega)
                      have hq2 : wrap64 ((B.length : Int) - (c2 : Int)) = (B.length : Int) - (c2 : Int) := IntWalk.wrap64_in _ (by omega)
                      have hd1 : (Z.length : Int) - (c1 : Int) = (B.length : Int) - (c2 : Int) := by omega
                      have hd2 : decide ((c1 : Int) ≤ 1) = true := by simp; omega
                      go_wp2
                      go_ret
                      first
                        | exact ⟨rfl, HBE.out⟩
                        | exact ⟨by simp [hd1, hd2], HBE.out⟩
                        | exact ⟨by simp; omega, HBE.out⟩
end Go.Proofs.YtaceogpdjbikiaaDoor
