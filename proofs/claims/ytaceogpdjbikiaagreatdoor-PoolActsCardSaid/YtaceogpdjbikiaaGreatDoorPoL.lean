
/- Layer 7: Open. -/
import Derived.Test.YtaceogpdjbikiaaGreatDoorPoN
import Derived.RegionTactic
import Derived.Deep.AppendLies
namespace Go.Proofs.YtaceogpdjbikiaaGreatDoor

open Go.RowKit Go.Maps

def allRight (l : List Nat) : Bool := l.all S.rgt
/-- The words of the slabs, as they stand on the device. -/
def tableOf (d : V.Dv) : List Nat := d.words 128 (V.slabs d.lines.length)
/-- What Open leaves. -/
def OpnPost (w0 : World) (p : Option Addr) (d : V.Dv) (X : List Nat) (wr : World) (e : Ending) (w' : World) : Prop :=
  Below wr.heap.size wr w' ∧ ((d.opens.2 = 0 ∧ allRight (tableOf d) = true ∧ ∃ q : Nat, e = .returned (.tuple #[.pointer (some ⟨q, 0, none⟩), .int .i64 0]) ∧ PoolK w0 (.pointer (some ⟨q, 0, none⟩)) p d (V.Sh.at d.lines.length) (tableOf d) (List.replicate (V.slabs d.lines.length) 0) X w') ∨
    ((d.opens.2 ≠ 0 ∨ allRight (tableOf d) = false) ∧ e = .returned (.tuple #[.pointer none, .int .i64 5]) ∧ DevK w0 (.pointer p) d X w'))
/-- Ahead of round k of Open's loop. -/
def OpnMid (wr : World) (P : Nat) (dv : Value) (sh : V.Sh) (T : List Nat) (k : Nat) (w : World) : Prop :=
  ∃ y, PoAt w y dv sh (T.take k) (List.replicate k 0) ∧ Qs y (T.take k) (List.replicate k 0) ∧ Good7 (T.take k) (List.replicate k 0) ∧ y.P = P ∧ (∀ q ∈ kfoot y k, wr.heap.size ≤ q) ∧ Below wr.heap.size wr w ∧ allRight (T.take k) = true
theorem allRight_not {l : List Nat} {k : Nat} (hk : k < l.length) (h : S.rgt (l.getD k 0) = false) : allRight l = false := by
  cases ha : allRight l with
  | false => rfl
  | true =>
    have := List.all_eq_true.1 ha (l.getD k 0) (by rw [List.getD_eq_getElem?_getD, List.getElem?_eq_getElem hk]; exact List.getElem_mem hk)
    rw [h] at this; cases this
theorem take_next {l : List Nat} {k : Nat} (hk : k < l.length) : l.take (k + 1) = l.take k ++ [l.getD k 0] := by
  rw [List.take_succ_eq_append_getElem hk, List.getD_eq_getElem?_getD, List.getElem?_eq_getElem hk]; rfl
section

variable {w0 wi : World} {p : Option Addr} {d : V.Dv} {X : List Nat}

theorem table_get (d : V.Dv) {k : Nat} (hk : k < V.slabs d.lines.length) : d.words (128 + 8 * (k : Int)) 1 = [(tableOf d).getD k 0] := by
  have h1 := V.words_get d 128 (V.slabs d.lines.length) k hk
  have e : (tableOf d).getD k 0 = d.load (128 + 8 * (k : Int)) := by
    unfold tableOf
    rw [List.getD_eq_getElem?_getD, h1]; rfl
  rw [e]
  show [d.load (128 + 8 * (k : Int) + 8 * ((0 : Nat) : Int))] = _
  rw [show 128 + 8 * (k : Int) + 8 * ((0 : Nat) : Int) = 128 + 8 * (k : Int) by omega]
theorem table_room {d : V.Dv} {k : Nat} (h19 : 19 ≤ d.lines.length) (hk : k < V.slabs d.lines.length) : d.room (128 + 8 * (k : Int)) (1 : Nat) = 0 := by
  have h1 := V.need_slabs (n := d.lines.length) (by omega)
  unfold V.need at h1
  exact V.room_zero.2 ⟨by omega, by omega, by omega, by omega⟩
theorem opens_cases (d : V.Dv) : (d.opens.2 = 0 ∧ d.opens.1 = V.Sh.at d.lines.length ∧ 19 ≤ d.lines.length) ∨ (d.opens.2 = 5 ∧ d.opens.1 = V.Sh.zero) := by
  unfold V.Dv.opens
  split
  · rename_i h; exact .inl ⟨rfl, rfl, h.1⟩
  · exact .inr ⟨rfl, rfl⟩
set_option maxHeartbeats 2000000 in
set_option maxRecDepth 100000 in
theorem po_open (h : DevK w0 (.pointer p) d X wi) (hleft : d.left ≠ 0) (hT : TabT w0) (hg : 0 < w0.heap.size) :
    Calls Tryz.prog 23 #[.pointer p] wi (OpnPost w0 p d X wi) := by
  have HD := Lib.hid h
  have HOP : Hid (Calls Tryz.prog 59 #[.pointer p] wi fun e w' => e = .returned (.tuple #[shV d.opens.1, .int .i64 d.opens.2]) ∧ Below wi.heap.size wi w') := (in_open h.devIn hleft hT hg).mono fun e w' ⟨a, _, b⟩ => ⟨a, b⟩
  rcases opens_cases d with ⟨ho, hsh, h19⟩ | ⟨ho, hsh⟩
  · rw [ho, hsh] at HOP
    have HLE := Lib.hid hleft
    have HO := Lib.hid ho
    clear h hleft hT hg hsh ho
    unfold shV V.Sh.at at HOP
    dsimp only at HOP
    go_enter Tryz.func23, Tryz.ntmps23
    go_wp2_with fail
    refine HOP.out.mono ?_
    rintro e w1 ⟨rfl, hb1⟩
    have HB1 := Lib.hid hb1
    clear hb1
    have hmm := @run_makeMap Tryz.prog
    have HOA := Lib.hid (OpA.start HB1.out #[.int .i64 (d.lines.length : Int), .int .i64 (V.slabs d.lines.length : Int), .int .i64 128, .int .i64 (V.dataAt d.lines.length : Int)])
    have HM1 : Hid (∀ o1 o2 : Obj, ((((w1.alloc (.cells #[.int .i64 (d.lines.length : Int), .int .i64 (V.slabs d.lines.length : Int), .int .i64 128, .int .i64 (V.dataAt d.lines.length : Int)] 60 (0, 0))).alloc (.map #[] 0)).alloc o1).alloc o2).ownsMap Tryz.prog 3 ptrElem (w1.heap.size + 1) 0 (.map [])) := fun o1 o2 => (HOA.out.map.alloc o1).alloc o2
    have HNG : Hid (d.lines.length ≤ 1024) := HD.out.devIn.good.most
    have H19 := Lib.hid h19
    clear h19
    generalize hnn : d.lines.length = N at *
    have HN63 : Hid (V.slabs N ≤ 63) := V.slabs_most HNG.out
    have HDM : Hid (V.dataAt N ≤ 1000000) := by
      show _ ≤ _
      have := HN63.out
      unfold V.dataAt; omega
    generalize hss : V.slabs N = n at *
    generalize hda : V.dataAt N = da at *
    have HNN := Lib.hid hnn; have HSS := Lib.hid hss; have HDA := Lib.hid hda
    clear hnn hss hda
    have hse : ((w1.alloc (.cells #[.int .i64 (N : Int), .int .i64 (n : Int), .int .i64 128, .int .i64 (da : Int)] 60 (0, 0))).alloc (.map #[] 0)).heap.size = w1.heap.size + 1 + 1 := by simp
    have HSE := Lib.hid hse
    clear hse
    go_wp2_with (first
      | (refine wpList_insert_own7 _ rfl _ _ _ 76 rfl 3 74 lawI Tryz.underlying76 ptrElem (w1.heap.size + 1) 0 _ rfl (HM1.out _ _) (by unfold maxLen; decide) _ _ _ rfl rfl (keyI 0 (by decide)) _ [] rfl ?_; intro wA ownA gA; have HA := Lib.hid (HOA.out.step (by rw [HSE.out]; exact ownA) (by rw [HSE.out]; exact gA)); have HM2 := Lib.hid (fun o1 o2 => (HA.out.map.alloc o1).alloc o2); clear ownA gA)
      | (refine wpList_insert_own7 _ rfl _ _ _ 76 rfl 3 74 lawI Tryz.underlying76 ptrElem (w1.heap.size + 1) 1 _ rfl (HM2.out _ _) (by unfold maxLen; decide) _ _ _ rfl rfl (keyI 1 (by decide)) _ [] rfl ?_; intro wB ownB gB; have HB := Lib.hid (HA.out.step ownB gB); have HM3 := Lib.hid (fun o1 o2 => (HB.out.map.alloc o1).alloc o2); clear ownB gB)
      | (refine wpList_insert_own7 _ rfl _ _ _ 76 rfl 3 74 lawI Tryz.underlying76 ptrElem (w1.heap.size + 1) 2 _ rfl (HM3.out _ _) (by unfold maxLen; decide) _ _ _ rfl rfl (keyI 2 (by decide)) _ [] rfl ?_; intro wC ownC gC; have HC := Lib.hid (HB.out.step ownC gC); have hsb : ∀ o : Obj, (wC.alloc o).cell? ⟨w1.heap.size, 1, none⟩ = some (.int .i64 (n : Int)) := fun o => cell_of_row _ _ 1 _ _ _ ((Below.heap_alloc _ _ _ (Array.getElem?_eq_some_iff.1 HC.out.shape).1).trans HC.out.shape); clear ownC gC)
      | fail)
    have HPO := Lib.hid (HC.out.pool (.pointer p) ⟨(N : Int), (n : Int), 128, (da : Int)⟩)
    have HNS : Hid (V.slabs d.lines.length = n) := by show _ = _; rw [HNN.out]; exact HSS.out
    have HTL : Hid ((tableOf d).length = n) := by show _ = _; rw [← HNS.out]; exact V.words_length _ _ _
    have HSH : Hid (V.Sh.at d.lines.length = ⟨(N : Int), (n : Int), 128, (da : Int)⟩) := by
      show _ = _
      rw [HNN.out]; unfold V.Sh.at; rw [HSS.out, HDA.out]
    have HOK : Hid (ShOk ⟨(N : Int), (n : Int), 128, (da : Int)⟩ da) := ⟨rfl, by have := HDM.out; omega, ⟨by show (0 : Int) ≤ 128; decide, by show (128 : Int) ≤ 1000000; decide⟩⟩
    have HGT : Hid (∀ k, k < n → d.words (128 + 8 * (k : Int)) 1 = [(tableOf d).getD k 0] ∧ d.room (128 + 8 * (k : Int)) (1 : Nat) = 0) := fun k hk => ⟨table_get d (by rw [HNS.out]; exact hk), table_room (by rw [HNN.out]; exact H19.out) (by rw [HNS.out]; exact hk)⟩
    have HST : Hid (OpnMid wi wC.heap.size (.pointer p) ⟨(N : Int), (n : Int), 128, (da : Int)⟩ (tableOf d) 0 (wC.alloc (.cells #[.pointer p, .int .i64 (N : Int), .int .i64 (n : Int), .int .i64 128, .int .i64 (da : Int), .slice none 0 0, .map (some (w1.heap.size + 1))] 78 (0, 0)))) :=
      ⟨_, HPO.out.1, HPO.out.2.1, ⟨rfl, Nat.zero_le _, fun i hi => absurd hi (Nat.not_lt_zero _)⟩, rfl, HPO.out.2.2.1, HPO.out.2.2.2, rfl⟩
    have hn63 : n ≤ 63 := HN63.out
    clear hsb
    generalize hTT : tableOf d = T at *
    have HTE := Lib.hid hTT
    clear hTT
    generalize hpg : wC.heap.size = pp at *
    clear hpg
    go_loopw [2, 3, 7, 8, 9, 32] (fun _ _ _ _ _ kv w => ∃ k : Nat, k ≤ n ∧ kv = .int .i64 k ∧ OpnMid wi pp (.pointer p) ⟨(N : Int), (n : Int), 128, (da : Int)⟩ T k w) (fun _ _ _ _ _ kv _ => n - (intOf kv).toNat)
    case atStart => exact ⟨0, Nat.zero_le _, rfl, HST.out⟩
    case round =>
      obtain ⟨k, hk, rfl, y, hp, hq, hg7, hyp, hlo, hbl, har⟩ := hrel
      have hTk : (T.take k).length = k := by rw [List.length_take, HTL.out]; omega
      have HY := Lib.hid hyp
      have HP := Lib.hid hp
      have HQ := Lib.hid hq
      have HG7 := Lib.hid hg7
      have HLO := Lib.hid hlo
      have HBL := Lib.hid hbl
      have HAR := Lib.hid har
      have HTK := Lib.hid hTk
      have HDK : Hid (DevK w0 (.pointer p) d X wr) := HD.out.newer hbl (fun _ hk => .inl hk)
      clear hp hq hg7 hyp hlo hbl har hTk
      by_cases hlt : k < n
      · have HWP : Hid (Calls Tryz.prog 61 #[.pointer (some ⟨pp, 0, none⟩), .int .i64 (k : Int)] wr fun e w' => e = .returned (.int .i64 (128 + 8 * (k : Int))) ∧ wr = w') := by
          have h := po_wordPlace HP.out HOK.out k (by omega)
          rw [HY.out] at h
          exact h
        obtain ⟨hg1, hg2⟩ := HGT.out k hlt
        have HGE : Hid (Calls Tryz.prog 60 #[.pointer p, .int .i64 (128 + 8 * (k : Int)), .int .i64 1] wr fun e w' => ∃ v, e = .returned (.tuple #[v, .int .i64 0]) ∧ NewWords wr [T.getD k 0] v w') := by
          refine (in_get HDK.out.devIn (128 + 8 * (k : Int)) ⟨by omega, by omega⟩ 1 (by omega) hg2 HLE.out).mono ?_
          rintro e w' ⟨v, he, hn, _⟩
          rw [hg1] at hn
          exact ⟨v, he, hn⟩
        have HTN : Hid (T.take (k + 1) = T.take k ++ [T.getD k 0]) := take_next (by rw [HTL.out]; exact hlt)
        have HTR : Hid (S.rgt (T.getD k 0) = false → allRight T = false) := fun h => allRight_not (by rw [HTL.out]; exact hlt) h
        clear hg1 hg2
        generalize hlg : T.getD k 0 = l0 at *
        clear hlg
        go_wp2_with fail
        refine HWP.out.mono ?_
        rintro e w2 ⟨rfl, rfl⟩
        go_wp2_with fail
        refine HGE.out.mono ?_
        rintro e w2 ⟨v, rfl, ga, rfl, hga, hwa, hba, hla⟩
        obtain ⟨b, o, x, hbo, hx0, hx64, hcx⟩ := hwa.get 0 (by simp)
        simp only [Option.some.injEq, Addr.mk.injEq, and_true] at hbo
        obtain ⟨rfl, rfl⟩ := hbo
        simp only [List.getElem?_cons_zero, Option.some.injEq] at hx0
        obtain rfl := hx0
        have HRG : Hid (∀ W : World, Calls Tryz.prog 62 #[.int .u64 (l0 : Int)] W fun e w' => e = .returned (.bool (S.rgt l0)) ∧ ∃ m, w' = W.drewN m) := fun W => sl_right l0 W hx64
        have HB2 : Hid (Below wi.heap.size wi w2) := HBL.out.trans (hba.mono HBL.out.size)
        have HP2 := Lib.hid (HP.out.below hba)
        have HX64 : Hid (l0 < 2 ^ 64) := hx64
        have hcx0 : w2.cell? ⟨ga, 0, none⟩ = some (.int .u64 (l0 : Int)) := hcx
        have hgl : ga < w2.heap.size := hla
        clear hga hwa hba hla hcx hx64
        cases hr : S.rgt l0 with
        | false =>
          rw [hr] at HRG
          have HPX : Hid (∀ m, OpnPost w0 p d X wi (.returned (.tuple #[.pointer none, .int .i64 5])) (w2.drewN m)) := fun m =>
            ⟨below_drewN' HB2.out m, .inr ⟨.inr (by rw [HTE.out]; exact HTR.out hr), rfl, (HD.out.newer HB2.out (fun _ hk => .inl hk)).drewN m⟩⟩
          clear hr hgl
          go_wp2_with fail
          refine (HRG.out _).mono ?_
          rintro e w3 ⟨rfl, m3, rfl⟩
          go_wp2
          go_ret2
          exact HPX.out _
        | true =>
          rw [hr] at HRG
          have HRT := Lib.hid hr
          clear hr
          obtain ⟨A, cap, hsv, hc1, hc2, _⟩ := HP2.out.sl
          rw [HTK.out] at hsv hc1
          have HSV := Lib.hid hsv
          obtain ⟨i0, hi, hz0, hz1, hz2⟩ := info_parts info_stock
          have HALL : Hid (∀ m (w4 : World) (g2 cap2 : Nat), (((w2.drewN m).alloc (stkObj k l0)).alloc (ptrObj (w2.drewN m).heap.size)).drew.grownBy w4 (Value.slice A k cap).ownBlock →
              w4.ownsRow 0 73 1 (.slice (some ⟨g2, 0, none⟩) (k + 1) cap2) (k + 1) ((List.range k).map (sptr y.S) ++ [.pointer (some ⟨(w2.drewN m).heap.size, 0, none⟩)]) →
              ((Value.slice A k cap).ownBlock = some g2 ∨ g2 = (((w2.drewN m).alloc (stkObj k l0)).alloc (ptrObj (w2.drewN m).heap.size)).drew.heap.size) →
              (w4.cell? ⟨pp, 5, none⟩ = some (.slice A k cap) ∧ w4.frozen? ⟨pp, 5, none⟩ = false) ∧ (w4.setCell ⟨pp, 5, none⟩ (.slice (some ⟨g2, 0, none⟩) (k + 1) cap2)).cell? ⟨g2, k, none⟩ = some (.pointer (some ⟨(w2.drewN m).heap.size, 0, none⟩)) ∧ k + 1 ≤ cap2 ∧ cap2 ≤ maxLen ∧
              Calls Tryz.prog 36 #[.pointer (some ⟨pp, 0, none⟩), .pointer (some ⟨(w2.drewN m).heap.size, 0, none⟩)] (w4.setCell ⟨pp, 5, none⟩ (.slice (some ⟨g2, 0, none⟩) (k + 1) cap2)) fun e w' => e = .returned (.tuple #[]) ∧ OpnMid wi pp (.pointer p) ⟨(N : Int), (n : Int), 128, (da : Int)⟩ T (k + 1) w') := by
            intro m w4 g2 cap2 hg4 ho4 ha4
            have hp2 := HP2.out.drewN m
            rw [← HSV.out] at hg4 ha4 ⊢
            have h1 := slab_ahead hp2 hg4
            rw [HY.out] at h1
            have hxl : (List.replicate k 0).length = (T.take k).length := by rw [List.length_replicate, HTK.out]
            have hlo2 := HLO.out
            have key := fun (t : Nat) => @slab_behind wi (w2.drewN m) w4 y (.pointer p) ⟨(N : Int), (n : Int), 128, (da : Int)⟩ (T.take k) (List.replicate k 0) hp2 hxl HQ.out t g2 cap2
            rw [HTK.out, HY.out] at key
            obtain ⟨b1, b2, b3, b4⟩ := key l0 hlo2 (below_drewN' HB2.out m) hg4 ho4 ha4
            have hr1 : List.replicate k 0 ++ [0] = List.replicate (k + 1) 0 := by rw [List.replicate_succ']
            rw [← HTN.out, hr1] at b1 b2
            have hg9 : Good7 (T.take (k + 1)) (List.replicate (k + 1) 0) := by
              have h := HG7.out.grow (t := l0) (by rw [HTK.out]; omega) HRT.out
              rw [← HTN.out, hr1] at h
              exact h
            have hTk1 : (T.take (k + 1)).length = k + 1 := by rw [List.length_take, HTL.out]; omega
            refine ⟨⟨h1.1, h1.2.1⟩, ?_, ?_⟩
            · obtain ⟨A', cap', e1, _, _, hcell⟩ := b1.sl
              obtain ⟨gg, hgg, hcc⟩ := hcell k (by rw [hTk1]; omega)
              simp only [Value.slice.injEq] at e1
              rw [hgg] at e1
              simp only [Option.some.injEq, Addr.mk.injEq, and_true] at e1
              rw [← e1.1] at hcc
              rw [hcc]
              show some (Value.pointer (some ⟨upd y.S k (w2.drewN m).heap.size k, 0, none⟩)) = _
              rw [upd_same]
            · obtain ⟨_, _, e1, e2, e3⟩ := owns_form ho4
              simp only [Value.slice.injEq] at e1
              refine ⟨by omega, by omega, ?_⟩
              have h3 := po_offer b1 hg9 (i := k) (by rw [hTk1]; omega) b2
              have e9 : sptr (upd y.S k (w2.drewN m).heap.size) k = .pointer (some ⟨(w2.drewN m).heap.size, 0, none⟩) := by
                show Value.pointer (some ⟨upd y.S k (w2.drewN m).heap.size k, 0, none⟩) = _
                rw [upd_same]
              dsimp only at h3
              rw [e9] at h3
              refine h3.mono ?_
              rintro e w' ⟨he, y', q1, q2, q3, q4, q5, q6⟩
              rw [hTk1] at q5 q6
              refine ⟨he, y', q1, q2, hg9, q3, fun q hq => ?_, b4.trans (q5.below b4.size b3), ?_⟩
              · rcases q6 q hq with e | e
                · exact b3 q e
                · exact Nat.le_trans b4.size e
              · rw [HTN.out]
                unfold allRight
                rw [List.all_append, Bool.and_eq_true]
                exact ⟨HAR.out, by simp [HRT.out]⟩
          have hppl : pp < w2.heap.size := by rw [← HY.out]; exact (Array.getElem?_eq_some_iff.1 HP2.out.row).1
          have HPPL := Lib.hid hppl
          have HC5 : Hid (w2.cell? ⟨pp, 5, none⟩ = some (.slice A k cap)) := by
            have h := HP2.out.c5
            rw [HY.out, HSV.out] at h
            exact h
          have HCX := Lib.hid hcx0
          have HGL := Lib.hid hgl
          have HO3 : Hid (∀ m (o1 o2 : Obj), (((w2.drewN m).alloc o1).alloc o2).ownsRow 0 73 1 (.slice A k cap) k ((List.range k).map (sptr y.S))) := fun m o1 o2 => by
            have h := (HP2.out.drewN m).slabs
            rw [HTK.out, HSV.out] at h
            exact (h.alloc o1).alloc o2
          have hm1 : k + 1 ≤ maxLen := by unfold maxLen; omega
          have hm2 : (k + 1) * 8 ≤ 140737488355328 := by omega
          clear hgl hppl hsv
          go_wp2_with fail
          refine (HRG.out _).mono ?_
          rintro e w3 ⟨rfl, m3, hw3⟩
          have hc5 : w3.cell? ⟨pp, 5, none⟩ = some (.slice A k cap) := by rw [hw3]; exact HC5.out
          have hcx : w3.cell? ⟨ga, 0, none⟩ = some (.int .u64 (l0 : Int)) := by rw [hw3]; exact HCX.out
          have HS3 : Hid (w3.heap.size = w2.heap.size) := by rw [hw3]; rfl
          have hc5a : ∀ o : Obj, (w3.alloc o).cell? ⟨pp, 5, none⟩ = some (.slice A k cap) := fun o => (World.cell?_of_block (w := w3) (a := ⟨pp, 5, none⟩) (Below.heap_alloc _ _ _ (by rw [HS3.out]; exact HPPL.out))).trans hc5
          have hcxa : ∀ o : Obj, (w3.alloc o).cell? ⟨ga, 0, none⟩ = some (.int .u64 (l0 : Int)) := fun o => (World.cell?_of_block (w := w3) (a := ⟨ga, 0, none⟩) (Below.heap_alloc _ _ _ (by rw [HS3.out]; exact HGL.out))).trans hcx
          have hc5b : ∀ o o2 : Obj, ((w3.alloc o).alloc o2).cell? ⟨pp, 5, none⟩ = some (.slice A k cap) := fun o o2 => (World.cell?_of_block (w := w3.alloc o) (a := ⟨pp, 5, none⟩) (Below.heap_alloc _ _ _ (by have := HPPL.out; have := HS3.out; simp; omega))).trans (hc5a o)
          have HO4 : Hid (∀ o1 o2 : Obj, ((w3.alloc o1).alloc o2).ownsRow 0 73 1 (.slice A k cap) k ((List.range k).map (sptr y.S))) := fun o1 o2 => by rw [hw3]; exact HO3.out _ _ _
          have HPB : Hid (∀ o1 o2 : Obj, ((w3.alloc o1).alloc o2).heap[w3.heap.size + 1]? = some o2) := fun o1 o2 => by
            have h := heap_alloc_new (w3.alloc o1) o2
            have e : (w3.alloc o1).heap.size = w3.heap.size + 1 := by simp
            rw [e] at h; exact h
          have HALL4 := HALL.out m3
          rw [← hw3] at HALL4
          have HALL5 := Lib.hid HALL4
          clear hw3 HALL4
          generalize (List.range k).map (sptr y.S) = svs at *
          unfold stkObj ptrObj at HALL5
          go_wp2_with fail
          go_region_law (refine step_append_lies _ rfl (.tmp 55) (.tmp 62) 75 rfl 0 73 i0 _ 1 8 Tryz.underlying75 hi hz0 hz1 hz2 rfl (by decide) _ k svs (by simp [Act.eval]; rfl) (by exact HO4.out _ _) _ 1 1 [.pointer (some ⟨w3.heap.size, 0, none⟩)] (by simp [Act.eval]; rfl) rfl (World.news_of_block (by exact HPB.out _ _)) (by simp [Value.oneCell']) (by decide) hm1 hm2 (Nat.zero_le _) _ rfl ?_; intro g2 cap2 w4 o4 gr4 at4 lt4; have hall := HALL5.out w4 g2 cap2 gr4 o4 at4; have hcq := hall.1.1; have hcf := hall.1.2; have hgk := hall.2.1; have hk1 := hall.2.2.1; have hk2 := hall.2.2.2.1; have HOF := Lib.hid hall.2.2.2.2; clear gr4 o4 at4 hall)
          all_goals
            go_wp2_with fail
            refine HOF.out.mono ?_
            rintro e w5 ⟨rfl, hmid⟩
            have HMID := Lib.hid hmid
            clear hmid
            go_wp2
            go_roundw
            case rel => exact ⟨k + 1, by omega, by go_num, HMID.out⟩
            case measure => simp [intOf]; omega
      · obtain rfl : k = n := by omega
        have HPX : Hid (OpnPost w0 p d X wi (.returned (.tuple #[.pointer (some ⟨pp, 0, none⟩), .int .i64 0])) wr) := by
          refine ⟨HBL.out, .inl ⟨HO.out, ?_, pp, rfl, ?_⟩⟩
          · have h := HAR.out
            rw [List.take_of_length_le (by rw [HTL.out]; exact Nat.le_refl _)] at h
            rw [HTE.out]; exact h
          · have hfull : T.take k = T := List.take_of_length_le (by rw [HTL.out]; exact Nat.le_refl _)
            have hp := HP.out; have hq := HQ.out; have hg7 := HG7.out
            rw [hfull] at hp hq hg7
            have hxl : ∀ q ∈ X, q < wi.heap.size := by obtain ⟨_, _, _, _, h⟩ := HD.out; exact fun q hq => (h q hq).2
            have hlk := hp.lt
            rw [HTL.out] at hlk
            rw [HSH.out, HTE.out, HNS.out]
            refine ⟨y, by rw [HY.out], hp, hq, hg7, ?_, fun q hqx hm => ?_, fun q hm => ?_⟩
            · rw [HTL.out]
              refine HD.out.newer HBL.out (fun q hq => ?_)
              rcases List.mem_append.1 hq with e | e
              · exact .inl e
              · exact .inr ⟨HLO.out q e, hlk q e⟩
            · rw [HTL.out] at hm
              have h1 := HLO.out q hm
              have h2 := hxl q hqx; omega
            · rw [HTL.out] at hm
              exact Nat.le_trans HD.out.devIn.below.size (HLO.out q hm)
        go_wp2
        go_ret2
        exact HPX.out
  · rw [ho, hsh] at HOP
    have HP : Hid (∀ w1, Below wi.heap.size wi w1 → OpnPost w0 p d X wi (.returned (.tuple #[.pointer none, .int .i64 5])) w1) := fun w1 hb => ⟨hb, .inr ⟨.inl (by rw [ho]; decide), rfl, HD.out.newer hb (fun _ hk => .inl hk)⟩⟩
    have HB0 : Hid (∀ w1, Below wi.heap.size wi w1 → ∀ o, Below wi.heap.size wi (w1.alloc o)) := fun w1 hb o => hb.alloc hb.size o
    clear h hleft hT hg hsh ho
    unfold shV V.Sh.zero at HOP
    dsimp only at HOP
    go_enter Tryz.func23, Tryz.ntmps23
    go_wp2_with fail
    refine HOP.out.mono ?_
    rintro e w1 ⟨rfl, hb1⟩
    have HB1 := Lib.hid hb1
    clear hb1
    go_wp2
    go_ret2
    exact HP.out _ (HB0.out _ HB1.out _)
end

end Go.Proofs.YtaceogpdjbikiaaGreatDoor
