
/- Layer 7: Reserve, the walk. -/
import Derived.Test.YtaceogpdjbikiaaGreatDoorPoH
namespace Go.Proofs.YtaceogpdjbikiaaGreatDoor

open Go.RowKit

section

variable {w : World} {y : Lay} {sh : V.Sh} {ws xs : List Nat} {a : Addr} {da : Nat}

/-- Ahead of round k of Reserve's loop. -/
def RsvMid (w : World) (y : Lay) (dv : Value) (sh : V.Sh) (ws xs : List Nat) (c k : Nat) (wr : World) : Prop :=
  ∃ y', PoAt wr y' dv sh ws xs ∧ Qs y' ws xs ∧ y'.P = y.P ∧ y'.S = y.S ∧ Only (kfoot y ws.length) w wr ∧ (∀ q ∈ kfoot y' ws.length, q ∈ kfoot y ws.length ∨ w.heap.size < q) ∧
    wr.heap[w.heap.size]? = some (.cells #[.int .i64 (c : Int), .int .i64 0] 3 (0, 0)) ∧ (1 ≤ k → ∀ i, i < ws.length → room (used ws xs i) (c : Int) = false) ∧ (2 ≤ k → ∀ i, i < ws.length → room (used ws xs i) ((0 : Nat) : Int) = false)
theorem pick_yes {ws xs : List Nat} (hg : Good7 ws xs) {c : Nat} (hc : c = 1 ∨ c = 2) {s : Nat} (hs : s < ws.length) (hr : room (used ws xs s) (c : Int) = true) (hm : ∀ i, i < ws.length → room (used ws xs i) (c : Int) = true → s ≤ i) :
    P.pick (c : Int) (both ws xs) = some s ∧ (P.fits (c : Int) (used ws xs s) = true ∨ used ws xs s = 0) := by
  rw [room_fits (hg.right hs) hc] at hr
  have h := findIdx_first (f := P.fits (c : Int)) hs hr (fun i hi h => hm i hi (by rw [room_fits (hg.right hi) hc]; exact h))
  unfold P.pick
  rw [h]
  exact ⟨rfl, .inl hr⟩
theorem pick_free {ws xs : List Nat} (hg : Good7 ws xs) {c : Nat} (hc : c = 1 ∨ c = 2) (hno : ∀ i, i < ws.length → room (used ws xs i) (c : Int) = false) {s : Nat} (hs : s < ws.length) (hr : room (used ws xs s) ((0 : Nat) : Int) = true) (hm : ∀ i, i < ws.length → room (used ws xs i) ((0 : Nat) : Int) = true → s ≤ i) :
    P.pick (c : Int) (both ws xs) = some s ∧ (P.fits (c : Int) (used ws xs s) = true ∨ used ws xs s = 0) := by
  have h1 := findIdx_no (f := P.fits (c : Int)) (ws := ws) (xs := xs) (fun i hi => by rw [← room_fits (hg.right hi) hc]; exact hno i hi)
  rw [room_zero7 (hg.right hs)] at hr
  have h := findIdx_first (f := fun u => decide (u = 0)) hs hr (fun i hi h => hm i hi (by rw [room_zero7 (hg.right hi)]; exact h))
  unfold P.pick
  rw [h1]
  exact ⟨h, .inr (of_decide_eq_true hr)⟩
theorem pick_no {ws xs : List Nat} (hg : Good7 ws xs) {c : Nat} (hc : c = 1 ∨ c = 2) (hno : ∀ i, i < ws.length → room (used ws xs i) (c : Int) = false) (hn0 : ∀ i, i < ws.length → room (used ws xs i) ((0 : Nat) : Int) = false) : P.pick (c : Int) (both ws xs) = none := by
  have h1 := findIdx_no (f := P.fits (c : Int)) (ws := ws) (xs := xs) (fun i hi => by rw [← room_fits (hg.right hi) hc]; exact hno i hi)
  have h2 := findIdx_no (f := fun u => decide (u = 0)) (ws := ws) (xs := xs) (fun i hi => by rw [← room_zero7 (hg.right hi)]; exact hn0 i hi)
  unfold P.pick
  rw [h1]
  exact h2
/-- Behind 'next': the slab is held, and comes into its queue. -/
theorem rsv_step {wr w2 : World} {y1 : Lay} {dv : Value} {sh : V.Sh} {ws xs : List Nat} (hg : Good7 ws xs) (hT : Tab7 wr) (hgT : 1 ∉ kfoot y1 ws.length) {c f s : Nat} (hc : c = 1 ∨ c = 2) (hn : PoNext wr y1 dv sh ws xs f (some s) w2) (hr : P.fits (c : Int) (used ws xs s) = true ∨ used ws xs s = 0) :
    ∃ b : Nat, S.nxt (used ws xs s) (c : Int) = (b : Int) ∧ b ≤ 16 ∧ (Calls Tryz.prog 35 #[sptr y1.S s, .int .i64 (c : Int)] w2 fun e w3 => e = .returned (.int .i64 (b : Int)) ∧
      ∃ y2, PoAt w3 y2 dv sh ws (xs.set s (S.tkW (xs.getD s 0) (c : Int) (b : Int))) ∧ QsBut y2 ws (xs.set s (S.tkW (xs.getD s 0) (c : Int) (b : Int))) s ∧ y2.P = y1.P ∧ y2.S = y1.S ∧ Only (kfoot y1 ws.length) wr w3 ∧ ∀ k ∈ kfoot y2 ws.length, k ∈ kfoot y1 ws.length ∨ wr.heap.size ≤ k) := by
  obtain ⟨y2, hp, e1, e2, ho, hf, hs, hrm, hmin, hqb⟩ := hn
  have hlt : 1 < wr.heap.size := hT.lt
  have hT2 : Tab7 w2 := hT.only ho hgT
  obtain ⟨b, b1, b2, b3, b4, b5, b6⟩ := held_of hg hs (c := (c : Int)) (by omega) hr
  refine ⟨b, b1, b2, ?_⟩
  have hst := hp.stock s hs
  rw [show sptr y1.S s = sptr y2.S s by rw [e2]]
  refine (st_hold hst (hg.w64 hs) (hg.x64 hs) hT2 (c : Int)).mono ?_
  rintro e w3 ⟨he, m, rfl⟩
  rw [show ws.getD s 0 ||| xs.getD s 0 = used ws xs s from rfl, b1] at he ⊢
  refine ⟨he, y2, ?_, ⟨hqb.ql, hqb.qlt, fun a ha j hj hjs hroom => hqb.inn a ha j hj hjs (by rw [← b6 j hjs]; exact hroom)⟩, e1, e2, ?_, hf⟩
  · have h1 := (hp.drewN m).wrote (i := s) (t := ws.getD s 0) (u := S.tkW (xs.getD s 0) (c : Int) (b : Int)) (w' := (w2.drewN m).setCell ⟨y2.S s, 2, none⟩ (.int .u64 (S.tkW (xs.getD s 0) (c : Int) (b : Int) : Nat))) hs hg.len (Only.setCell _ ⟨y2.S s, 2, none⟩ _) ((hst.drewN m).setH _)
    have e : ws.set s (ws.getD s 0) = ws := by
      apply List.ext_getElem?
      intro j
      rw [List.getElem?_set]
      by_cases e : s = j
      · subst e
        rw [if_pos rfl, if_pos hs, List.getElem?_eq_getElem hs, List.getD_eq_getElem?_getD, List.getElem?_eq_getElem hs]; rfl
      · rw [if_neg e]
    rw [e] at h1
    exact h1
  · exact (ho.drewN m).foot (Only.setCell (w2.drewN m) ⟨y2.S s, 2, none⟩ _) (fun k hk => .inl (by
      rw [List.mem_singleton.1 hk]
      show y2.S s ∈ _
      rw [e2]
      exact mem_kfoot.2 (.inr (.inr (.inr (.inl ⟨s, hs, rfl⟩))))))
/-- What Reserve leaves. -/
def RsvPost (w : World) (y : Lay) (dv : Value) (sh : V.Sh) (da : Nat) (ws xs : List Nat) (c : Int) (e : Ending) (w' : World) : Prop :=
  e = .returned (.tuple #[.int .i64 (rsv da ws xs c).2.1, .int .i64 (rsv da ws xs c).2.2]) ∧ PoStep w y dv sh ws.length ws (rsv da ws xs c).1 w'
theorem RsvPost.mk {w w' : World} {y : Lay} {dv : Value} {sh : V.Sh} {da : Nat} {ws xs xs' : List Nat} {c x e : Int} (hr : rsv da ws xs c = (xs', x, e)) (hp : PoStep w y dv sh ws.length ws xs' w') : RsvPost w y dv sh da ws xs c (.returned (.tuple #[.int .i64 x, .int .i64 e])) w' := by
  unfold RsvPost; rw [hr]; exact ⟨rfl, hp⟩
theorem PoStep.refl {w : World} {y : Lay} {dv : Value} {sh : V.Sh} {ws xs : List Nat} (h : PoAt w y dv sh ws xs) (hq : Qs y ws xs) (m : Nat) : PoStep w y dv sh ws.length ws xs (w.drewN m) := ⟨y, h.drewN m, hq, rfl, rfl, (Only.refl _ _).drewN m, fun _ hk => .inl hk⟩
set_option maxHeartbeats 2000000 in
set_option maxRecDepth 100000 in
theorem po_reserve (h : PoAt w y (.pointer (some a)) sh ws xs) (hs : ShOk sh da) (hg : Good7 ws xs) (hq : Qs y ws xs) (hT : Tab7 w) (hgT : 1 ∉ kfoot y ws.length) (c : Int) :
    Calls Tryz.prog 10 #[.pointer (some ⟨y.P, 0, none⟩), .int .i64 c] w (RsvPost w y (.pointer (some a)) sh da ws xs c) := by
  have HM := Lib.hid (po_made h)
  have HBL := Lib.hid (sl_blocks c w)
  by_cases hc : c = 1 ∨ c = 2
  · obtain ⟨cn, rfl⟩ : ∃ cn : Nat, c = (cn : Int) := ⟨c.toNat, by omega⟩
    have hcn : cn = 1 ∨ cn = 2 := by omega
    have hblk : S.blk (cn : Int) ≠ 0 := by rcases hcn with rfl | rfl <;> decide
    have hblkb : (((S.blk (cn : Int) : Nat) : Int) == 0) = false := by simp [hblk]
    have hblkd : ((S.blk (cn : Int) : Nat) : Int) ≠ 0 := by omega
    have H0 := Lib.hid h
    have HS := Lib.hid hs
    have HG := Lib.hid hg
    have HQ := Lib.hid hq
    have HT := Lib.hid hT
    have HGT := Lib.hid hgT
    have HRS : Hid (∀ s b, P.pick (cn : Int) (both ws xs) = some s → S.nxt (used ws xs s) (cn : Int) = ((b : Nat) : Int) → rsv da ws xs (cn : Int) = (xs.set s (S.tkW (xs.getD s 0) (cn : Int) (b : Int)), ((P.off da s cn b : Nat) : Int), 0)) := fun s b h1 h2 => by
      unfold rsv
      rw [if_pos hc, h1]
      dsimp only
      rw [h2]; rfl
    have HRN : Hid (P.pick (cn : Int) (both ws xs) = none → rsv da ws xs (cn : Int) = (xs, 0, 6)) := fun h1 => by
      unfold rsv
      rw [if_pos hc, h1]
    have HST : Hid (∀ m, RsvMid w y (.pointer (some a)) sh ws xs cn 0 ((w.drewN m).alloc (.cells #[.int .i64 (cn : Int), .int .i64 0] 3 (0, 0)))) := fun m =>
      ⟨y, h.below ((below_drewN' (Below.refl _ _) m).alloc (Nat.le_refl _) _), hq, rfl, rfl, ((Only.refl _ _).drewN m).alloc _, fun q hk => .inl hk, heap_alloc_new (w.drewN m) _, fun h => absurd h (by decide), fun h => absurd h (by decide)⟩
    clear h hs hg hq hT hgT
    generalize S.blk (cn : Int) = bl at *
    generalize hpp : y.P = pp at *
    go_enter Tryz.func10, Tryz.ntmps10
    go_wp2_with fail
    refine HM.out.mono ?_
    rintro e w1 ⟨rfl, rfl⟩
    go_wp2_with fail
    refine HBL.out.mono ?_
    rintro e w1 ⟨rfl, m1, rfl⟩
    go_wp2_with fail
    go_loopw [4, 5, 7, 8, 9, 19] (fun _ _ _ _ _ kv wr => ∃ k : Nat, k ≤ 2 ∧ kv = .int .i64 k ∧ RsvMid w y (.pointer (some a)) sh ws xs cn k wr) (fun _ _ _ _ _ kv _ => 2 - (intOf kv).toNat)
    case atStart => exact ⟨0, by decide, rfl, HST.out _⟩
    case round =>
      obtain ⟨k, hk, rfl, y1, hp1, hq1, e1, e2, ho1, hf1, harr, hno1, hno2⟩ := hrel
      have hT1 : Tab7 wr := HT.out.only ho1 HGT.out
      have hgT1 : 1 ∉ kfoot y1 ws.length := fun hm => (hf1 _ hm).elim HGT.out (fun h => by have := HT.out.lt; omega)
      by_cases hlt : k < 2
      · obtain ⟨f, hf3, hcf, hNO, hYES⟩ : ∃ f : Nat, f < 3 ∧ wr.cell? ⟨w.heap.size, k, none⟩ = some (.int .i64 (f : Int)) ∧
            ((∀ i, i < ws.length → room (used ws xs i) (f : Int) = false) → (1 ≤ k + 1 → ∀ i, i < ws.length → room (used ws xs i) (cn : Int) = false) ∧ (2 ≤ k + 1 → ∀ i, i < ws.length → room (used ws xs i) ((0 : Nat) : Int) = false)) ∧
            (∀ s, s < ws.length → room (used ws xs s) (f : Int) = true → (∀ i, i < ws.length → room (used ws xs i) (f : Int) = true → s ≤ i) → P.pick (cn : Int) (both ws xs) = some s ∧ (P.fits (cn : Int) (used ws xs s) = true ∨ used ws xs s = 0)) := by
          rcases (by omega : k = 0 ∨ k = 1) with rfl | rfl
          · exact ⟨cn, by omega, cell_of_row wr _ 0 _ _ _ harr, fun h => ⟨fun _ => h, fun h2 => absurd h2 (by decide)⟩, fun s h1 h2 h3 => pick_yes HG.out hcn h1 h2 h3⟩
          · exact ⟨0, by decide, cell_of_row wr _ 1 _ _ _ harr, fun h => ⟨fun _ => hno1 (by decide), fun _ => h⟩, fun s h1 h2 h3 => pick_free HG.out hcn (hno1 (by decide)) h1 h2 h3⟩
        have h6 := hp1.c6
        rw [e1, hpp] at h6
        have hlook := hp1.map.look f hf3
        have HNX := Lib.hid (po_next hp1 HG.out hq1 hT1 hgT1 hf3)
        have HNO := Lib.hid hNO
        have HYES := Lib.hid hYES
        have HO1 := Lib.hid ho1
        have HF1 := Lib.hid hf1
        have HE1 := Lib.hid e1
        have HE2 := Lib.hid e2
        have HT1 := Lib.hid hT1
        have HGT1 := Lib.hid hgT1
        have HARR := Lib.hid harr
        have HQL := Lib.hid (hp1.lt)
        have hk1 : k ≤ 1 := by omega
        have HARN : Hid (w.heap.size ∉ kfoot y1 ws.length) := fun hm => by
          rcases hf1 _ hm with e | e
          · have := H0.out.lt _ e; omega
          · omega
        clear hp1 hq1 e1 e2 ho1 hf1 harr hno1 hno2 hT1 hgT1 hNO hYES
        generalize y1.Q f = qf at *
        go_wp2_with fail
        refine HNX.out.mono ?_
        rintro e w2 ⟨r, rfl, hn2⟩
        cases r with
        | none =>
          have HR2 : Hid (RsvMid w y (.pointer (some a)) sh ws xs cn (k + 1) w2) := by
            obtain ⟨y2, hp2, f1, f2, ho2, hfo2, hq2, hnr⟩ := hn2
            have hsz := HO1.out.size
            refine ⟨y2, hp2, hq2, f1.trans HE1.out, f2.trans HE2.out, HO1.out.trans ho2 (fun x hx => (HF1.out x hx).imp id Nat.le_of_lt), fun x hx => ?_, (ho2.block _ (Array.getElem?_eq_some_iff.1 HARR.out).1 HARN.out).trans HARR.out, (HNO.out hnr).1, (HNO.out hnr).2⟩
            rcases hfo2 x hx with e | e
            · exact HF1.out x e
            · right
              have := (Array.getElem?_eq_some_iff.1 HARR.out).1
              omega
          clear hn2 HNX
          unfold nextV
          go_wp2
          go_roundw
          case rel => exact ⟨k + 1, by omega, by go_num, HR2.out⟩
          case measure => simp [intOf]; omega
        | some s =>
          have hn2' := hn2
          obtain ⟨_, _, _, _, _, _, hsn, hrm, hmin, _⟩ := hn2'
          obtain ⟨hpk, hfz⟩ := HYES.out s hsn hrm hmin
          obtain ⟨b, b1, b2, hh⟩ := rsv_step HG.out HT1.out HGT1.out hcn hn2 hfz
          have hrs := HRS.out s b hpk b1
          obtain ⟨b', b1', _, hg2, hu2, hcl2, _⟩ := held_of HG.out hsn hc hfz
          obtain rfl : b' = b := by omega
          have HH := Lib.hid hh
          have HRV := Lib.hid hrs
          have HG2 := Lib.hid hg2
          have HCL : Hid (S.cls (used ws (xs.set s (S.tkW (xs.getD s 0) (cn : Int) (b' : Int))) s) = cn) := by rw [hcl2]; rfl
          have HSN := Lib.hid hsn
          clear hh hrs hg2 hu2 hcl2 hpk hfz hrm hmin hn2 b1 b1' HNX hsn
          unfold nextV sptr
          unfold sptr at HH
          rw [HE2.out] at HH ⊢
          generalize hss : y.S s = sk at *
          generalize hxx : xs.set s (S.tkW (xs.getD s 0) (cn : Int) (b' : Int)) = xs' at *
          go_wp2_with fail
          refine HH.out.mono ?_
          rintro e w3 ⟨rfl, y2, hp2, hqb2, f1, f2, ho2, hfo2⟩
          have HOF : Hid (Calls Tryz.prog 36 #[.pointer (some ⟨pp, 0, none⟩), .pointer (some ⟨sk, 0, none⟩)] w3 fun e w' => e = .returned (.tuple #[]) ∧ PoStep w3 y2 (.pointer (some a)) sh ws.length ws xs' w') := by
            have h2 := po_offer hp2 HG2.out HSN.out hqb2
            unfold sptr at h2
            rw [f1, f2, HE1.out, hpp, hss] at h2
            exact h2
          have HY2 : Hid (y2.P = y.P ∧ y2.S = y.S) := ⟨f1.trans HE1.out, f2⟩
          have HO2 : Hid (Only (kfoot y ws.length) w w3) := HO1.out.trans ho2 (fun x hx => (HF1.out x hx).imp id Nat.le_of_lt)
          have HFO2 : Hid (∀ x ∈ kfoot y2 ws.length, x ∈ kfoot y ws.length ∨ w.heap.size ≤ x) := fun x hx => by
            rcases hfo2 x hx with e | e
            · exact (HF1.out x e).imp id Nat.le_of_lt
            · exact .inr (Nat.le_trans HO1.out.size e)
          clear hp2 hqb2 f1 f2 ho2 hfo2 HH
          go_wp2_with fail
          refine HOF.out.mono ?_
          rintro e w4 ⟨rfl, y3, hp3, hq3, g1, g2, ho3, hfo3⟩
          have HPL : Hid (Calls Tryz.prog 37 #[.pointer (some ⟨pp, 0, none⟩), .pointer (some ⟨sk, 0, none⟩), .int .i64 (b' : Int)] w4 fun e w' => e = .returned (.int .i64 (P.off da s cn b' : Nat)) ∧ ∃ m, w' = w4.drewN m) := by
            have h2 := po_place hp3 HS.out (hp3.stock s HSN.out) (by have := HSN.out; have := HG.out.most; omega) (HG2.out.w64 HSN.out) (HG2.out.x64 HSN.out) b' b2
            rw [show ws.getD s 0 ||| xs'.getD s 0 = used ws xs' s from rfl, HCL.out, g1, g2, HY2.out.1, HY2.out.2, hpp, hss] at h2
            exact h2
          have HPS : Hid (∀ m, PoStep w y (.pointer (some a)) sh ws.length ws xs' (w4.drewN m)) := fun m =>
            ⟨y3, hp3.drewN m, hq3, g1.trans HY2.out.1, g2.trans HY2.out.2, (HO2.out.trans ho3 HFO2.out).drewN m, fun x hx => by
              rcases hfo3 x hx with e | e
              · exact HFO2.out x e
              · exact .inr (Nat.le_trans HO2.out.size e)⟩
          clear hp3 hq3 g1 g2 ho3 hfo3 HOF
          generalize P.off da s cn b' = oz at *
          go_wp2_with fail
          refine HPL.out.mono ?_
          rintro e w5 ⟨rfl, m5, rfl⟩
          go_wp2
          go_ret2
          exact RsvPost.mk HRV.out (HPS.out _)
      · obtain rfl : k = 2 := by omega
        have HRV : Hid (rsv da ws xs (cn : Int) = (xs, 0, 6)) := HRN.out (pick_no HG.out hcn (hno1 (by decide)) (hno2 (by decide)))
        have HPS : Hid (PoStep w y (.pointer (some a)) sh ws.length ws xs wr) := ⟨y1, hp1, hq1, e1, e2, ho1, fun x hx => (hf1 x hx).imp id Nat.le_of_lt⟩
        clear hp1 hq1 e1 e2 ho1 hf1 harr hno1 hno2 hT1 hgT1
        go_wp2
        go_ret2
        exact RsvPost.mk HRV.out HPS.out
  · have hblk : S.blk c = 0 := by
      unfold S.blk
      rw [if_neg (fun e => hc (.inl e)), if_neg (fun e => hc (.inr e))]
    have HR : Hid (rsv da ws xs c = (xs, 0, 2)) := if_neg hc
    have HP : Hid (∀ m, PoStep w y (.pointer (some a)) sh ws.length ws xs (w.drewN m)) := fun m => PoStep.refl h hq m
    rw [hblk] at HBL
    unfold RsvPost
    rw [HR.out]
    clear h hs hg hq hT hgT HR hc hblk
    dsimp only
    generalize hpp : y.P = pp at *
    go_enter Tryz.func10, Tryz.ntmps10
    go_wp2_with fail
    refine HM.out.mono ?_
    rintro e w1 ⟨rfl, rfl⟩
    go_wp2_with fail
    refine HBL.out.mono ?_
    rintro e w1 ⟨rfl, m1, rfl⟩
    go_wp2
    go_ret2
    exact ⟨rfl, HP.out _⟩
end

end Go.Proofs.YtaceogpdjbikiaaGreatDoor
