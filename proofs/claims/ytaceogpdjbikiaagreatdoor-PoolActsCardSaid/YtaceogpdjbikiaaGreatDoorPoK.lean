
/- Layer 7: Drop. -/
import Derived.Test.YtaceogpdjbikiaaGreatDoorPoJ
namespace Go.Proofs.YtaceogpdjbikiaaGreatDoor

open Go.RowKit

/-- What Drop makes. -/
noncomputable def dropR (d : V.Dv) (sh : V.Sh) (da : Nat) (ws xs : List Nat) (x : Int) : V.Dv × List Nat × List Nat × Int :=
  match P.find da xs x with
  | some (i, b) => (d, ws, xs.set i (S.drW (xs.getD i 0) (b : Int)), 0)
  | none => match P.find da ws x with
    | some (i, b) =>
      if (d.put (sh.table + 8 * (i : Int)) (S.drW (ws.getD i 0) (b : Int))).2 = 0
      then ((d.put (sh.table + 8 * (i : Int)) (S.drW (ws.getD i 0) (b : Int))).1, ws.set i (S.drW (ws.getD i 0) (b : Int)), xs, 0)
      else ((d.put (sh.table + 8 * (i : Int)) (S.drW (ws.getD i 0) (b : Int))).1, ws, xs, (d.put (sh.table + 8 * (i : Int)) (S.drW (ws.getD i 0) (b : Int))).2)
    | none => (d, ws, xs, 7)
theorem dropped_x {ws xs : List Nat} (hg : Good7 ws xs) {i b : Nat} (hi : i < ws.length) (hb : (S.tkn (xs.getD i 0)).testBit b = true) :
    Good7 ws (xs.set i (S.drW (xs.getD i 0) (b : Int))) ∧ ∀ j, j ≠ i → used ws (xs.set i (S.drW (xs.getD i 0) (b : Int))) j = used ws xs j := by
  have hix : i < xs.length := by rw [hg.len]; exact hi
  have hp := hg.pair i hi
  have hw : (S.tkn (ws.getD i 0)).testBit b = false := by
    cases h : (S.tkn (ws.getD i 0)).testBit b with
    | false => rfl
    | true => exact (hp.apart b h hb).elim
  have h2 := (hp.drop (b := b)).1
  rw [S.drop_not (n := ws.getD i 0) (by rw [P.has_nat]; exact hw)] at h2
  refine ⟨⟨by simp [hg.len], hg.most, fun j hj => ?_⟩, fun j hj => ?_⟩
  · rw [P.getD_set _ _ _ _ hix]
    by_cases e : j = i
    · subst e; rw [if_pos rfl]; exact h2
    · rw [if_neg e]; exact hg.pair j hj
  · show ws.getD j 0 ||| (xs.set i _).getD j 0 = _
    rw [P.getD_set _ _ _ _ hix, if_neg hj]; rfl
theorem dropped_w {ws xs : List Nat} (hg : Good7 ws xs) {i b : Nat} (hi : i < ws.length) (hb : (S.tkn (ws.getD i 0)).testBit b = true) :
    Good7 (ws.set i (S.drW (ws.getD i 0) (b : Int))) xs ∧ ∀ j, j ≠ i → used (ws.set i (S.drW (ws.getD i 0) (b : Int))) xs j = used ws xs j := by
  have hp := hg.pair i hi
  have hx : (S.tkn (xs.getD i 0)).testBit b = false := by
    cases h : (S.tkn (xs.getD i 0)).testBit b with
    | false => rfl
    | true => exact (hp.apart b hb h).elim
  have h2 := (hp.drop (b := b)).1
  rw [S.drop_not (n := xs.getD i 0) (by rw [P.has_nat]; exact hx)] at h2
  refine ⟨⟨by simp [hg.len], by simp [hg.most], fun j hj => ?_⟩, fun j hj => ?_⟩
  · rw [P.getD_set _ _ _ _ hi]
    by_cases e : j = i
    · subst e; rw [if_pos rfl]; exact h2
    · rw [if_neg e]; exact hg.pair j (by simpa using hj)
  · show (ws.set i _).getD j 0 ||| xs.getD j 0 = _
    rw [P.getD_set _ _ _ _ hi, if_neg hj]; rfl
theorem Qs.but_of {y : Lay} {ws xs ws' xs' : List Nat} (h : Qs y ws xs) (hn : ws'.length = ws.length) {i : Nat} (hu : ∀ j, j ≠ i → used ws' xs' j = used ws xs j) : QsBut y ws' xs' i :=
  ⟨h.ql, fun c hc x hx => by rw [hn]; exact h.qlt c hc x hx, fun c hc j hj hne hr => by rw [hn] at hj; rw [hu j hne] at hr; exact h.at hc hj hr⟩
theorem set_get (l : List Nat) (i : Nat) : l.set i (l.getD i 0) = l := by
  apply List.ext_getElem?
  intro j
  rw [List.getElem?_set]
  by_cases e : i = j
  · subst e
    by_cases hi : i < l.length
    · rw [if_pos rfl, if_pos hi, List.getElem?_eq_getElem hi, List.getD_eq_getElem?_getD, List.getElem?_eq_getElem hi]; rfl
    · rw [if_pos rfl, if_neg hi, List.getElem?_eq_none (by omega)]
  · rw [if_neg e]
section

variable {w0 w : World} {pv : Value} {a : Addr} {d : V.Dv} {sh : V.Sh} {ws xs X : List Nat} {da : Nat}

set_option maxHeartbeats 2000000 in
set_option maxRecDepth 100000 in
theorem po_drop (h : PoolK w0 pv (some a) d sh ws xs X w) (hs : ShOk sh da) (x : Int) (hx : I64 x) (hst : d.steps ≤ 10000000) :
    Calls Tryz.prog 12 #[pv, .int .i64 x] w (TkPost w0 pv (some a) sh X w (dropR d sh da ws xs x)) := by
  have H0 := Lib.hid h
  obtain ⟨y, rfl, hp, hq, hg, hd, hX, hlo⟩ := h
  have HM := Lib.hid (po_made hp)
  have HF := Lib.hid (po_find hp hs hg x hx)
  have HP := Lib.hid hp
  have HQ := Lib.hid hq
  have HG := Lib.hid hg
  have HD := Lib.hid hd
  have HX := Lib.hid hX
  have HLO := Lib.hid hlo
  have HS := Lib.hid hs
  have HST := Lib.hid hst
  obtain ⟨R, hR⟩ : ∃ R, dropR d sh da ws xs x = R := ⟨_, rfl⟩
  rw [hR]
  have HR := Lib.hid hR
  clear hp hq hg hd hX hlo hs hx hst hR
  generalize hpp : y.P = pp at *
  go_enter Tryz.func12, Tryz.ntmps12
  go_wp2_with fail
  refine HM.out.mono ?_
  rintro e w1 ⟨rfl, rfl⟩
  go_wp2_with fail
  refine HF.out.mono ?_
  rintro e w1 (⟨i, b, hst, rfl, m, hw1⟩ | ⟨hno, g, rfl, hst, hgl, hb⟩)
  · have hi := hst.1
    have hs0 := HP.out.stock i hi
    have hs : StkAt w1 (y.S i) i (ws.getD i 0) (xs.getD i 0) := by rw [hw1]; exact hs0
    have h2 := hs.c2
    obtain ⟨u', hu'⟩ : ∃ u', S.drW (xs.getD i 0) (b : Int) = u' := ⟨_, rfl⟩
    obtain ⟨t, ht⟩ : ∃ t, S.drW (ws.getD i 0) (b : Int) = t := ⟨_, rfl⟩
    have HDX : Hid (∀ W : World, Calls Tryz.prog 44 #[.int .u64 (xs.getD i 0 : Nat), .int .i64 (b : Int)] W fun e w' => e = .returned (.tuple #[.int .u64 (u' : Int), .bool ((S.tkn (xs.getD i 0)).testBit b)]) ∧ ∃ m, w' = W.drewN m) := fun W => by
      have := sl_drop (xs.getD i 0) (b : Int) W (HG.out.x64 hi)
      rwa [hu', P.has_nat] at this
    have HDW : Hid (∀ W : World, Calls Tryz.prog 44 #[.int .u64 (ws.getD i 0 : Nat), .int .i64 (b : Int)] W fun e w' => e = .returned (.tuple #[.int .u64 (t : Int), .bool ((S.tkn (ws.getD i 0)).testBit b)]) ∧ ∃ m, w' = W.drewN m) := fun W => by
      have := sl_drop (ws.getD i 0) (b : Int) W (HG.out.w64 hi)
      rwa [ht, P.has_nat] at this
    have hsi : y.S i ∈ kfoot y ws.length := mem_kfoot.2 (.inr (.inr (.inr (.inl ⟨i, hi, rfl⟩))))
    have HSI := Lib.hid hsi
    cases hbx : (S.tkn (xs.getD i 0)).testBit b with
    | true =>
      rw [hbx] at HDX
      obtain ⟨hg2, hu2⟩ := dropped_x HG.out hi hbx
      rw [hu'] at hg2 hu2
      have HRE : Hid (R = (d, ws, xs.set i u', 0)) := by
        rw [← HR.out, ← hu']
        show _ = _
        unfold dropR
        rw [P.find_some ((findIs_x HG.out).2 ⟨hst, hbx⟩)]
      have HOF : Hid (∀ q : Nat, Calls Tryz.prog 36 #[.pointer (some ⟨pp, 0, none⟩), .pointer (some ⟨y.S i, 0, none⟩)] ((w.drewN q).setCell ⟨y.S i, 2, none⟩ (.int .u64 (u' : Int))) fun e w' => e = .returned (.tuple #[]) ∧ PoolK w0 (.pointer (some ⟨pp, 0, none⟩)) (some a) d sh ws (xs.set i u') X w' ∧ KeepB X w w') := by
        intro q
        have ho := Only.setCell (w.drewN q) ⟨y.S i, 2, none⟩ (.int .u64 (u' : Int))
        have hp4 := (HP.out.drewN q).wrote (i := i) (t := ws.getD i 0) (u := u') hi HG.out.len ho ((hs0.drewN q).setH u')
        rw [set_get] at hp4
        have h3 := po_offer hp4 hg2 hi (HQ.out.but_of rfl hu2)
        rw [hpp] at h3
        refine h3.mono ?_
        rintro e w' ⟨he, hst'⟩
        have hxl : ∀ k ∈ X, k < w.heap.size := H0.out.xlt
        have hd4 : DevK w0 (.pointer (some a)) d (X ++ kfoot y ws.length) ((w.drewN q).setCell ⟨y.S i, 2, none⟩ (.int .u64 (u' : Int))) := by
          refine (HD.out.drewN q).wrote ho (fun k hk => .inl ?_) (fun k hk => ?_) (fun k hk => .inl hk) (fun k hk => ?_)
          · rw [List.mem_singleton.1 hk]; exact List.mem_append_right _ hsi
          · rw [List.mem_singleton.1 hk]; exact HLO.out _ hsi
          · rcases List.mem_append.1 hk with e | e
            · exact Nat.lt_of_lt_of_le (hxl k e) ho.size
            · exact hp4.lt k e
        obtain ⟨r1, r2⟩ := pool_step (ws := ws) (by rw [hpp]) hp4.lt hd4 HX.out HLO.out rfl hg2 hst'
        refine ⟨he, r1, fun k hk => (r2 k hk).trans (ho.block k (hxl k hk) (fun e => ?_))⟩
        have e2 : k = y.S i := List.mem_singleton.1 e
        exact HX.out k hk (by rw [e2]; exact hsi)
      have h1 := hs.c1
      have hf := hs.fr 2
      clear hs0 hs hst hbx hg2 hu2 hu' ht hsi
      unfold sptr
      generalize xs.getD i 0 = u at *
      generalize ws.getD i 0 = t0 at *
      generalize y.S i = sk at *
      generalize hbw : (S.tkn t0).testBit b = bw at *
      clear hbw
      have HW1 := Lib.hid hw1
      clear hw1
      go_wp2_with fail
      refine (HDX.out _).mono ?_
      rintro e w2 ⟨rfl, m2, rfl⟩
      go_wp2_with fail
      refine (HDW.out _).mono ?_
      rintro e w3 ⟨rfl, m3, hw3⟩
      rw [HW1.out, World.drewN_drewN, World.drewN_drewN] at hw3
      have h2' : w3.cell? ⟨sk, 2, none⟩ = some (.int .u64 (u : Int)) := by
        rw [hw3]; have := h2; rw [HW1.out] at this; exact this
      have hf' : w3.frozen? ⟨sk, 2, none⟩ = false := by
        rw [hw3]; have := hf; rw [HW1.out] at this; exact this
      have HOF3 : Hid (Calls Tryz.prog 36 #[.pointer (some ⟨pp, 0, none⟩), .pointer (some ⟨sk, 0, none⟩)] (w3.setCell ⟨sk, 2, none⟩ (.int .u64 (u' : Int))) fun e w' => e = .returned (.tuple #[]) ∧ PoolK w0 (.pointer (some ⟨pp, 0, none⟩)) (some a) d sh ws (xs.set i u') X w' ∧ KeepB X w w') := by
        rw [hw3]; exact HOF.out _
      clear hw3 h2 hf h1
      go_wp2_with fail
      refine HOF3.out.mono ?_
      rintro e w5 ⟨rfl, hp5, hk5⟩
      have HP5 := Lib.hid hp5
      have HK5 := Lib.hid hk5
      clear hp5 hk5
      go_wp2
      go_ret
      exact TkPost.mk HRE.out HP5.out HK5.out
    | false =>
      rw [hbx] at HDX
      have hfx : P.find da xs x = none := P.find_none (fun i' b' hf => by
        obtain ⟨h3, h4⟩ := (findIs_x HG.out).1 hf
        obtain ⟨rfl, rfl⟩ := hst.one h3
        rw [hbx] at h4; cases h4)
      have h1 := hs.c1
      cases hbw : (S.tkn (ws.getD i 0)).testBit b with
      | false =>
        rw [hbw] at HDW
        have HRE : Hid (R = (d, ws, xs, 7)) := by
          rw [← HR.out]
          show _ = _
          unfold dropR
          rw [hfx, P.find_none (fun i' b' hf => by
            obtain ⟨h3, h4⟩ := (findIs_w HG.out).1 hf
            obtain ⟨rfl, rfl⟩ := hst.one h3
            rw [hbw] at h4; cases h4)]
        have H01 : Hid (PoolK w0 (.pointer (some ⟨pp, 0, none⟩)) (some a) d sh ws xs X w1 ∧ KeepB X w w1) := by
          rw [hw1]; exact ⟨H0.out.drewN _, fun _ _ => rfl⟩
        clear hs0 hs hst hbx hbw hu' ht hsi hw1 hfx
        unfold sptr
        generalize xs.getD i 0 = u at *
        generalize ws.getD i 0 = t0 at *
        generalize y.S i = sk at *
        go_wp2_with fail
        refine (HDX.out _).mono ?_
        rintro e w2 ⟨rfl, m2, rfl⟩
        go_wp2_with fail
        refine (HDW.out _).mono ?_
        rintro e w3 ⟨rfl, m3, rfl⟩
        go_wp2
        go_ret
        first
          | exact TkPost.mk HRE.out (H01.out.1.drewN _) (fun k hk => H01.out.2 k hk)
          | exact TkPost.mk HRE.out ((H01.out.1.drewN _).drewN _) (fun k hk => H01.out.2 k hk)
      | true =>
        rw [hbw] at HDW
        obtain ⟨hg2, hu2⟩ := dropped_w HG.out hi hbw
        rw [ht] at hg2 hu2
        have ht64 : t < 2 ^ 64 := by rw [← ht]; exact S.drW_lt (HG.out.w64 hi) _
        have hRE : R = if (d.put (sh.table + 8 * (i : Int)) t).2 = 0 then ((d.put (sh.table + 8 * (i : Int)) t).1, ws.set i t, xs, 0) else ((d.put (sh.table + 8 * (i : Int)) t).1, ws, xs, (d.put (sh.table + 8 * (i : Int)) t).2) := by
          rw [← HR.out]
          unfold dropR
          rw [hfx, P.find_some ((findIs_w HG.out).2 ⟨hst, hbw⟩)]
          dsimp only
          rw [ht]
        have HPT : Hid (∀ q, Calls Tryz.prog 45 #[.pointer (some ⟨pp, 0, none⟩), .pointer (some ⟨y.S i, 0, none⟩), .int .u64 (t : Int)] (w.drewN q) (PutPost7 w0 (w.drewN q) y (some a) sh ws xs d (X ++ kfoot y ws.length) i t)) := fun q => by
          have h3 := po_put (HP.out.drewN q) (HD.out.drewN q) (fun k hk => List.mem_append_right _ hk) HLO.out HS.out HG.out hi t ht64 HST.out
          rw [hpp] at h3
          exact h3
        have HI := Lib.hid hi
        have HG2 := Lib.hid hg2
        have HU2 := Lib.hid hu2
        have HRE := Lib.hid hRE
        have HW1 := Lib.hid hw1
        clear hs0 hs hst hbx hbw hu' ht hsi hfx hg2 hu2 ht64 hRE hi hw1
        unfold sptr
        generalize xs.getD i 0 = u at *
        generalize ws.getD i 0 = t0 at *
        generalize hss : y.S i = sk at *
        have HSS := Lib.hid hss
        clear hss
        go_wp2_with fail
        refine (HDX.out _).mono ?_
        rintro e w2 ⟨rfl, m2, rfl⟩
        go_wp2_with fail
        refine (HDW.out _).mono ?_
        rintro e w3 ⟨rfl, m3, hw3⟩
        rw [HW1.out, World.drewN_drewN, World.drewN_drewN] at hw3
        have HPT3 : Hid (Calls Tryz.prog 45 #[.pointer (some ⟨pp, 0, none⟩), .pointer (some ⟨sk, 0, none⟩), .int .u64 (t : Int)] w3 (PutPost7 w0 w3 y (some a) sh ws xs d (X ++ kfoot y ws.length) i t)) := by
          rw [hw3]; exact HPT.out _
        have HKW : Hid (∀ k : Nat, w3.heap[k]? = w.heap[k]?) := fun k => by rw [hw3]; rfl
        clear hw3 h1 h2
        go_wp2_with fail
        refine HPT3.out.mono ?_
        rintro e w4 ⟨rfl, hd4, hk4, hp4⟩
        obtain ⟨dr, hdr⟩ : ∃ dr, d.put (sh.table + 8 * (i : Int)) t = dr := ⟨_, rfl⟩
        rw [hdr] at hd4 hp4 HRE ⊢
        clear hdr
        obtain ⟨d', r⟩ := dr
        dsimp only at hd4 hp4 HRE ⊢
        by_cases hr : r = 0
        · subst hr
          rw [if_pos rfl] at hp4 HRE
          have HOF : Hid (Calls Tryz.prog 36 #[.pointer (some ⟨pp, 0, none⟩), .pointer (some ⟨sk, 0, none⟩)] w4 fun e w' => e = .returned (.tuple #[]) ∧ PoolK w0 (.pointer (some ⟨pp, 0, none⟩)) (some a) d' sh (ws.set i t) xs X w' ∧ KeepB X w w') := by
            have h3 := po_offer hp4 HG2.out (i := i) (by rw [List.length_set]; exact HI.out) (HQ.out.but_of (by rw [List.length_set]) HU2.out)
            unfold sptr at h3
            rw [hpp, HSS.out] at h3
            refine h3.mono ?_
            rintro e w' ⟨he, hst'⟩
            have hn9 : (ws.set i t).length = ws.length := List.length_set
            have hl4 := hp4.lt
            rw [hn9] at hst' hl4
            obtain ⟨r1, r2⟩ := pool_step (ws := ws) (by rw [hpp]) hl4 hd4 HX.out HLO.out hn9 HG2.out hst'
            exact ⟨he, r1, fun k hk => ((r2 k hk).trans (hk4 k (List.mem_append_left _ hk) (HX.out k hk))).trans (HKW.out k)⟩
          clear hp4 hd4 hk4
          go_wp2_with fail
          refine HOF.out.mono ?_
          rintro e w5 ⟨rfl, hp5, hk5⟩
          have HP5 := Lib.hid hp5
          have HK5 := Lib.hid hk5
          clear hp5 hk5
          go_wp2
          go_ret
          exact TkPost.mk HRE.out HP5.out HK5.out
        · rw [if_neg hr] at hp4 HRE
          have hrb : (r != 0) = true := by simp [hr]
          have HOK : Hid (PoolK w0 (.pointer (some ⟨pp, 0, none⟩)) (some a) d' sh ws xs X w4 ∧ KeepB X w w4) := ⟨⟨y, by rw [hpp], hp4, HQ.out, HG.out, hd4, HX.out, HLO.out⟩, fun k hk => (hk4 k (List.mem_append_left _ hk) (HX.out k hk)).trans (HKW.out k)⟩
          clear hp4 hd4 hk4 hr
          go_wp2
          go_ret
          exact TkPost.mk HRE.out HOK.out.1 HOK.out.2
  · have h2 := hst.c2
    have h1 := hst.c1
    have HDZ : Hid (∀ W : World, Calls Tryz.prog 44 #[.int .u64 ((0 : Nat) : Int), .int .i64 ((0 : Nat) : Int)] W fun e w' => e = .returned (.tuple #[.int .u64 ((0 : Nat) : Int), .bool false]) ∧ ∃ m, w' = W.drewN m) := fun W => by
      have := sl_drop 0 ((0 : Nat) : Int) W (by decide)
      rwa [P.has_nat, show S.tkn 0 = 0 from rfl, Nat.zero_testBit, S.drop_not (by rw [P.has_nat, show S.tkn 0 = 0 from rfl, Nat.zero_testBit])] at this
    have HRE : Hid (R = (d, ws, xs, 7)) := by
      rw [← HR.out]
      show _ = _
      unfold dropR
      rw [P.find_none (fun i' b' hf => hno i' b' ((findIs_x HG.out).1 hf).1), P.find_none (fun i' b' hf => hno i' b' ((findIs_w HG.out).1 hf).1)]
    have HB := Lib.hid hb
    clear hst hno hb hgl
    go_wp2_with fail
    refine (HDZ.out _).mono ?_
    rintro e w2 ⟨rfl, m2, rfl⟩
    go_wp2_with fail
    refine (HDZ.out _).mono ?_
    rintro e w3 ⟨rfl, m3, rfl⟩
    go_wp2
    go_ret
    first
      | exact TkPost.mk HRE.out ((H0.out.same HB.out).drewN _) (fun k hk => HB.out.block k (H0.out.xlt k hk))
      | exact TkPost.mk HRE.out (((H0.out.same HB.out).drewN _).drewN _) (fun k hk => HB.out.block k (H0.out.xlt k hk))
end

end Go.Proofs.YtaceogpdjbikiaaGreatDoor
