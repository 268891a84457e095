
/- Layer 7: a pool beside its device, as one; Take. -/
import Derived.Test.YtaceogpdjbikiaaGreatDoorPoI
namespace Go.Proofs.YtaceogpdjbikiaaGreatDoor

open Go.RowKit

/-- A pool beside its device; the blocks X stand apart from both. -/
def PoolK (w0 : World) (pv : Value) (p : Option Addr) (d : V.Dv) (sh : V.Sh) (ws xs X : List Nat) (w : World) : Prop :=
  ∃ y, pv = .pointer (some ⟨y.P, 0, none⟩) ∧ PoAt w y (.pointer p) sh ws xs ∧ Qs y ws xs ∧ Good7 ws xs ∧ DevK w0 (.pointer p) d (X ++ kfoot y ws.length) w ∧ (∀ k ∈ X, k ∉ kfoot y ws.length) ∧ ∀ k ∈ kfoot y ws.length, w0.heap.size ≤ k
section

variable {w0 w w' : World} {pv : Value} {p : Option Addr} {d : V.Dv} {sh : V.Sh} {ws xs X : List Nat}

theorem PoolK.good (h : PoolK w0 pv p d sh ws xs X w) : Good7 ws xs := by obtain ⟨y, h1, h2, h3, h4, _⟩ := h; exact h4
theorem PoolK.dgood (h : PoolK w0 pv p d sh ws xs X w) : d.Good := by obtain ⟨y, h1, h2, h3, h4, h5, _⟩ := h; exact h5.devIn.good
theorem PoolK.below0 (h : PoolK w0 pv p d sh ws xs X w) : Below w0.heap.size w0 w := by obtain ⟨y, h1, h2, h3, h4, h5, _⟩ := h; exact h5.devIn.below
theorem PoolK.xlt (h : PoolK w0 pv p d sh ws xs X w) : ∀ k ∈ X, k < w.heap.size := by
  obtain ⟨y, h1, h2, h3, h4, ⟨_, _, _, _, h5⟩, _⟩ := h
  exact fun k hk => (h5 k (List.mem_append_left _ hk)).2
/-- What makes memory alone keeps it; blocks that are new may stand apart from then on. -/
theorem PoolK.newer {X' : List Nat} (h : PoolK w0 pv p d sh ws xs X w) (hb : Below w.heap.size w w') (hX : ∀ k ∈ X', k ∈ X ∨ (w.heap.size ≤ k ∧ k < w'.heap.size)) : PoolK w0 pv p d sh ws xs X' w' := by
  obtain ⟨y, h1, h2, h3, h4, h5, h6, h7⟩ := h
  refine ⟨y, h1, h2.below hb, h3, h4, h5.newer hb (fun k hk => ?_), fun k hk hm => ?_, h7⟩
  · rcases List.mem_append.1 hk with e | e
    · rcases hX k e with e | e
      · exact .inl (List.mem_append_left _ e)
      · exact .inr e
    · exact .inl (List.mem_append_right _ e)
  · rcases hX k hk with e | e
    · exact h6 k e hm
    · have := h2.lt k hm; omega
theorem PoolK.same (h : PoolK w0 pv p d sh ws xs X w) (hb : Below w.heap.size w w') : PoolK w0 pv p d sh ws xs X w' := h.newer hb (fun _ hk => .inl hk)
theorem PoolK.drewN (h : PoolK w0 pv p d sh ws xs X w) (m : Nat) : PoolK w0 pv p d sh ws xs X (w.drewN m) := h.same (below_drewN' (Below.refl _ _) m)
/-- Blocks that stand apart are written, or new ones are made. -/
theorem PoolK.wrote {F X' : List Nat} (h : PoolK w0 pv p d sh ws xs X w) (ho : Only F w w') (hF : ∀ k ∈ F, k ∈ X ∨ w.heap.size ≤ k) (hlo : ∀ k ∈ F, w0.heap.size ≤ k) (hX : ∀ k ∈ X', k ∈ X ∨ w.heap.size ≤ k) (hXl : ∀ k ∈ X', k < w'.heap.size) : PoolK w0 pv p d sh ws xs X' w' := by
  obtain ⟨y, h1, h2, h3, h4, h5, h6, h7⟩ := h
  have hk : KeepB (kfoot y ws.length) w w' := fun k hk => ho.block k (h2.lt k hk) (fun hf => by
    rcases hF k hf with e | e
    · exact h6 k e hk
    · have := h2.lt k hk; omega)
  refine ⟨y, h1, h2.keep hk, h3, h4, h5.wrote ho (fun k hk => ?_) hlo (fun k hk => ?_) (fun k hk => ?_), fun k hk hm => ?_, h7⟩
  · rcases hF k hk with e | e
    · exact .inl (List.mem_append_left _ e)
    · exact .inr e
  · rcases List.mem_append.1 hk with e | e
    · rcases hX k e with e | e
      · exact .inl (List.mem_append_left _ e)
      · exact .inr e
    · exact .inl (List.mem_append_right _ e)
  · rcases List.mem_append.1 hk with e | e
    · exact hXl k e
    · exact Nat.lt_of_lt_of_le (h2.lt k e) ho.size
  · rcases hX k hk with e | e
    · exact h6 k e hm
    · have := h2.lt k hm; omega
/-- The pool is changed, its device is not. -/
theorem pool_step {y : Lay} {ws' xs' : List Nat} (h1 : pv = .pointer (some ⟨y.P, 0, none⟩)) (_hl : ∀ k ∈ kfoot y ws.length, k < w.heap.size) (h5 : DevK w0 (.pointer p) d (X ++ kfoot y ws.length) w) (h6 : ∀ k ∈ X, k ∉ kfoot y ws.length) (h7 : ∀ k ∈ kfoot y ws.length, w0.heap.size ≤ k)
    (hn : ws'.length = ws.length) (hg : Good7 ws' xs') (hs : PoStep w y (.pointer p) sh ws.length ws' xs' w') : PoolK w0 pv p d sh ws' xs' X w' ∧ KeepB X w w' := by
  obtain ⟨y', a1, a2, a3, a4, a5, a6⟩ := hs
  have hw0 : w0.heap.size ≤ w.heap.size := h5.devIn.below.size
  have hxl : ∀ k ∈ X, k < w.heap.size := by obtain ⟨_, _, _, _, h⟩ := h5; exact fun k hk => (h k (List.mem_append_left _ hk)).2
  refine ⟨⟨y', by rw [a3]; exact h1, a1, a2, hg, h5.wrote a5 (fun k hk => .inl (List.mem_append_right _ hk)) h7 (fun k hk => ?_) (fun k hk => ?_), fun k hk hm => ?_, fun k hk => ?_⟩, fun k hk => a5.block k (hxl k hk) (h6 k hk)⟩
  · rw [hn] at hk
    rcases List.mem_append.1 hk with e | e
    · exact .inl (List.mem_append_left _ e)
    · rcases a6 k e with e | e
      · exact .inl (List.mem_append_right _ e)
      · exact .inr e
  · rcases List.mem_append.1 hk with e | e
    · exact Nat.lt_of_lt_of_le (hxl k e) a5.size
    · exact a1.lt k e
  · rw [hn] at hm
    rcases a6 k hm with e | e
    · exact h6 k hk e
    · have := hxl k hk; omega
  · rw [hn] at hk
    rcases a6 k hk with e | e
    · exact h7 k e
    · omega
end

/-- What Take makes: the device, what is taken, what is reserved, the error. -/
noncomputable def takeR (d : V.Dv) (sh : V.Sh) (da : Nat) (ws xs : List Nat) (x : Int) : V.Dv × List Nat × List Nat × Int :=
  match P.find da xs x with
  | some (i, b) =>
    if (d.put (sh.table + 8 * (i : Int)) (S.tkW (ws.getD i 0) (S.cls (used ws xs i) : Int) (b : Int))).2 = 0
    then ((d.put (sh.table + 8 * (i : Int)) (S.tkW (ws.getD i 0) (S.cls (used ws xs i) : Int) (b : Int))).1, ws.set i (S.tkW (ws.getD i 0) (S.cls (used ws xs i) : Int) (b : Int)), xs.set i (S.drW (xs.getD i 0) (b : Int)), 0)
    else ((d.put (sh.table + 8 * (i : Int)) (S.tkW (ws.getD i 0) (S.cls (used ws xs i) : Int) (b : Int))).1, ws, xs, (d.put (sh.table + 8 * (i : Int)) (S.tkW (ws.getD i 0) (S.cls (used ws xs i) : Int) (b : Int))).2)
  | none => (d, ws, xs, 7)
/-- What a call leaves that changes pool and device. -/
def TkPost (w0 : World) (pv : Value) (p : Option Addr) (sh : V.Sh) (X : List Nat) (w : World) (r : V.Dv × List Nat × List Nat × Int) (e : Ending) (w' : World) : Prop :=
  e = .returned (.int .i64 r.2.2.2) ∧ PoolK w0 pv p r.1 sh r.2.1 r.2.2.1 X w' ∧ KeepB X w w'
theorem TkPost.mk {w0 : World} {pv : Value} {p : Option Addr} {sh : V.Sh} {X : List Nat} {w w' : World} {r : V.Dv × List Nat × List Nat × Int} {d : V.Dv} {ws xs : List Nat} {e : Int} (hr : r = (d, ws, xs, e)) (hp : PoolK w0 pv p d sh ws xs X w') (hk : KeepB X w w') : TkPost w0 pv p sh X w r (.returned (.int .i64 e)) w' := by
  rw [hr]; exact ⟨rfl, hp, hk⟩
/-- A block that is reserved is taken: the words. -/
theorem taken_of {ws xs : List Nat} (hg : Good7 ws xs) {i b : Nat} (hi : i < ws.length) (hb : (S.tkn (xs.getD i 0)).testBit b = true) :
    Good7 (ws.set i (S.tkW (ws.getD i 0) (S.cls (used ws xs i) : Int) (b : Int))) (xs.set i (S.drW (xs.getD i 0) (b : Int))) ∧ ∀ j, used (ws.set i (S.tkW (ws.getD i 0) (S.cls (used ws xs i) : Int) (b : Int))) (xs.set i (S.drW (xs.getD i 0) (b : Int))) j = used ws xs j := by
  have hix : i < xs.length := by rw [hg.len]; exact hi
  obtain ⟨k1, k2, k3, k4, k5⟩ := (hg.pair i hi).take hb
  refine ⟨⟨by simp [hg.len], by simp [hg.most], fun j hj => ?_⟩, fun j => ?_⟩
  · rw [P.getD_set _ _ _ _ hi, P.getD_set _ _ _ _ hix]
    by_cases e : j = i
    · subst e; rw [if_pos rfl, if_pos rfl]; exact k3
    · rw [if_neg e, if_neg e]; exact hg.pair j (by simpa using hj)
  · show (ws.set i _).getD j 0 ||| (xs.set i _).getD j 0 = _
    rw [P.getD_set _ _ _ _ hi, P.getD_set _ _ _ _ hix]
    by_cases e : j = i
    · subst e; rw [if_pos rfl, if_pos rfl]; exact k4
    · rw [if_neg e, if_neg e]; rfl
theorem Qs.same {y : Lay} {ws xs ws' xs' : List Nat} (h : Qs y ws xs) (hn : ws'.length = ws.length) (hu : ∀ j, used ws' xs' j = used ws xs j) : Qs y ws' xs' :=
  ⟨h.ql, fun c hc x hx => by rw [hn]; exact h.qlt c hc x hx, fun c hc j hj _ hr => by rw [hn] at hj; rw [hu] at hr; exact h.at hc hj hr⟩
section

variable {w0 w : World} {pv : Value} {a : Addr} {d : V.Dv} {sh : V.Sh} {ws xs X : List Nat} {da : Nat}

set_option maxHeartbeats 2000000 in
set_option maxRecDepth 100000 in
theorem po_take (h : PoolK w0 pv (some a) d sh ws xs X w) (hs : ShOk sh da) (x : Int) (hx : I64 x) (hst : d.steps ≤ 10000000) :
    Calls Tryz.prog 14 #[pv, .int .i64 x] w (TkPost w0 pv (some a) sh X w (takeR d sh da ws xs x)) := by
  have H0 := Lib.hid h
  obtain ⟨y, rfl, hp, hq, hg, hd, hX, hlo⟩ := h
  have HM := Lib.hid (po_made hp)
  have HF := Lib.hid (po_find hp hs hg x hx)
  have HP := Lib.hid hp
  have HQ := Lib.hid hq
  have HG := Lib.hid hg
  have HD := Lib.hid hd
  have HX := Lib.hid hX
  have HLO := Lib.hid hlo
  have HS := Lib.hid hs
  have HST := Lib.hid hst
  obtain ⟨R, hR⟩ : ∃ R, takeR d sh da ws xs x = R := ⟨_, rfl⟩
  rw [hR]
  have HR := Lib.hid hR
  clear hp hq hg hd hX hlo hs hx hst hR
  generalize hpp : y.P = pp at *
  go_enter Tryz.func14, Tryz.ntmps14
  go_wp2_with fail
  refine HM.out.mono ?_
  rintro e w1 ⟨rfl, rfl⟩
  go_wp2_with fail
  refine HF.out.mono ?_
  rintro e w1 (⟨i, b, hst, rfl, m, rfl⟩ | ⟨hno, g, rfl, hst, hgl, hb⟩)
  · have hs := HP.out.stock i hst.1
    have h2 := hs.c2
    have HH : Hid (∀ W : World, Calls Tryz.prog 48 #[.int .u64 (xs.getD i 0 : Nat), .int .i64 (b : Int)] W fun e w' => e = .returned (.bool ((S.tkn (xs.getD i 0)).testBit b)) ∧ ∃ m, w' = W.drewN m) := fun W => by
      have := sl_has (xs.getD i 0) (b : Int) W (HG.out.x64 hst.1)
      rwa [P.has_nat] at this
    cases hbit : (S.tkn (xs.getD i 0)).testBit b with
    | false =>
      rw [hbit] at HH
      have HRE : Hid (R = (d, ws, xs, 7)) := by
        rw [← HR.out]
        show _ = _
        unfold takeR
        rw [P.find_none (fun i' b' hf => by
          obtain ⟨h3, h4⟩ := (findIs_x HG.out).1 hf
          obtain ⟨rfl, rfl⟩ := hst.one h3
          rw [hbit] at h4; cases h4)]
      clear hs hst hbit
      unfold sptr
      generalize xs.getD i 0 = u at *
      generalize y.S i = sk at *
      go_wp2_with fail
      refine (HH.out _).mono ?_
      rintro e w2 ⟨rfl, m2, hw2⟩
      rw [World.drewN_drewN] at hw2
      subst hw2
      go_wp2
      go_ret
      exact TkPost.mk HRE.out (H0.out.drewN _) (fun _ _ => rfl)
    | true =>
      rw [hbit] at HH
      have hi := hst.1
      obtain ⟨t, ht⟩ : ∃ t, S.tkW (ws.getD i 0) (S.cls (used ws xs i) : Int) (b : Int) = t := ⟨_, rfl⟩
      obtain ⟨u', hu'⟩ : ∃ u', S.drW (xs.getD i 0) (b : Int) = u' := ⟨_, rfl⟩
      obtain ⟨hg2, hu2⟩ := taken_of HG.out hi hbit
      rw [ht, hu'] at hg2 hu2
      have ht64 : t < 2 ^ 64 := by rw [← ht]; exact S.tkW_lt (HG.out.w64 hi) _ _
      have hRE : R = if (d.put (sh.table + 8 * (i : Int)) t).2 = 0 then ((d.put (sh.table + 8 * (i : Int)) t).1, ws.set i t, xs.set i u', 0) else ((d.put (sh.table + 8 * (i : Int)) t).1, ws, xs, (d.put (sh.table + 8 * (i : Int)) t).2) := by
        rw [← HR.out]
        unfold takeR
        rw [P.find_some ((findIs_x HG.out).2 ⟨hst, hbit⟩)]
        dsimp only
        rw [ht, hu']
      have HC : Hid (∀ q, Calls Tryz.prog 50 #[.pointer (some ⟨y.S i, 0, none⟩)] (w.drewN q) fun e w' => e = .returned (.int .i64 (S.cls (used ws xs i) : Nat)) ∧ ∃ k, w' = (w.drewN q).drewN k) := fun q => st_class (hs.drewN q) (HG.out.w64 hi) (HG.out.x64 hi)
      have HTK : Hid (∀ W : World, Calls Tryz.prog 49 #[.int .u64 (ws.getD i 0 : Nat), .int .i64 (S.cls (used ws xs i) : Nat), .int .i64 (b : Int)] W fun e w' => e = .returned (.tuple #[.int .u64 (t : Int), .bool true]) ∧ ∃ m, w' = W.drewN m) := fun W => by
        have := sl_take (ws.getD i 0) (S.cls (used ws xs i) : Int) (b : Int) W (HG.out.w64 hi)
        have htk : S.tak (ws.getD i 0) (S.cls (used ws xs i) : Int) (b : Int) = true := ((HG.out.pair i hi).take hbit).1
        rwa [ht, htk] at this
      have HDR : Hid (∀ W : World, Calls Tryz.prog 44 #[.int .u64 (xs.getD i 0 : Nat), .int .i64 (b : Int)] W fun e w' => e = .returned (.tuple #[.int .u64 (u' : Int), .bool true]) ∧ ∃ m, w' = W.drewN m) := fun W => by
        have := sl_drop (xs.getD i 0) (b : Int) W (HG.out.x64 hi)
        rwa [hu', P.has_nat, hbit] at this
      have HPT : Hid (∀ m, Calls Tryz.prog 45 #[.pointer (some ⟨pp, 0, none⟩), .pointer (some ⟨y.S i, 0, none⟩), .int .u64 (t : Int)] (w.drewN m) (PutPost7 w0 (w.drewN m) y (some a) sh ws xs d (X ++ kfoot y ws.length) i t)) := fun m => by
        have h3 := po_put (HP.out.drewN m) (HD.out.drewN m) (fun k hk => List.mem_append_right _ hk) HLO.out HS.out HG.out hi t ht64 HST.out
        rw [hpp] at h3
        exact h3
      have H1 := Lib.hid hs.c1
      have HI := Lib.hid hi
      have HG2 := Lib.hid hg2
      have HU2 := Lib.hid hu2
      have HRE := Lib.hid hRE
      clear hs hst hbit ht hu' hg2 hu2 ht64 hRE hi
      unfold sptr
      generalize hug : xs.getD i 0 = u at *
      generalize hwg : ws.getD i 0 = t0 at *
      generalize S.cls (used ws xs i) = c at *
      generalize hss : y.S i = sk at *
      have HUG := Lib.hid hug; have HWG := Lib.hid hwg; have HSS := Lib.hid hss
      clear hug hwg hss
      go_wp2_with fail
      refine (HH.out _).mono ?_
      rintro e w2 ⟨rfl, m2, hw2⟩
      rw [World.drewN_drewN] at hw2
      have HC2 : Hid (∀ n, Calls Tryz.prog 50 #[.pointer (some ⟨sk, 0, none⟩)] (w2.drewN n) fun e w' => e = .returned (.int .i64 (c : Nat)) ∧ ∃ k, w' = (w2.drewN n).drewN k) := fun n => by
        rw [hw2, World.drewN_drewN]; exact HC.out _
      have HPT2 : Hid (∀ n, Calls Tryz.prog 45 #[.pointer (some ⟨pp, 0, none⟩), .pointer (some ⟨sk, 0, none⟩), .int .u64 (t : Int)] (w2.drewN n) (PutPost7 w0 (w2.drewN n) y (some a) sh ws xs d (X ++ kfoot y ws.length) i t)) := fun n => by
        rw [hw2, World.drewN_drewN]; exact HPT.out _
      have h1 : w2.cell? ⟨sk, 1, none⟩ = some (.int .u64 (t0 : Int)) := by rw [hw2]; exact H1.out
      have HKW : Hid (∀ k : Nat, w2.heap[k]? = w.heap[k]?) := fun k => by rw [hw2]; rfl
      clear hw2 h2
      go_wp2_with fail
      go_quiet (first
        | (go_at_call 50; exact Calls.quiet_of (HC2.out _))
        | (go_at_call 49; exact Calls.quiet_of (HTK.out _)))
      go_wp2_with fail
      refine (HPT2.out _).mono ?_
      rintro e w3 ⟨rfl, hd3, hk3, hp3⟩
      obtain ⟨dr, hdr⟩ : ∃ dr, d.put (sh.table + 8 * (i : Int)) t = dr := ⟨_, rfl⟩
      rw [hdr] at hd3 hp3 HRE ⊢
      clear hdr
      obtain ⟨d', r⟩ := dr
      dsimp only at hd3 hp3 HRE ⊢
      by_cases hr : r = 0
      · subst hr
        rw [if_pos rfl] at hp3 HRE
        have hs3 := hp3.stock i (by rw [List.length_set]; exact HI.out)
        rw [HSS.out, HUG.out] at hs3
        have h2' := hs3.c2
        have hf2' := hs3.fr 2
        have HOK : Hid (∀ m, PoolK w0 (.pointer (some ⟨pp, 0, none⟩)) (some a) d' sh (ws.set i t) (xs.set i u') X ((w3.drewN m).setCell ⟨sk, 2, none⟩ (.int .u64 (u' : Int))) ∧ KeepB X w ((w3.drewN m).setCell ⟨sk, 2, none⟩ (.int .u64 (u' : Int)))) := by
          intro m
          have ho := Only.setCell (w3.drewN m) ⟨sk, 2, none⟩ (.int .u64 (u' : Int))
          have hsi : y.S i ∈ kfoot y ws.length := mem_kfoot.2 (.inr (.inr (.inr (.inl ⟨i, HI.out, rfl⟩))))
          have hskx : sk ∉ X := fun hm => HX.out sk hm (by rw [← HSS.out]; exact hsi)
          have hp4 := (hp3.drewN m).wrote (i := i) (t := (ws.set i t).getD i 0) (u := u') (by rw [List.length_set]; exact HI.out) (by rw [List.length_set]; exact HG.out.len) (by rw [HSS.out]; exact ho) (by rw [HSS.out]; exact (hs3.drewN m).setH u')
          have e9 : (ws.set i t).set i ((ws.set i t).getD i 0) = ws.set i t := by
            rw [P.getD_set _ _ _ _ HI.out, if_pos rfl, List.set_set]
          rw [e9] at hp4
          have hxl : ∀ k ∈ X, k < w3.heap.size := by obtain ⟨_, _, _, _, h⟩ := hd3; exact fun k hk => (h k (List.mem_append_left _ hk)).2
          refine ⟨⟨y, by rw [hpp], hp4, HQ.out.same (by rw [List.length_set]) HU2.out, HG2.out, ?_, fun k hk => ?_, fun k hk => ?_⟩, fun k hk => ?_⟩
          · rw [List.length_set]
            refine (hd3.drewN m).wrote ho (fun k hk => .inl ?_) (fun k hk => ?_) (fun k hk => .inl hk) (fun k hk => ?_)
            · rw [List.mem_singleton.1 hk]; exact List.mem_append_right _ (by rw [← HSS.out]; exact hsi)
            · rw [List.mem_singleton.1 hk]; exact HLO.out _ (by rw [← HSS.out]; exact hsi)
            · rcases List.mem_append.1 hk with e | e
              · exact Nat.lt_of_lt_of_le (hxl k e) ho.size
              · exact hp4.lt k (by rw [List.length_set]; exact e)
          · rw [List.length_set]; exact HX.out k hk
          · rw [List.length_set] at hk; exact HLO.out k hk
          · exact (ho.block k (hxl k hk) (fun e => hskx (by have e2 : k = sk := List.mem_singleton.1 e; rw [← e2]; exact hk))).trans ((hk3 k (List.mem_append_left _ hk) (HX.out k hk)).trans (HKW.out k))
        have HDR0 := HDR
        clear hp3 hd3 hk3 hs3
        go_wp2_with fail
        refine (HDR.out _).mono ?_
        rintro e w5 ⟨rfl, m5, rfl⟩
        go_wp2
        go_ret
        first | exact TkPost.mk HRE.out (HOK.out _).1 (HOK.out _).2 | exact TkPost.mk HRE.out (HOK.out m5).1 (HOK.out m5).2
      · rw [if_neg hr] at hp3 HRE
        have hrb : (r != 0) = true := by simp [hr]
        have HOK : Hid (PoolK w0 (.pointer (some ⟨pp, 0, none⟩)) (some a) d' sh ws xs X w3 ∧ KeepB X w w3) := ⟨⟨y, by rw [hpp], hp3, HQ.out, HG.out, hd3, HX.out, HLO.out⟩, fun k hk => (hk3 k (List.mem_append_left _ hk) (HX.out k hk)).trans (HKW.out k)⟩
        clear hp3 hd3 hk3 hr
        go_wp2
        go_ret
        exact TkPost.mk HRE.out HOK.out.1 HOK.out.2
  · have h2 := hst.c2
    have HH : Hid (∀ W : World, Calls Tryz.prog 48 #[.int .u64 ((0 : Nat) : Int), .int .i64 ((0 : Nat) : Int)] W fun e w' => e = .returned (.bool false) ∧ ∃ m, w' = W.drewN m) := fun W => by
      have := sl_has 0 ((0 : Nat) : Int) W (by decide)
      rwa [P.has_nat, show S.tkn 0 = 0 from rfl, Nat.zero_testBit] at this
    have HRE : Hid (R = (d, ws, xs, 7)) := by
      rw [← HR.out]
      show _ = _
      unfold takeR
      rw [P.find_none (fun i' b' hf => hno i' b' ((findIs_x HG.out).1 hf).1)]
    have HB := Lib.hid hb
    clear hst hno hb hgl
    go_wp2_with fail
    refine (HH.out _).mono ?_
    rintro e w2 ⟨rfl, m2, rfl⟩
    go_wp2
    go_ret
    exact TkPost.mk HRE.out ((H0.out.same HB.out).drewN _) (fun k hk => HB.out.block k (H0.out.xlt k hk))
end

end Go.Proofs.YtaceogpdjbikiaaGreatDoor
