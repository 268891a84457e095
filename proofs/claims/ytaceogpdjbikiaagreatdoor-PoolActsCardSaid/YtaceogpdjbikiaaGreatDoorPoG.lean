
/- Layer 7: offer and put: a slab comes into its queue; a slab's word is put on the device. -/
import Derived.Test.YtaceogpdjbikiaaGreatDoorPoF
namespace Go.Proofs.YtaceogpdjbikiaaGreatDoor

open Go.RowKit

theorem nodup_len : ∀ (n : Nat) (L : List Nat), L.Nodup → (∀ x ∈ L, x < n) → L.length ≤ n
  | 0, L, _, h => by
    cases L with
    | nil => exact Nat.le_refl _
    | cons x l => exact absurd (h x (by simp)) (Nat.not_lt_zero _)
  | n + 1, L, hd, h => by
    have h1 := nodup_len n (L.erase n) (hd.erase n) (fun x hx => by
      obtain ⟨hne, hm⟩ := (List.Nodup.mem_erase_iff hd).1 hx
      have := h x hm; omega)
    have h2 : L.length ≤ (L.erase n).length + 1 := by
      rw [List.length_erase]; split <;> omega
    omega
/-- Each slab that has room, but maybe one, stands in the queue of its class. -/
structure QsBut (y : Lay) (ws xs : List Nat) (i : Nat) : Prop where
  ql : ∀ c : Nat, c < 3 → H.QL (y.L c)
  qlt : ∀ c : Nat, c < 3 → ∀ x ∈ y.L c, x < ws.length
  inn : ∀ c : Nat, c < 3 → ∀ j, j < ws.length → j ≠ i → room (used ws xs j) (c : Int) = true → j ∈ y.L c
def Qs (y : Lay) (ws xs : List Nat) : Prop := QsBut y ws xs ws.length
theorem Qs.but {y : Lay} {ws xs : List Nat} (h : Qs y ws xs) (i : Nat) : QsBut y ws xs i := ⟨h.ql, h.qlt, fun c hc j hj _ hr => h.inn c hc j hj (by omega) hr⟩
theorem Qs.at {y : Lay} {ws xs : List Nat} (h : Qs y ws xs) {c j : Nat} (hc : c < 3) (hj : j < ws.length) (hr : room (used ws xs j) (c : Int) = true) : j ∈ y.L c := h.inn c hc j hj (by omega) hr
theorem QsBut.len {y : Lay} {ws xs : List Nat} {i : Nat} (h : QsBut y ws xs i) {c : Nat} (hc : c < 3) : (y.L c).length ≤ ws.length := nodup_len _ _ (h.ql c hc).2 (h.qlt c hc)
/-- What a call leaves that changes a pool. -/
def PoStep (w : World) (y : Lay) (dv : Value) (sh : V.Sh) (n : Nat) (ws xs : List Nat) (w' : World) : Prop :=
  ∃ y', PoAt w' y' dv sh ws xs ∧ Qs y' ws xs ∧ y'.P = y.P ∧ y'.S = y.S ∧ Only (kfoot y n) w w' ∧ ∀ k ∈ kfoot y' n, k ∈ kfoot y n ∨ w.heap.size ≤ k
theorem room_cls {u c : Nat} (h : room u (c : Int) = true) : S.cls u = c := by
  unfold room at h
  rw [Bool.and_eq_true, decide_eq_true_eq] at h
  omega
section

variable {w : World} {y : Lay} {dv : Value} {sh : V.Sh} {ws xs : List Nat}

theorem offered (h : PoAt w y dv sh ws xs) {i : Nat} (hi : i < ws.length) (hq : QsBut y ws xs i) {c : Nat} (hc : c < 3) (hcl : S.cls (used ws xs i) = c) {w' : World} {L' : List Nat} (h1 : H.QL L') (h2 : ∀ z, z ∈ L' ↔ z = i ∨ z ∈ y.L c) (hs : QStep w y.S (y.Q c) (y.V c) L' w') : PoStep w y dv sh ws.length ws xs w' := by
  obtain ⟨V', hp, hv, ho⟩ := h.queued hc hs
  refine ⟨_, hp, ⟨fun a ha => ?_, fun a ha x hx => ?_, fun a ha j hj _ hr => ?_⟩, rfl, rfl, ho.mono (fun k hk => mem_kfoot.2 (.inr (.inr (.inr (.inr ⟨c, hc, hk⟩))))), kfoot_queued hv hc⟩
  · show H.QL (upd y.L c L' a)
    by_cases e : a = c
    · rw [e, upd_same]; exact h1
    · rw [upd_other _ _ e]; exact hq.ql a ha
  · change x ∈ upd y.L c L' a at hx
    by_cases e : a = c
    · rw [e, upd_same] at hx
      rcases (h2 x).1 hx with rfl | hx
      · exact hi
      · exact hq.qlt c hc x hx
    · rw [upd_other _ _ e] at hx; exact hq.qlt a ha x hx
  · show j ∈ upd y.L c L' a
    by_cases ej : j = i
    · have : a = c := by rw [ej] at hr; rw [← hcl, room_cls hr]
      rw [this, upd_same, ej]; exact (h2 i).2 (.inl rfl)
    · have hin := hq.inn a ha j hj ej hr
      by_cases e : a = c
      · rw [e, upd_same]; exact (h2 j).2 (.inr (e ▸ hin))
      · rw [upd_other _ _ e]; exact hin
set_option maxHeartbeats 1000000 in
set_option maxRecDepth 100000 in
theorem po_offer (h : PoAt w y dv sh ws xs) (hg : Good7 ws xs) {i : Nat} (hi : i < ws.length) (hq : QsBut y ws xs i) :
    Calls Tryz.prog 36 #[.pointer (some ⟨y.P, 0, none⟩), sptr y.S i] w fun e w' => e = .returned (.tuple #[]) ∧ PoStep w y dv sh ws.length ws xs w' := by
  have hc3 : S.cls (used ws xs i) < 3 := by have := S.cls_le (used ws xs i); omega
  have h6 := h.c6
  have hst := h.stock i hi
  obtain ⟨c, hc⟩ : ∃ c, S.cls (used ws xs i) = c := ⟨_, rfl⟩
  have HC : Hid (∀ m, Calls Tryz.prog 50 #[.pointer (some ⟨y.S i, 0, none⟩)] (w.drewN m) fun e w' => e = .returned (.int .i64 (c : Nat)) ∧ ∃ k, w' = (w.drewN m).drewN k) := fun m => by
    have h2 := st_class (hst.drewN m) (hg.w64 hi) (hg.x64 hi)
    rw [show S.cls (ws.getD i 0 ||| xs.getD i 0) = c from hc] at h2
    exact h2
  rw [hc] at hc3
  have hlook0 := h.map.look c hc3
  have hlook : ∀ m, (Instr.lookup 76 (.map (some y.M)) (.int .i64 (c : Int)) false).run Tryz.prog (w.drewN m) = .ok (.pointer (some ⟨y.Q c, 0, none⟩)) (w.drewN m) := fun m => (h.drewN m).map.look c hc3
  have hlook1 := hlook 1
  have HAD : Hid (∀ m, Calls Tryz.prog 77 #[.pointer (some ⟨y.Q c, 0, none⟩), .pointer (some ⟨y.S i, 0, none⟩)] (w.drewN m) fun e w' => e = .returned (.tuple #[]) ∧ PoStep w y dv sh ws.length ws xs w') := fun m => by
    have hm := h.drewN m
    refine (q_add (hm.queue c hc3) hm.nums (hq.qlt c hc3) (hm.off hc3) (by have := hq.len hc3; have := hg.most; omega) (hq.ql c hc3) i hi).mono ?_
    rintro e w' ⟨he, L', a1, a2, a3⟩
    obtain ⟨y', b1, b2, b3, b4, b5, b6⟩ := offered hm hi hq hc3 hc a1 a2 a3
    exact ⟨he, y', b1, b2, b3, b4, ((Only.refl _ _).drewN m).trans' b5, b6⟩
  clear h hg hi hq hst hc
  unfold sptr
  generalize y.P = p at *
  generalize y.S i = sk at *
  generalize y.Q c = qc at *
  go_enter Tryz.func36, Tryz.ntmps36
  go_wp2_with fail
  go_region_with (first
    | (go_at_call 50; refine (HC.out _).mono ?_; rintro e w1 ⟨rfl, m1, rfl⟩)
    | (go_at_call 50; refine (HC.out 1).mono ?_; rintro e w1 ⟨rfl, m1, rfl⟩)
    | (go_at_call 77; refine (HAD.out _).mono ?_; rintro e w1 ⟨rfl, hp⟩))
  all_goals (go_end0; exact ⟨rfl, hp⟩)
end

/-! ### Beside a device -/
section

variable {w0 wr w1 : World} {v : Value} {d : V.Dv} {K : List Nat}

/-- What writes blocks that stand apart alone, or new ones. -/
theorem DevK.wrote {F K' : List Nat} (h : DevK w0 v d K wr) (ho : Only F wr w1) (hF : ∀ k ∈ F, k ∈ K ∨ wr.heap.size ≤ k) (hlo : ∀ k ∈ F, w0.heap.size ≤ k) (hK : ∀ k ∈ K', k ∈ K ∨ wr.heap.size ≤ k) (hKl : ∀ k ∈ K', k < w1.heap.size) : DevK w0 v d K' w1 := by
  obtain ⟨G, h1, h2, h3, h4⟩ := h
  refine ⟨G, h1.only ho (fun k hk hg => ?_), h2, h3.trans (ho.below h3.size hlo), fun k hk => ⟨fun hg => ?_, hKl k hk⟩⟩
  · rcases hF k hk with e | e
    · exact (h4 k e).1 hg
    · have := h1.lt k hg; omega
  · rcases hK k hk with e | e
    · exact (h4 k e).1 hg
    · have := h1.lt k hg; omega
theorem k_put {p : Option Addr} (h : DevK w0 (.pointer p) d K wr) (off : Int) (hoff : I64 off) (n : Nat) (hn : n < 2 ^ 64) (hs : d.steps ≤ 10000000) :
    Calls Tryz.prog 83 #[.pointer p, .int .i64 off, .int .u64 (n : Int)] wr fun e w' => e = .returned (.int .i64 (d.put off n).2) ∧ DevK w0 (.pointer p) (d.put off n).1 K w' ∧ KeepB K wr w' :=
  h.run (fun _ hd => su_put hd off hoff n hn hs)
end

section

variable {w0 w : World} {y : Lay} {p : Option Addr} {sh : V.Sh} {ws xs : List Nat} {d : V.Dv} {da : Nat}

/-- Of K, what is not F is as it was. -/
def KeepOut (K F : List Nat) (w w' : World) : Prop := ∀ k ∈ K, k ∉ F → w'.heap[k]? = w.heap[k]?
theorem KeepOut.trans {K F : List Nat} {a b c : World} (h : KeepOut K F a b) (k : KeepOut K F b c) : KeepOut K F a c := fun q hq hn => (k q hq hn).trans (h q hq hn)
theorem KeepOut.of {K F : List Nat} {a b : World} (h : KeepB K a b) : KeepOut K F a b := fun q hq _ => h q hq
/-- What 'put' leaves. -/
def PutPost7 (w0 w : World) (y : Lay) (p : Option Addr) (sh : V.Sh) (ws xs : List Nat) (d : V.Dv) (K : List Nat) (i t : Nat) (e : Ending) (w' : World) : Prop :=
  e = .returned (.int .i64 (d.put (sh.table + 8 * (i : Int)) t).2) ∧ DevK w0 (.pointer p) (d.put (sh.table + 8 * (i : Int)) t).1 K w' ∧ KeepOut K (kfoot y ws.length) w w' ∧
  PoAt w' y (.pointer p) sh (if (d.put (sh.table + 8 * (i : Int)) t).2 = 0 then ws.set i t else ws) xs
set_option maxHeartbeats 1000000 in
set_option maxRecDepth 100000 in
theorem po_put {K : List Nat} (h : PoAt w y (.pointer p) sh ws xs) (hd : DevK w0 (.pointer p) d K w) (hsub : ∀ k ∈ kfoot y ws.length, k ∈ K) (hlo : ∀ k ∈ kfoot y ws.length, w0.heap.size ≤ k) (hs : ShOk sh da) (hg : Good7 ws xs) {i : Nat} (hi : i < ws.length) (t : Nat) (ht : t < 2 ^ 64) (hst : d.steps ≤ 10000000) :
    Calls Tryz.prog 45 #[.pointer (some ⟨y.P, 0, none⟩), sptr y.S i, .int .u64 (t : Int)] w (PutPost7 w0 w y p sh ws xs d K i t) := by
  have hm := hg.most
  have h0 := h.c0
  have hn0 := (h.stock i hi).c0
  have HW : Hid (∀ m, Calls Tryz.prog 61 #[.pointer (some ⟨y.P, 0, none⟩), .int .i64 (i : Int)] (w.drewN m) fun e w' => e = .returned (.int .i64 (sh.table + 8 * (i : Int))) ∧ w.drewN m = w') := fun m => po_wordPlace (h.drewN m) hs i (by omega)
  have HSI : Hid (y.S i ∈ kfoot y ws.length) := mem_kfoot.2 (.inr (.inr (.inr (.inl ⟨i, hi, rfl⟩))))
  have hoff : I64 (sh.table + 8 * (i : Int)) := ⟨by have := hs.table; omega, by have := hs.table; omega⟩
  have HP : Hid (∀ m, Calls Tryz.prog 83 #[.pointer p, .int .i64 (sh.table + 8 * (i : Int)), .int .u64 (t : Int)] (w.drewN m) fun e w' => e = .returned (.int .i64 (d.put (sh.table + 8 * (i : Int)) t).2) ∧ DevK w0 (.pointer p) (d.put (sh.table + 8 * (i : Int)) t).1 K w' ∧ PoAt w' y (.pointer p) sh ws xs ∧ KeepOut K (kfoot y ws.length) w w') := fun m =>
    (k_put (hd.drewN m) _ hoff t ht hst).mono fun e w' ⟨a, b, c⟩ => ⟨a, b, (h.drewN m).keep (fun k hk => c k (hsub k hk)), fun k hk _ => c k hk⟩
  have HL : Hid (xs.length = ws.length) := hg.len
  have HLO := Lib.hid hlo
  have HI := Lib.hid hi
  have HSUB := Lib.hid hsub
  clear h hd hlo hs hg hi ht hst hoff hsub
  unfold PutPost7
  unfold sptr
  generalize d.put (sh.table + 8 * (i : Int)) t = dr at *
  obtain ⟨d', r⟩ := dr
  dsimp only at *
  by_cases hr : r = 0
  · subst hr
    rw [if_pos rfl]
    generalize hpp : y.P = pp at *
    generalize hss : y.S i = sk at *
    generalize sh.table + 8 * (i : Int) = off at *
    go_enter Tryz.func45, Tryz.ntmps45
    go_wp2_with fail
    go_region_with (first
      | (go_at_call 61; refine (HW.out _).mono ?_; rintro e w1 ⟨rfl, rfl⟩)
      | (go_at_call 61; refine (HW.out 1).mono ?_; rintro e w1 ⟨rfl, rfl⟩)
      | (go_at_call 83; refine (HP.out _).mono ?_; rintro e w1 ⟨rfl, hd1, hp1, hk1⟩)
      | (go_at_call 83; refine (HP.out 1).mono ?_; rintro e w1 ⟨rfl, hd1, hp1, hk1⟩))
    all_goals
      have hs1 := hp1.stock i HI.out
      rw [hss] at hs1
      have hc1 := hs1.c1
      have hf1 := hs1.fr 1
      have HP2 : Hid (PoAt (w1.setCell ⟨sk, 1, none⟩ (.int .u64 (t : Int))) y (.pointer p) sh (ws.set i t) xs) := by
        have ho := Only.setCell w1 ⟨sk, 1, none⟩ (.int .u64 (t : Int))
        have h2 := hp1.wrote (i := i) (t := t) (u := xs.getD i 0) HI.out HL.out (by rw [hss]; exact ho) (by rw [hss]; exact hs1.setT t)
        have e : xs.set i (xs.getD i 0) = xs := by
          apply List.ext_getElem?
          intro j
          rw [List.getElem?_set]
          by_cases e : i = j
          · subst e
            have hix : i < xs.length := by rw [HL.out]; exact HI.out
            rw [if_pos rfl, if_pos hix, List.getElem?_eq_getElem hix, List.getD_eq_getElem?_getD, List.getElem?_eq_getElem hix]; rfl
          · rw [if_neg e]
        rw [e] at h2
        exact h2
      have HD2 : Hid (DevK w0 (.pointer p) d' K (w1.setCell ⟨sk, 1, none⟩ (.int .u64 (t : Int)))) := by
        have ho := Only.setCell w1 ⟨sk, 1, none⟩ (.int .u64 (t : Int))
        refine hd1.wrote ho (fun k hk => .inl ?_) (fun k hk => HLO.out k ?_) (fun k hk => .inl hk) (fun k hk => ?_)
        · rw [List.mem_singleton.1 hk]; exact HSUB.out _ HSI.out
        · rw [List.mem_singleton.1 hk]; exact HSI.out
        · obtain ⟨_, _, _, _, h4⟩ := hd1
          exact Nat.lt_of_lt_of_le (h4 k hk).2 ho.size
      have HK2 : Hid (KeepOut K (kfoot y ws.length) w (w1.setCell ⟨sk, 1, none⟩ (.int .u64 (t : Int)))) := fun k hk hn => by
        have ho := Only.setCell w1 ⟨sk, 1, none⟩ (.int .u64 (t : Int))
        obtain ⟨_, _, _, _, h4⟩ := hd1
        exact (ho.block k (h4 k hk).2 (fun e => hn (by rw [List.mem_singleton.1 e]; exact HSI.out))).trans (hk1 k hk hn)
      clear hs1 hp1 hd1 hk1
      go_wp2
      go_ret
      exact ⟨rfl, HD2.out, HK2.out, HP2.out⟩
  · rw [if_neg hr]
    have hrb : (r != 0) = true := by simp [hr]
    generalize hpp : y.P = pp at *
    generalize hss : y.S i = sk at *
    generalize sh.table + 8 * (i : Int) = off at *
    clear hr
    go_enter Tryz.func45, Tryz.ntmps45
    go_wp2_with fail
    go_region_with (first
      | (go_at_call 61; refine (HW.out _).mono ?_; rintro e w1 ⟨rfl, rfl⟩)
      | (go_at_call 61; refine (HW.out 1).mono ?_; rintro e w1 ⟨rfl, rfl⟩)
      | (go_at_call 83; refine (HP.out _).mono ?_; rintro e w1 ⟨rfl, hd1, hp1, hk1⟩)
      | (go_at_call 83; refine (HP.out 1).mono ?_; rintro e w1 ⟨rfl, hd1, hp1, hk1⟩))
    all_goals
      have HP2 := Lib.hid hp1
      have HD2 := Lib.hid hd1
      have HK2 := Lib.hid hk1
      clear hp1 hd1 hk1
      go_wp2
      go_ret
      exact ⟨rfl, HD2.out, HK2.out, HP2.out⟩
end

end Go.Proofs.YtaceogpdjbikiaaGreatDoor
