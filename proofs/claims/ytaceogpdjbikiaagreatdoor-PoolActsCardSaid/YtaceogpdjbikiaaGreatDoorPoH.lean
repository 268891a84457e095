
/- Layer 7: Reserve. -/
import Derived.Test.YtaceogpdjbikiaaGreatDoorPoG
namespace Go.Proofs.YtaceogpdjbikiaaGreatDoor

open Go.RowKit

/-- What is taken, or reserved, of all slabs. -/
def both (ws xs : List Nat) : List Nat := (List.range ws.length).map (used ws xs)
theorem both_len (ws xs : List Nat) : (both ws xs).length = ws.length := by simp [both]
theorem both_get {ws xs : List Nat} {i : Nat} (hi : i < ws.length) : (both ws xs).getD i 0 = used ws xs i := by
  simp [both, List.getD_eq_getElem?_getD, hi]
theorem Good7.right {ws xs : List Nat} (h : Good7 ws xs) {i : Nat} (hi : i < ws.length) : S.rgt (used ws xs i) = true := (h.pair i hi).both.1
theorem room_fits {u : Nat} (_hr : S.rgt u = true) {c : Nat} (hc : c = 1 ∨ c = 2) : room u (c : Int) = P.fits (c : Int) u := by
  unfold room P.fits
  have h0 : decide ((c : Int) = 0) = false := decide_eq_false (by omega)
  rw [h0, Bool.false_or, ← Bool.decide_and]
  congr 1
  apply propext
  constructor
  · rintro ⟨h1, h2⟩
    exact ⟨fun e => by rw [e, show S.cls 0 = 0 from rfl] at h1; omega, h2⟩
  · rintro ⟨h1, h2⟩
    refine ⟨?_, h2⟩
    cases hs : S.sui u (c : Int) with
    | false => rw [S.nxt_not hs] at h2; omega
    | true =>
      rcases (S.sui_blk hs).2 with e | e
      · exact absurd e h1
      · exact e
theorem room_zero7 {u : Nat} (hr : S.rgt u = true) : room u ((0 : Nat) : Int) = decide (u = 0) := by
  unfold room
  rw [show decide (((0 : Nat) : Int) = 0) = true from rfl, Bool.true_or, Bool.and_true]
  congr 1
  apply propext
  rw [← P.rgt_cls0 hr]
  omega
/-- The first that fits, by the list. -/
theorem findIdx_first {ws xs : List Nat} {f : Nat → Bool} {s : Nat} (hs : s < ws.length) (hf : f (used ws xs s) = true) (hm : ∀ i, i < ws.length → f (used ws xs i) = true → s ≤ i) : (both ws xs).findIdx? f = some s := by
  rw [List.findIdx?_eq_some_iff_getElem]
  refine ⟨by rw [both_len]; exact hs, ?_, fun j hj => ?_⟩
  · simpa [both] using hf
  · have hjl : j < ws.length := by omega
    have : ¬ f (used ws xs j) = true := fun h => by have := hm j hjl h; omega
    simpa [both] using this
theorem findIdx_no {ws xs : List Nat} {f : Nat → Bool} (hm : ∀ i, i < ws.length → f (used ws xs i) = false) : (both ws xs).findIdx? f = none := by
  rw [List.findIdx?_eq_none_iff]
  intro x hx
  obtain ⟨i, hi, rfl⟩ := List.mem_map.1 hx
  exact hm i (List.mem_range.1 hi)
/-- What Reserve makes of the reserved words, the place that it tells, and the error. -/
def rsv (da : Nat) (ws xs : List Nat) (c : Int) : List Nat × Int × Int :=
  if c = 1 ∨ c = 2 then
    match P.pick c (both ws xs) with
    | some i => (xs.set i (S.tkW (xs.getD i 0) c (S.nxt (used ws xs i) c)), ((P.off da i c.toNat (S.nxt (used ws xs i) c).toNat : Nat) : Int), 0)
    | none => (xs, 0, 6)
  else (xs, 0, 2)
/-- A slab is held. -/
theorem held_of {ws xs : List Nat} (hg : Good7 ws xs) {i : Nat} (hi : i < ws.length) {c : Int} (hc : c = 1 ∨ c = 2) (hr : P.fits c (used ws xs i) = true ∨ used ws xs i = 0) :
    ∃ b : Nat, S.nxt (used ws xs i) c = (b : Int) ∧ b ≤ 16 ∧ Good7 ws (xs.set i (S.tkW (xs.getD i 0) c (b : Int))) ∧ used ws (xs.set i (S.tkW (xs.getD i 0) c (b : Int))) i = S.tkW (used ws xs i) c (b : Int) ∧ S.cls (used ws (xs.set i (S.tkW (xs.getD i 0) c (b : Int))) i) = c.toNat ∧
      ∀ j, j ≠ i → used ws (xs.set i (S.tkW (xs.getD i 0) c (b : Int))) j = used ws xs j := by
  have hix : i < xs.length := by rw [hg.len]; exact hi
  obtain ⟨b, h1, h2, h3⟩ := P.nxt_take hc (hg.right hi) hr
  obtain ⟨k1, k2, k3⟩ := (hg.pair i hi).hold h3
  have hu : used ws (xs.set i (S.tkW (xs.getD i 0) c (b : Int))) i = S.tkW (used ws xs i) c (b : Int) := by
    show ws.getD i 0 ||| (xs.set i _).getD i 0 = _
    rw [P.getD_set _ _ _ _ hix, if_pos rfl]; exact k3
  have hne : ∀ j, j ≠ i → used ws (xs.set i (S.tkW (xs.getD i 0) c (b : Int))) j = used ws xs j := fun j e => by
    show ws.getD j 0 ||| (xs.set i _).getD j 0 = _
    rw [P.getD_set _ _ _ _ hix, if_neg e]; rfl
  obtain ⟨k, e, t1, t2, t3, t4, t5, t6, t7, t8, t9, t10, t11⟩ := S.take_of h3
  refine ⟨b, h1, Nat.le_trans (Nat.le_of_lt h2) (S.blk_le _), ⟨by rw [List.length_set]; exact hg.len, hg.most, fun j hj => ?_⟩, hu, by rw [hu, t10], hne⟩
  rw [P.getD_set _ _ _ _ hix]
  by_cases e : j = i
  · subst e; rw [if_pos rfl]; exact k2
  · rw [if_neg e]; exact hg.pair j hj
abbrev Tab7 (w : World) : Prop := TabAt 1 Lib.deBruijn64tab w
theorem Tab7.block {w w' : World} (h : Tab7 w) (hb : w'.heap[1]? = w.heap[1]?) : Tab7 w' := by
  intro j hj
  exact (World.cell?_of_block (w := w) (a := ⟨1, j, none⟩) hb).trans (h j hj)
theorem Tab7.lt {w : World} (h : Tab7 w) : 1 < w.heap.size := World.block_lt_of_cell? w _ (h 0 (by decide))
theorem Tab7.only {w w' : World} {F : List Nat} (h : Tab7 w) (ho : Only F w w') (hF : 1 ∉ F) : Tab7 w' := h.block (ho.block _ h.lt hF)
theorem Tab7.drewN {w : World} (h : Tab7 w) (m : Nat) : Tab7 (w.drewN m) := h
section

variable {w : World} {y : Lay} {dv : Value} {sh : V.Sh} {ws xs : List Nat}

/-- What 'next' leaves of the pool. -/
def PoNext (w : World) (y : Lay) (dv : Value) (sh : V.Sh) (ws xs : List Nat) (c : Nat) (r : Option Nat) (w' : World) : Prop :=
  ∃ y', PoAt w' y' dv sh ws xs ∧ y'.P = y.P ∧ y'.S = y.S ∧ Only (kfoot y ws.length) w w' ∧ (∀ k ∈ kfoot y' ws.length, k ∈ kfoot y ws.length ∨ w.heap.size ≤ k) ∧ (match r with
    | none => Qs y' ws xs ∧ ∀ i, i < ws.length → room (used ws xs i) (c : Int) = false
    | some s => s < ws.length ∧ room (used ws xs s) (c : Int) = true ∧ (∀ i, i < ws.length → room (used ws xs i) (c : Int) = true → s ≤ i) ∧ QsBut y' ws xs s)
theorem po_next (h : PoAt w y dv sh ws xs) (hg : Good7 ws xs) (hq : Qs y ws xs) (hT : Tab7 w) (hgT : 1 ∉ kfoot y ws.length) {c : Nat} (hc : c < 3) :
    Calls Tryz.prog 33 #[.pointer (some ⟨y.Q c, 0, none⟩), .func (.func 34) #[.int .i64 (c : Int)] #[]] w fun e w' => ∃ r, e = .returned (nextV y.S r) ∧ PoNext w y dv sh ws xs c r w' := by
  have hsub : ∀ k ∈ y.Q c :: ownL (y.V c), k ∈ kfoot y ws.length := fun k hk => mem_kfoot.2 (.inr (.inr (.inr (.inr ⟨c, hc, hk⟩))))
  refine (q_next (h.queue c hc) h.nums (hq.qlt c hc) (h.off hc) (by have := hq.len hc; have := hg.most; omega) (hq.ql c hc) (fun i => room (used ws xs i) (c : Int)) (c : Int) (fun wr ho i hi =>
    st_fits ((h.stock i hi).only ho ((h.s_ne hi).2.2.2 c hc)) (hg.w64 hi) (hg.x64 hi) (hT.only ho (fun e => hgT (hsub _ e))) (c : Int))).mono ?_
  rintro e w' ⟨r, rfl, L', hn, hs⟩
  obtain ⟨V', hp, hv, ho⟩ := h.queued hc hs
  refine ⟨r, rfl, _, hp, rfl, rfl, ho.mono hsub, kfoot_queued hv hc, ?_⟩
  obtain ⟨n1, n2, n3⟩ := hn
  have base : ∀ i, (∀ j, j < ws.length → j ≠ i → room (used ws xs j) (c : Int) = true → j ∈ L') → QsBut { y with V := upd y.V c V', L := upd y.L c L' } ws xs i := fun i hin => by
    refine ⟨fun a ha => ?_, fun a ha x hx => ?_, fun a ha j hj hji hr => ?_⟩
    · show H.QL (upd y.L c L' a)
      by_cases e : a = c
      · rw [e, upd_same]; exact n1
      · rw [upd_other _ _ e]; exact hq.ql a ha
    · change x ∈ upd y.L c L' a at hx
      by_cases e : a = c
      · rw [e, upd_same] at hx; exact hq.qlt c hc x (n2 x hx)
      · rw [upd_other _ _ e] at hx; exact hq.qlt a ha x hx
    · show j ∈ upd y.L c L' a
      by_cases e : a = c
      · subst e; rw [upd_same]; exact hin j hj hji hr
      · rw [upd_other _ _ e]; exact hq.at ha hj hr
  cases r with
  | none =>
    have hno : ∀ i, i < ws.length → room (used ws xs i) (c : Int) = false := fun i hi => by
      cases hr : room (used ws xs i) (c : Int) with
      | false => rfl
      | true => have := n3 i (hq.at hc hi hr); rw [← hr]; exact this
    exact ⟨base _ (fun j hj _ hr => by rw [hno j hj] at hr; cases hr), hno⟩
  | some s =>
    obtain ⟨m1, m2, m3, m4, m5⟩ := n3
    exact ⟨hq.qlt c hc s m1, m2, fun i hi hr => m4 i (hq.at hc hi hr) hr, base s (fun j hj hjs hr => by
      rcases m5 j (hq.at hc hj hr) hr with e | e
      · exact absurd e hjs
      · exact e)⟩
end

end Go.Proofs.YtaceogpdjbikiaaGreatDoor
