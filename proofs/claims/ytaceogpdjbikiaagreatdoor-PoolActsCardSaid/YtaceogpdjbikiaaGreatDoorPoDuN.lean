
/- PoolDurable: the last call, on a device that goes down; what a crash leaves of it. -/
import Derived.Test.YtaceogpdjbikiaaGreatDoorPoDuM
namespace Go.Proofs.YtaceogpdjbikiaaGreatDoor

open Go.RowKit

theorem good_right {ws xs : List Nat} (h : Good7 ws xs) : allRight ws = true := by
  unfold allRight
  rw [List.all_eq_true]
  intro t ht
  obtain ⟨i, hi, rfl⟩ := List.mem_iff_getElem.1 ht
  have := (h.pair i hi).rw
  rwa [List.getD_eq_getElem?_getD, List.getElem?_eq_getElem hi] at this
theorem but_one {ws : List Nat} {i b t : Nat} {x : Int} (hi : i < ws.length) (hbit : ∀ q, q ≠ b → (S.tkn t).testBit q = (S.tkn (ws.getD i 0)).testBit q)
    (hcls : t = 0 ∨ ws.getD i 0 = 0 ∨ S.cls t = S.cls (ws.getD i 0)) (hx1 : (S.tkn t).testBit b = true → x = (P.off 192 i (S.cls t) b : Nat)) (hx2 : (S.tkn (ws.getD i 0)).testBit b = true → x = (P.off 192 i (S.cls (ws.getD i 0)) b : Nat)) :
    ∀ y, y ≠ x → (y ∈ P.all 192 (ws.set i t) ws.length ↔ y ∈ P.all 192 ws ws.length) := by
  intro y hy
  rw [P.mem_all (by rw [List.length_set]; exact Nat.le_refl _), P.mem_all (Nat.le_refl _)]
  have key : ∀ j q, P.FindIs 192 (ws.set i t) y j q ↔ P.FindIs 192 ws y j q := by
    intro j q
    unfold P.FindIs
    rw [List.length_set, P.getD_set _ _ _ _ hi]
    by_cases ej : j = i
    · subst ej
      rw [if_pos rfl]
      by_cases eq : q = b
      · subst eq
        constructor
        · rintro ⟨_, h2, h3⟩; exact absurd (h3.trans (hx1 h2).symm) hy
        · rintro ⟨_, h2, h3⟩; exact absurd (h3.trans (hx2 h2).symm) hy
      · rw [hbit q eq]
        constructor
        · rintro ⟨h1, h2, h3⟩
          have hw := P.ne_of_bit h2
          have ht := P.ne_of_bit ((hbit q eq).trans h2)
          have hc : S.cls t = S.cls (ws.getD j 0) := by
            rcases hcls with h | h | h
            · exact absurd h ht
            · exact absurd h hw
            · exact h
          exact ⟨h1, h2, by rw [← hc]; exact h3⟩
        · rintro ⟨h1, h2, h3⟩
          have hw := P.ne_of_bit h2
          have ht := P.ne_of_bit ((hbit q eq).trans h2)
          have hc : S.cls t = S.cls (ws.getD j 0) := by
            rcases hcls with h | h | h
            · exact absurd h ht
            · exact absurd h hw
            · exact h
          exact ⟨h1, h2, by rw [hc]; exact h3⟩
    · rw [if_neg ej]
  constructor
  · rintro ⟨j, q, h1, h2⟩; exact ⟨j, q, h1, (key j q).1 h2⟩
  · rintro ⟨j, q, h1, h2⟩; exact ⟨j, q, h1, (key j q).2 h2⟩
theorem but_take {ws xs : List Nat} {i b : Nat} {x : Int} (h : Good7 ws xs) (hst : Stands 192 ws xs x i b) (hb : (S.tkn (xs.getD i 0)).testBit b = true) :
    ∀ y, y ≠ x → (y ∈ P.all 192 (ws.set i (S.tkW (ws.getD i 0) (S.cls (used ws xs i) : Int) (b : Int))) ws.length ↔ y ∈ P.all 192 ws ws.length) := by
  obtain ⟨k1, _, _, _, k5⟩ := (h.pair i hst.1).take hb
  obtain ⟨k, e, t1, t2, t3, t4, t5, t6, t7, t8, t9, t10, t11⟩ := S.take_of k1
  obtain rfl : k = b := by omega
  have hx := hst.2.2
  have hc : S.cls (S.tkW (ws.getD i 0) (S.cls (used ws xs i) : Int) (k : Int)) = S.cls (used ws xs i) := by
    unfold used; rw [t10]; exact Int.toNat_natCast _
  refine but_one (b := k) hst.1 (fun q hq => ?_) ?_ (fun _ => by rw [hc]; exact hx) (fun hw => by rw [k5] at hw; cases hw)
  · unfold used
    rw [t11, S.bit_add t5, decide_eq_false (fun x => hq x.symm), Bool.or_false]
  · rcases t4 with h0 | h0
    · exact .inr (.inl h0)
    · refine .inr (.inr ?_)
      rw [hc]; unfold used; omega
theorem but_drop {ws xs : List Nat} {i b : Nat} {x : Int} (h : Good7 ws xs) (hst : Stands 192 ws xs x i b) (hb : (S.tkn (ws.getD i 0)).testBit b = true) :
    ∀ y, y ≠ x → (y ∈ P.all 192 (ws.set i (S.drW (ws.getD i 0) (b : Int))) ws.length ↔ y ∈ P.all 192 ws ws.length) := by
  have hf := (findIs_w h).2 ⟨hst, hb⟩
  obtain ⟨k, e, t1, t2, t3, t4, t5, t6, t7, t8, t9, t10, t11⟩ := S.drop_of (n := ws.getD i 0) (a := (b : Int)) (by rw [P.has_nat]; exact hb)
  obtain rfl : k = b := by omega
  refine but_one (b := k) hst.1 (fun q hq => ?_) ?_ (fun hw => ?_) (fun _ => hf.2.2)
  · rw [t11, S.bit_sub t4, decide_eq_false (fun x => hq x.symm)]; simp
  · by_cases e2 : S.tkn (ws.getD i 0) = 2 ^ k
    · left; rw [t8, if_pos e2]
    · right; right; rw [t10, if_neg e2]
  · rw [t11, S.bit_sub t4, decide_eq_true (rfl : k = k)] at hw; simp at hw
noncomputable def lastR (ev : Bool) (d : V.Dv) (sh : V.Sh) (ws xs : List Nat) (x : Int) : V.Dv × List Nat × List Nat × Int := if ev then takeR d sh 192 ws xs x else dropR d sh 192 ws xs x
theorem stop_crash (d : V.Dv) (a : Int) (ps : List Int) : (d.stop a).crash ps = d.crash ps := by unfold V.Dv.stop V.Dv.crash; split <;> rfl
/-- What the last call says, and what is there behind a crash. -/
def Last (N s : Nat) (ws : List Nat) (x : Int) (ps : List Int) (r : V.Dv × List Nat × List Nat × Int) : Prop :=
  (r.1.crash ps).opens = (V.Sh.at N, 0) ∧ (r.1.crash ps).lines.length = N ∧ r.1.steps ≤ 1000000 ∧ r.2.1.length = s ∧ Good7 r.2.1 r.2.2.1 ∧
  ((r.2.2.2 = 0 ∨ r.2.2.2 = 7) ∧ tableOf (r.1.crash ps) = r.2.1 ∨ r.2.2.2 = 12 ∧ r.2.1 = ws ∧ allRight (tableOf (r.1.crash ps)) = true ∧ (tableOf (r.1.crash ps)).length = s ∧ ∀ y, y ≠ x → (y ∈ P.all 192 (tableOf (r.1.crash ps)) s ↔ y ∈ P.all 192 ws s))
section

variable {N s : Nat} {d : V.Dv} {ws xs : List Nat} {k : Nat} {sh : V.Sh}

theorem put_errs (d : V.Dv) {N : Nat} (hl : d.lines.length = N) (i t : Nat) (hi : 128 + 8 * i + 8 ≤ 64 * N) : (d.put (128 + 8 * (i : Int)) t).2 = 0 ∨ (d.put (128 + 8 * (i : Int)) t).2 = 12 := by
  have e : d.put (128 + 8 * (i : Int)) t = V.runL d (V.puts (128 + 8 * (i : Int)) [t]) := by rw [V.puts_one]; rfl
  rw [e]
  exact V.runL_down (n := N) (V.puts (128 + 8 * (i : Int)) [t]) (d := d) (V.puts_fits (by omega) (by omega) (by simp; omega)) hl
theorem last_put (h : St7 N s d ws xs k) (h19 : 19 ≤ N) (hs : s = V.slabs N) (x : Int) (a : Nat) (ha : a ≤ 255) (ps : List Int) (hk : k ≤ 1000) {i t : Nat} {xs' : List Nat} (hi : i < ws.length) (ht : t < 2 ^ 64)
    (hg : Good7 (ws.set i t) xs') (hgb : Good7 ws xs) (hb : ∀ y, y ≠ x → (y ∈ P.all 192 (ws.set i t) ws.length ↔ y ∈ P.all 192 ws ws.length)) :
    Last N s ws x ps (if ((d.stop a).put (128 + 8 * (i : Int)) t).2 = 0 then (((d.stop a).put (128 + 8 * (i : Int)) t).1, ws.set i t, xs', 0) else (((d.stop a).put (128 + 8 * (i : Int)) t).1, ws, xs, ((d.stop a).put (128 + 8 * (i : Int)) t).2)) := by
  have hneed := V.need_slabs (n := N) (by omega)
  unfold V.need at hneed
  have his : i < V.slabs N := by rw [← hs, ← h.wl]; exact hi
  obtain ⟨v, h1, h2, h3, h4, h5⟩ := h.up.torn_up h19 (by rw [h.wl]; exact hs) his ht a ha ps
  have her := put_errs (d.stop a) (N := N) (by rw [V.stop_len]; exact h.up.len) i t (by omega)
  have hst := put_steps7 (d.stop a) (128 + 8 * (i : Int)) t
  rw [V.stop_steps] at hst
  have hsteps := h.steps
  have hwl := h.wl
  split
  · rename_i h0
    refine ⟨h3, h4, by dsimp only; omega, by dsimp only; rw [List.length_set]; exact hwl, hg, .inl ⟨.inl rfl, ?_⟩⟩
    dsimp only
    rw [h5, h2 h0]
  · rename_i h0
    refine ⟨h3, h4, by dsimp only; omega, hwl, hgb, .inr ⟨?_, rfl, ?_⟩⟩
    · rcases her with e | e
      · exact absurd e h0
      · exact e
    · dsimp only
      rw [h5, ← hwl]
      rcases h1 with rfl | rfl
      · rw [set_get]
        exact ⟨good_right hgb, rfl, fun _ _ => Iff.rfl⟩
      · exact ⟨good_right hg, by rw [List.length_set], hb⟩
theorem last_still (h : St7 N s d ws xs k) (h19 : 19 ≤ N) (hs : s = V.slabs N) (x : Int) (a : Nat) (ps : List Int) (hk : k ≤ 1000) {xs' : List Nat} {e : Int} (he : e = 0 ∨ e = 7) (hg : Good7 ws xs') : Last N s ws x ps (d.stop a, ws, xs', e) := by
  have hc := h.up.crash ps
  have hsteps := h.steps
  unfold Last
  dsimp only
  rw [stop_crash]
  exact ⟨hc.opens h19, hc.len, by rw [V.stop_steps]; omega, h.wl, hg, .inl ⟨he, hc.tableOf h19 (by rw [h.wl]; exact hs)⟩⟩
theorem last_says (h : St7 N s d ws xs k) (h19 : 19 ≤ N) (hs : s = V.slabs N) (hsh : sh.table = 128) (x : Int) (a : Nat) (ha : a ≤ 255) (ps : List Int) (hk : k ≤ 1000) (ev : Bool) :
    Last N s ws x ps (lastR ev (d.stop a) sh ws xs x) := by
  unfold lastR
  cases ev with
  | true =>
    rw [if_pos rfl]
    unfold takeR
    rcases P.find_cases 192 xs x with ⟨e, _⟩ | ⟨i, b, e, hf⟩
    · rw [e]
      exact last_still h h19 hs x a ps hk (.inr rfl) h.good
    · rw [e]
      dsimp only
      obtain ⟨hst, hbit⟩ := (findIs_x h.good).1 hf
      have hg2 := (taken_of h.good hst.1 hbit).1
      have hb := but_take h.good hst hbit
      have ht : S.tkW (ws.getD i 0) (S.cls (used ws xs i) : Int) (b : Int) < 2 ^ 64 := S.tkW_lt (h.good.w64 hst.1) _ _
      generalize S.tkW (ws.getD i 0) (S.cls (used ws xs i) : Int) (b : Int) = t at *
      rw [hsh]
      exact last_put h h19 hs x a ha ps hk hst.1 ht hg2 h.good hb
  | false =>
    rw [if_neg (by decide)]
    unfold dropR
    rcases P.find_cases 192 xs x with ⟨e, _⟩ | ⟨i, b, e, hf⟩
    · rw [e]
      rcases P.find_cases 192 ws x with ⟨e2, _⟩ | ⟨i, b, e2, hf⟩
      · rw [e2]
        exact last_still h h19 hs x a ps hk (.inr rfl) h.good
      · rw [e2]
        dsimp only
        obtain ⟨hst, hbit⟩ := (findIs_w h.good).1 hf
        have hg2 := (dropped_w h.good hst.1 hbit).1
        have hb := but_drop h.good hst hbit
        have ht : S.drW (ws.getD i 0) (b : Int) < 2 ^ 64 := S.drW_lt (h.good.w64 hst.1) _
        generalize S.drW (ws.getD i 0) (b : Int) = t at *
        rw [hsh]
        exact last_put h h19 hs x a ha ps hk hst.1 ht hg2 h.good hb
    · rw [e]
      obtain ⟨hst, hbit⟩ := (findIs_x h.good).1 hf
      exact last_still h h19 hs x a ps hk (.inl rfl) (dropped_x h.good hst.1 hbit).1
end

end Go.Proofs.YtaceogpdjbikiaaGreatDoor
