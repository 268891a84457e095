
/- PoolDurable, plain mathematics: what a crash leaves of a table behind a Put that went down, or well; what Open's blocks are then. -/
import Derived.Test.YtaceogpdjbikiaaGreatDoorPoAgL
namespace Go.Proofs.YtaceogpdjbikiaaGreatDoor

open Go.RowKit

namespace V

open Go.Proofs.YtaceogpdjbikiaaGreatDoor.V

theorem table_words7 {d : Dv} {N : Nat} {ws : List Nat} (hlen : d.lines.length = N) (hleft : d.left ≠ 0) (ht : ∀ i, i < V.slabs N → d.word (128 + 8 * i) = ws.getD i 0) (h19 : 19 ≤ N) (hl : ws.length = V.slabs N) : Proofs.YtaceogpdjbikiaaGreatDoor.tableOf d = ws := by
  unfold Proofs.YtaceogpdjbikiaaGreatDoor.tableOf
  rw [hlen]
  have hneed := need_slabs (n := N) (by omega)
  unfold need at hneed
  apply List.ext_getElem?
  intro i
  by_cases hi : i < V.slabs N
  · rw [words_get _ _ _ _ hi, List.getElem?_eq_getElem (by omega : i < ws.length)]
    have hr : d.room 128 (V.slabs N : Nat) = 0 := room_zero.2 ⟨by omega, by omega, by omega, by rw [hlen]; omega⟩
    have he := room_err hr hleft i hi
    rw [load_word he, show (128 + 8 * (i : Int)).toNat = 128 + 8 * i by omega, ht i hi, List.getD_eq_getElem?_getD, List.getElem?_eq_getElem (by omega : i < ws.length)]
    rfl
  · rw [List.getElem?_eq_none (by rw [words_length]; omega), List.getElem?_eq_none (by omega)]
/-- Behind whatever crash, a Put of one word of the table leaves the old word, or the new one; with no error, the new one. -/
theorem Up7.torn {d : Dv} {N : Nat} {ws : List Nat} (h : Up7 d N ws) (h19 : 19 ≤ N) (hl : ws.length = V.slabs N) {i t : Nat} (hi : i < V.slabs N) (ht : t < 2 ^ 64) (after : Nat) (hA : after ≤ 255) (ps : List Int) :
    ∃ v, (v = ws.getD i 0 ∨ v = t) ∧ ((((d.stop after).put (128 + 8 * (i : Int)) t).2 = 0 → v = t)) ∧
      ∀ k, k % 8 = 0 → k < 64 * N → ((((d.stop after).put (128 + 8 * (i : Int)) t).1.crash ps).word k = if k = 128 + 8 * i then v else d.word k) := by
  have hneed := need_slabs (n := N) (by omega)
  unfold need at hneed
  have h0 : (0 : Int) ≤ 128 + 8 * (i : Int) := by omega
  have h8 : (128 + 8 * (i : Int)) % 8 = 0 := by omega
  have hgs : (d.stop after).Good := h.good.stop (after : Int) (by omega)
  have hsl : (d.stop after).lines.length = N := by rw [stop_len]; exact h.len
  have e : (d.stop after).put (128 + 8 * (i : Int)) t = runL (d.stop after) (puts (128 + 8 * (i : Int)) [t]) := by rw [puts_one]; rfl
  have hQ0 : Holds (fun a x => if a = 128 + 8 * i then x = ws.getD i 0 ∨ x = t else x = d.word a) (d.stop after) := by
    apply Holds.stop
    intro j hj
    refine ⟨fun a ha ha2 => ?_, fun c hc => by rw [h.clean j hj] at hc; cases hc⟩
    have hw : d.word (64 * j + a) = (d.at j).get a := by
      unfold Dv.word
      rw [show (64 * j + a) / 64 = j by omega, show (64 * j + a) % 64 = a by omega]
    dsimp only
    split
    · rename_i hq
      left
      rw [← hw, hq]; exact h.table i hi
    · exact hw.symm
  have hQ := hQ0.runL (puts (128 + 8 * (i : Int)) [t]) hgs (fun off' m hm => by
    obtain ⟨k, h1, h2⟩ := puts_mem hm
    have hk := List.mem_of_getElem? h1
    rw [List.mem_singleton] at hk
    subst hk
    have hk0 : k = 0 := by
      have := (List.getElem?_eq_some_iff.1 h1).1
      simp at this; exact this
    subst hk0
    refine ⟨ht, fun a ha => ?_⟩
    rw [if_pos (by omega)]
    exact .inr rfl)
  have hgood := runL_good (puts (128 + 8 * (i : Int)) [t]) hgs
  have hlen := runL_len (puts (128 + 8 * (i : Int)) [t]) (d.stop after)
  rw [hsl] at hlen
  have hC := hQ.crash hgood ps
  have hdone := fun hok => puts_done hgs h0 h8 (l := [t]) (by rw [hsl]; simp; omega) (by intro n hn; rw [List.mem_singleton.1 hn]; exact ht) hok
  rw [← e] at hC hlen hdone
  generalize (d.stop after).put (128 + 8 * (i : Int)) t = r at *
  have hcl : (r.1.crash ps).lines.length = N := by rw [crash_len]; exact hlen
  have hvi := hC.word (128 + 8 * i) (by omega) (by rw [hcl]; omega)
  rw [if_pos rfl] at hvi
  refine ⟨(r.1.crash ps).word (128 + 8 * i), hvi, fun hok => ?_, fun k hk1 hk2 => ?_⟩
  · obtain ⟨h1, h2⟩ := (hdone hok).1 0 t rfl
    rw [show (128 + 8 * (i : Int) + 8 * ((0 : Nat) : Int)).toNat = 128 + 8 * i by omega] at h1 h2
    rw [crash_word ps _ (by rw [hlen]; omega) h2]; exact h1
  · by_cases ek : k = 128 + 8 * i
    · rw [if_pos ek, ek]
    · rw [if_neg ek]
      have := hC.word k hk1 (by rw [hcl]; exact hk2)
      rwa [if_neg ek] at this
theorem Up7.torn_up {d : Dv} {N : Nat} {ws : List Nat} (h : Up7 d N ws) (h19 : 19 ≤ N) (hl : ws.length = V.slabs N) {i t : Nat} (hi : i < V.slabs N) (ht : t < 2 ^ 64) (after : Nat) (hA : after ≤ 255) (ps : List Int) :
    ∃ v, (v = ws.getD i 0 ∨ v = t) ∧ ((((d.stop after).put (128 + 8 * (i : Int)) t).2 = 0 → v = t)) ∧
      (((d.stop after).put (128 + 8 * (i : Int)) t).1.crash ps).opens = (Sh.at N, 0) ∧ (((d.stop after).put (128 + 8 * (i : Int)) t).1.crash ps).lines.length = N ∧ Proofs.YtaceogpdjbikiaaGreatDoor.tableOf (((d.stop after).put (128 + 8 * (i : Int)) t).1.crash ps) = ws.set i v := by
  obtain ⟨v, h1, h2, h3⟩ := h.torn h19 hl hi ht after hA ps
  have hneed := need_slabs (n := N) (by omega)
  unfold need at hneed
  have e : (d.stop after).put (128 + 8 * (i : Int)) t = runL (d.stop after) (puts (128 + 8 * (i : Int)) [t]) := by rw [puts_one]; rfl
  have hcl : (((d.stop after).put (128 + 8 * (i : Int)) t).1.crash ps).lines.length = N := by rw [crash_len, e, runL_len, stop_len]; exact h.len
  generalize ((d.stop after).put (128 + 8 * (i : Int)) t) = r at *
  have hleft : (r.1.crash ps).left = -1 := rfl
  refine ⟨v, h1, h2, ?_, hcl, table_words7 hcl (by omega) (fun k hk => ?_) h19 (by rw [List.length_set]; exact hl)⟩
  · have hop := opens_yes (d := r.1.crash ps) (by rw [hcl]; exact h19) (by omega) (fun k x hk => by
      rw [hcl] at hk
      have hk8 := wrds_at hk
      rw [h3 (8 * k) (by omega) (by omega), if_neg (by omega)]
      exact h.head k x hk)
    rw [hcl] at hop; exact hop
  · rw [h3 (128 + 8 * k) (by omega) (by omega), P.getD_set _ _ _ _ (by omega)]
    by_cases e : k = i
    · subst e; rw [if_pos rfl, if_pos rfl]
    · rw [if_neg (by omega), if_neg e]; exact h.table k hk
end V

/-! ### Rising lists -/
theorem rising_ext : ∀ {A B : List Int}, A.Pairwise (· < ·) → B.Pairwise (· < ·) → (∀ y, y ∈ A ↔ y ∈ B) → A = B
  | [], [], _, _, _ => rfl
  | [], b :: B, _, _, h => absurd ((h b).2 (by simp)) (by simp)
  | a :: A, [], _, _, h => absurd ((h a).1 (by simp)) (by simp)
  | a :: A, b :: B, hA, hB, h => by
    have hA' := List.pairwise_cons.1 hA
    have hB' := List.pairwise_cons.1 hB
    have e : a = b := by
      have h1 := (h a).1 (by simp)
      have h2 := (h b).2 (by simp)
      rcases List.mem_cons.1 h1 with h1 | h1
      · exact h1
      · rcases List.mem_cons.1 h2 with h2 | h2
        · exact h2.symm
        · have := hA'.1 b h2
          have := hB'.1 a h1
          omega
    subst e
    rw [rising_ext hA'.2 hB'.2 (fun y => ?_)]
    constructor
    · intro hy
      rcases List.mem_cons.1 ((h y).1 (List.mem_cons_of_mem _ hy)) with e | e
      · have := hA'.1 y hy; omega
      · exact e
    · intro hy
      rcases List.mem_cons.1 ((h y).2 (List.mem_cons_of_mem _ hy)) with e | e
      · have := hB'.1 y hy; omega
      · exact e
theorem count_filter_len (x : Int) : ∀ l : List Int, (l.filter (fun y => y != x)).length + l.count x = l.length
  | [] => rfl
  | a :: l => by
    have ih := count_filter_len x l
    rw [List.filter_cons, List.count_cons]
    by_cases e : a = x
    · subst e; simp; omega
    · have h1 : (a != x) = true := by simp [e]
      have h2 : (a == x) = false := by simp [e]
      rw [h1, h2]; simp; omega
theorem rising_count (x : Int) : ∀ {l : List Int}, l.Pairwise (· < ·) → l.count x ≤ 1
  | [], _ => by simp
  | a :: l, h => by
    have h' := List.pairwise_cons.1 h
    rw [List.count_cons]
    by_cases e : a = x
    · subst e
      have h0 : l.count a = 0 := List.count_eq_zero.2 (fun hm => by have := h'.1 a hm; omega)
      rw [h0]; simp
    · have h2 : (a == x) = false := by simp [e]
      rw [h2]
      have := rising_count x h'.2
      simp; exact this
/-- Two rising lists that differ in x at most. -/
theorem rising_but {A B : List Int} (x : Int) (hA : A.Pairwise (· < ·)) (hB : B.Pairwise (· < ·)) (h : ∀ y, y ≠ x → (y ∈ A ↔ y ∈ B)) : A.length + B.count x = B.length + A.count x := by
  have e : A.filter (fun y => y != x) = B.filter (fun y => y != x) := rising_ext (hA.filter _) (hB.filter _) (fun y => by
    rw [List.mem_filter, List.mem_filter]
    by_cases e : y = x
    · simp [e]
    · rw [h y e])
  have h1 := count_filter_len x A
  have h2 := count_filter_len x B
  rw [e] at h1
  omega
end Go.Proofs.YtaceogpdjbikiaaGreatDoor
