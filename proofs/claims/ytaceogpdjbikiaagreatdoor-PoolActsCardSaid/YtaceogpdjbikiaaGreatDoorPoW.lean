
/- Plain mathematics of layer 7: a device that is up, with a pool's words in its table; what Put makes of it; what a crash leaves. -/
import Derived.Test.YtaceogpdjbikiaaGreatDoorPoS
namespace Go.Proofs.YtaceogpdjbikiaaGreatDoor

open Go.RowKit

namespace V

open Go.Proofs.YtaceogpdjbikiaaGreatDoor.V

theorem puts_one (off : Int) (n : Nat) : puts off [n] = [.store off n, .flush off, .fence] := by simp [puts, sts, fls]
/-- Nothing is pending on a device. -/
def Clean (d : Dv) : Prop := ∀ j, j < d.lines.length → (d.at j).over = []
/-- A device that is up, of N lines, with the table ws; all of it is durable. -/
structure Up7 (d : Dv) (N : Nat) (ws : List Nat) : Prop where
  good : d.Good
  len : d.lines.length = N
  left : d.left < 0
  clean : Clean d
  head : ∀ k x, (wrds N)[k]? = some x → d.word (8 * k) = x
  table : ∀ i, i < V.slabs N → d.word (128 + 8 * i) = ws.getD i 0
theorem Up7.opens {d : Dv} {N : Nat} {ws : List Nat} (h : Up7 d N ws) (h19 : 19 ≤ N) : d.opens = (Sh.at N, 0) := by
  have := opens_yes (d := d) (by rw [h.len]; exact h19) (by have := h.left; omega) (by rw [h.len]; exact h.head)
  rw [h.len] at this; exact this
theorem Up7.tableOf {d : Dv} {N : Nat} {ws : List Nat} (h : Up7 d N ws) (h19 : 19 ≤ N) (hl : ws.length = V.slabs N) : Proofs.YtaceogpdjbikiaaGreatDoor.tableOf d = ws := by
  unfold Proofs.YtaceogpdjbikiaaGreatDoor.tableOf
  rw [h.len]
  have hneed := need_slabs (n := N) (by omega)
  unfold need at hneed
  apply List.ext_getElem?
  intro i
  by_cases hi : i < V.slabs N
  · rw [words_get _ _ _ _ hi, List.getElem?_eq_getElem (by omega : i < ws.length)]
    have hr : d.room 128 (V.slabs N : Nat) = 0 := room_zero.2 ⟨by omega, by omega, by omega, by rw [h.len]; omega⟩
    have he := room_err hr (by have := h.left; omega) i hi
    rw [load_word he, show (128 + 8 * (i : Int)).toNat = 128 + 8 * i by omega, h.table i hi, List.getD_eq_getElem?_getD, List.getElem?_eq_getElem (by omega : i < ws.length)]
    rfl
  · rw [List.getElem?_eq_none (by rw [words_length]; omega), List.getElem?_eq_none (by omega)]
theorem wrds_at {N k x : Nat} (h : (wrds N)[k]? = some x) : k < 8 := by
  have := (List.getElem?_eq_some_iff.1 h).1
  rw [wrds_length] at this; exact this
/-- A word of the table, put. -/
theorem Up7.put {d : Dv} {N : Nat} {ws : List Nat} (h : Up7 d N ws) (h19 : 19 ≤ N) (hl : ws.length = V.slabs N) {i t : Nat} (hi : i < V.slabs N) (ht : t < 2 ^ 64) :
    (d.put (128 + 8 * (i : Int)) t).2 = 0 ∧ Up7 (d.put (128 + 8 * (i : Int)) t).1 N (ws.set i t) := by
  have hneed := need_slabs (n := N) (by omega)
  unfold need at hneed
  have h0 : (0 : Int) ≤ 128 + 8 * (i : Int) := by omega
  have h8 : (128 + 8 * (i : Int)) % 8 = 0 := by omega
  have hroom : 128 + 8 * (i : Int) + 8 * (([t] : List Nat).length : Int) ≤ 64 * (N : Int) := by simp; omega
  have hgo := runL_goes (n := N) (puts (128 + 8 * (i : Int)) [t]) (d := d) (puts_fits h0 h8 hroom) h.len (.inl h.left)
  have hdn := puts_done h.good h0 h8 (by rw [h.len]; exact hroom) (by intro n hn; rw [List.mem_singleton.1 hn]; exact ht) hgo.1
  have hlen := runL_len (puts (128 + 8 * (i : Int)) [t]) d
  have hgood := runL_good (puts (128 + 8 * (i : Int)) [t]) h.good
  have e : d.put (128 + 8 * (i : Int)) t = runL d (puts (128 + 8 * (i : Int)) [t]) := by rw [puts_one]; rfl
  rw [e]
  have hleft : (runL d (puts (128 + 8 * (i : Int)) [t])).1.left < 0 := by
    have := hgo.2.1
    rw [if_pos h.left] at this
    rw [this]; exact h.left
  refine ⟨hgo.1, hgood, by rw [hlen]; exact h.len, hleft, fun j hj => ?_, fun k x hk => ?_, fun k hk => ?_⟩
  · rw [hlen, h.len] at hj
    have e1 : d.err (128 + 8 * (i : Int)) 8 = 0 := by unfold Dv.err; rw [if_neg (by have := h.left; omega), if_pos ⟨h0, by rw [h.len]; omega, h8⟩]
    have es : d.store (128 + 8 * (i : Int)) t = (d.line ((128 + 8 * (i : Int)).toNat / 64) (·.store ((128 + 8 * (i : Int)).toNat % 64) t)).done := Dv.store_ok t e1
    have hsl : (d.store (128 + 8 * (i : Int)) t).lines.length = N := by rw [← h.len]; exact St.len (.store (128 + 8 * (i : Int)) t) d
    have hsf : (d.store (128 + 8 * (i : Int)) t).left < 0 := by
      rw [es]; show (if 0 < d.left then d.left - 1 else d.left) < 0
      rw [if_neg (by have := h.left; omega)]; exact h.left
    have e2 : (d.store (128 + 8 * (i : Int)) t).err (128 + 8 * (i : Int)) 1 = 0 := by unfold Dv.err; rw [if_neg (by omega), if_pos ⟨h0, by rw [hsl]; omega, by omega⟩]
    have ef : (d.store (128 + 8 * (i : Int)) t).flush (128 + 8 * (i : Int)) = ((d.store (128 + 8 * (i : Int)) t).line ((128 + 8 * (i : Int)).toNat / 64) Ln.flush).done := Dv.flush_ok e2
    have hfl : ((d.store (128 + 8 * (i : Int)) t).flush (128 + 8 * (i : Int))).lines.length = N := by rw [← hsl]; exact St.len (.flush (128 + 8 * (i : Int))) _
    have hff : ((d.store (128 + 8 * (i : Int)) t).flush (128 + 8 * (i : Int))).left ≠ 0 := by
      rw [ef]; show (if 0 < (d.store (128 + 8 * (i : Int)) t).left then (d.store (128 + 8 * (i : Int)) t).left - 1 else (d.store (128 + 8 * (i : Int)) t).left) ≠ 0
      rw [if_neg (by omega)]; omega
    have er : (runL d (puts (128 + 8 * (i : Int)) [t])).1 = ((d.store (128 + 8 * (i : Int)) t).flush (128 + 8 * (i : Int))).settle.done := by
      rw [puts_one]
      rw [runL_ok (d := d) _ (show (St.store (128 + 8 * (i : Int)) t).err d = 0 from e1)]
      rw [runL_ok (d := St.run d (.store (128 + 8 * (i : Int)) t)) (s := .flush (128 + 8 * (i : Int))) _ e2]
      rw [runL_ok (d := St.run (St.run d (.store (128 + 8 * (i : Int)) t)) (.flush (128 + 8 * (i : Int)))) (s := .fence) _ (show (if _ then _ else _) = (0 : Int) from if_neg hff)]
      show Dv.fence _ = _
      unfold Dv.fence
      exact if_neg hff
    rw [er, settle_at _ _ (by rw [hfl]; exact hj), ef, line_at _ _ _ _ (by rw [hsl]; exact hj), es, line_at _ _ _ _ (by rw [h.len]; exact hj)]
    by_cases hjj : (128 + 8 * (i : Int)).toNat / 64 = j
    · rw [if_pos hjj, if_pos hjj]
      show List.drop (List.length _) _ = []
      exact List.drop_eq_nil_of_le (Nat.le_refl _)
    · rw [if_neg hjj, if_neg hjj]
      show List.drop _ (d.at j).over = []
      rw [h.clean j (by rw [h.len]; exact hj)]; exact List.drop_nil
  · have hk8 := wrds_at hk
    rw [hdn.2 (8 * k) (by omega) (by rw [h.len]; omega) (fun q hq => by simp at hq; subst hq; omega)]
    exact h.head k x hk
  · by_cases e : k = i
    · subst e
      have h1 := (hdn.1 0 t rfl).1
      rw [show (128 + 8 * (k : Int) + 8 * ((0 : Nat) : Int)).toNat = 128 + 8 * k by omega] at h1
      rw [h1, P.getD_set _ _ _ _ (by omega), if_pos rfl]
    · rw [hdn.2 (128 + 8 * k) (by omega) (by rw [h.len]; omega) (fun q hq => by simp at hq; subst hq; omega), P.getD_set _ _ _ _ (by omega), if_neg e]
      exact h.table k hk
/-- A crash leaves all of it. -/
theorem Up7.crash {d : Dv} {N : Nat} {ws : List Nat} (h : Up7 d N ws) (ps : List Int) : Up7 (d.crash ps) N ws := by
  have hl := crash_len d ps
  have hw : ∀ a, a < 64 * N → (d.crash ps).word a = d.word a := fun a ha => crash_word ps a (by rw [h.len]; exact ha) (h.clean _ (by rw [h.len]; omega))
  refine ⟨h.good.crash ps, by rw [hl]; exact h.len, by show (-1 : Int) < 0; decide, fun j hj => ?_, fun k x hk => ?_, fun i hi => ?_⟩
  · obtain ⟨k, hk1, hk2⟩ := crashed_at d.lines ps j (by rw [hl] at hj; exact hj)
    have e : (d.crash ps).at j = (d.at j).back k := hk2
    rw [e]; rfl
  · have hk8 := wrds_at hk
    have hN := h.good.some
    rw [hw _ (by rw [← h.len]; omega)]; exact h.head k x hk
  · by_cases h2 : 2 ≤ N
    · have hneed := need_slabs (n := N) h2
      unfold need at hneed
      rw [hw _ (by omega)]; exact h.table i hi
    · have := slabs_few (n := N) (by omega)
      omega
theorem fresh_clean : ∀ s, s < 5 → 1 ≤ s → ((newDv (3 + 16 * s)).format.1.lines.all fun l => l.over.isEmpty) = true := by decide +kernel
theorem up7_fresh {s : Nat} (h1 : 1 ≤ s) (h5 : s < 5) : Up7 (newDv (3 + 16 * s)).format.1 (3 + 16 * s) (List.replicate (V.slabs (3 + 16 * s)) 0) := by
  have hf := (fresh (n := 3 + 16 * s) (by omega) (by omega)).2.2
  have hg : (newDv (3 + 16 * s)).Good := newDv_good (by omega) (by omega)
  have hlen : (newDv (3 + 16 * s)).lines.length = 3 + 16 * s := newDv_len _
  have hgo := format_goes hg (by omega) (by show (-1 : Int) < 0; decide)
  obtain ⟨_, _, hw, _, hh⟩ := format_done hg hgo.1
  rw [hlen] at hw
  have hneed := need_slabs (n := 3 + 16 * s) (by omega)
  unfold need at hneed
  refine ⟨hf.good, hf.len, hf.left, fun j hj => ?_, hw, fun i hi => ?_⟩
  · have h2 := List.all_eq_true.1 (fresh_clean s h5 h1) ((newDv (3 + 16 * s)).format.1.lines[j]) (List.getElem_mem hj)
    unfold Dv.at
    rw [List.getElem?_eq_getElem hj]
    exact List.isEmpty_iff.1 h2
  · rcases hh.word (128 + 8 * i) (by omega) (by rw [hf.len]; omega) with h | h
    · omega
    · rw [h]; simp [List.getD_eq_getElem?_getD, hi]
end V

end Go.Proofs.YtaceogpdjbikiaaGreatDoor
