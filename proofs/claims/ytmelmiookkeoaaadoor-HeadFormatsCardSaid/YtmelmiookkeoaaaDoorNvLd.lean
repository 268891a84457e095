
/- Contracts of slices.Delete of a slice's beginning, and of a line's settle. Other blocks than the line's and that of its slice stay. -/
import Derived.Test.YtmelmiookkeoaaaDoorNvLc

import Derived.Lib.SliceRun

import Derived.Deep.RegionLaw

import Derived.RegionCalls

namespace Go.Proofs.YtmelmiookkeoaaaDoor

open Go.RowKit

theorem run_clear2 (w : World) (ty : TypeId) (b o n c : Nat) (hn : 0 < n) (hc : ∀ j, j < n * 2 → (w.cell? ⟨b, o + j, none⟩).isSome = true) (hf : ∀ j, j < n * 2 → w.frozen? ⟨b, o + j, none⟩ = false) :
    (Builtin.clear_ #[75] ty #[.slice (some ⟨b, o, none⟩) n c]).run Tryd.prog w = .ok (.tuple #[]) (w.setCells b o (Builtin.zeroCells #[.int .i64 0, .int .u64 0] n).toList) := by
  obtain ⟨i0, hi, hz0, hz1, hz2⟩ := info_parts info_change
  have hl : (Builtin.zeroCells #[Value.int .i64 0, Value.int .u64 0] n).toList.length = n * 2 := by simp [Builtin.zeroCells]
  have hst := run_storeCells_cells (P := Tryd.prog) b o (Builtin.zeroCells #[Value.int .i64 0, Value.int .u64 0] n).toList 0 w (by rw [hl]; simpa using hc) (by rw [hl]; simpa using hf) (by
    intro v hv
    simp [Builtin.zeroCells] at hv
    obtain ⟨j, _, rfl⟩ := hv
    have h2 : j % 2 = 0 ∨ j % 2 = 1 := by omega
    rcases h2 with h2 | h2 <;> rw [h2] <;> rfl)
  simp only [Nat.add_zero] at hst
  obtain ⟨m, rfl⟩ : ∃ m, n = m + 1 := ⟨n - 1, by omega⟩
  simp [Builtin.clear_, run_underlying Tryd.underlying75, zeroValue, typeInfo, hi, hz0, hst, Value.cells]

/-- The first cells of a row, when those from k on are laid to its head and others behind them. -/
theorem owns_shift {w : World} {g : Nat} {cur : List Value} {len cap j : Nat} {xs : List (Nat × Nat)} (hg : w.heap[g]? = some (.cells cur.toArray 85 (0, 0))) (hs : cur.length = cap * 2) (hlen : xs.length = len) (hlc : len ≤ cap) (hcm : cap ≤ maxLen) (hj : j ≤ len) (zs : List Value) (hz : zs.length = j * 2) :
    ((w.setCells g 0 (overCells (xs.drop j))).setCells g ((len - j) * 2) zs).ownsRow 0 85 2 (.slice (some ⟨g, 0, none⟩) (len - j) cap) (len - j) (overCells (xs.drop j)) ∧
      Only [g] w ((w.setCells g 0 (overCells (xs.drop j))).setCells g ((len - j) * 2) zs) := by
  have hl : (overCells (xs.drop j)).length = (len - j) * 2 := by rw [overCells_length, List.length_drop, hlen]
  obtain ⟨h1, h2⟩ := setCells_row (overCells (xs.drop j)) 0 cur w hg (by omega)
  simp only [List.take_zero, List.nil_append, Nat.zero_add] at h1
  obtain ⟨h3, h4⟩ := setCells_row zs ((len - j) * 2) _ _ h1 (by rw [List.length_append, List.length_drop, hl]; omega)
  refine ⟨⟨hl, .inr ⟨g, cap, _, rfl, Nat.zero_le _, h3, by omega, hcm, ?_, ?_⟩⟩, h2.trans' h4⟩
  · simp only [List.size_toArray, List.length_append, List.length_take, List.length_drop, hl, hz]
    omega
  · rw [← hl, List.take_left, List.append_assoc, List.take_left]
set_option maxRecDepth 100000 in
theorem delete_ok (g cap len j : Nat) (xs : List (Nat × Nat)) (w : World) (h : w.ownsRow 0 85 2 (.slice (some ⟨g, 0, none⟩) len cap) len (overCells xs)) (hj0 : 0 < j) (hj : j ≤ len) (hlen : xs.length = len) (hm : len ≤ 1000000000) :
    Calls Tryd.prog 68 #[.slice (some ⟨g, 0, none⟩) len cap, .int .i64 0, .int .i64 (j : Int)] w fun e w' =>
      e = .returned (.slice (some ⟨g, 0, none⟩) (len - j) cap) ∧ w'.ownsRow 0 85 2 (.slice (some ⟨g, 0, none⟩) (len - j) cap) (len - j) (overCells (xs.drop j)) ∧ Only [g] w w' := by
  obtain ⟨i0, hi0, hz0, hz1, hz2⟩ := info_parts info_change
  have hxl := h.1
  rcases h.2 with ⟨e, _⟩ | ⟨g', cap', cur, e, _, hg, hlc, hcm, hcs, htk⟩
  · simp at e
  simp only [Value.slice.injEq, Option.some.injEq, Addr.mk.injEq, and_true, true_and] at e
  obtain ⟨rfl, rfl⟩ := e
  obtain ⟨news, hnews⟩ : ∃ news, news = overCells (xs.drop j) := ⟨_, rfl⟩
  have hnl : news.length = (len - j) * 2 := by rw [hnews, overCells_length, List.length_drop, hlen]
  have hgl : w.drew.heap[g]? = some (.cells cur.toList.toArray 85 (0, 0)) := by rw [heap_drew]; simpa using hg
  have hcell : ∀ k, k < cap * 2 → (w.drew.cell? ⟨g, k, none⟩).isSome = true ∧ w.drew.frozen? ⟨g, k, none⟩ = false := by
    intro k hk
    refine ⟨?_, frozen_of_row _ _ _ _ _ hgl⟩
    rw [cell_of_row _ _ _ _ _ _ hgl]
    simp [hcs, hk]
  obtain ⟨A, hA, hsrc⟩ : ∃ A : Addr, (if cap = j then some (⟨g, 0, none⟩ : Addr) else some ⟨g, j * 2, none⟩) = some A ∧ Hid (∀ t u, news[t]? = some u → w.drew.cell? (A.add t) = some u) := by
    by_cases hcj : cap = j
    · refine ⟨⟨g, 0, none⟩, by simp [hcj], fun t u hu => ?_⟩
      have := (List.getElem?_eq_some_iff.1 hu).1
      omega
    · refine ⟨⟨g, j * 2, none⟩, by simp [hcj], fun t u hu => ?_⟩
      rw [Addr.add_lit, cell_of_row _ _ _ _ _ _ hgl, List.getElem?_toArray]
      have ht : t < (len - j) * 2 := by have := (List.getElem?_eq_some_iff.1 hu).1; omega
      have h1 : (overCells xs)[j * 2 + t]? = some u := by
        rw [← hu, hnews, overCells_drop, List.getElem?_drop]
      rw [← htk, List.getElem?_take, if_pos (by omega)] at h1
      exact h1
  have s1 : Hid (news.length = (len - j) * 2) := hnl
  have s2 : Hid (∀ u ∈ news, u.oneCell' = true) := by rw [hnews]; exact overCells_one _
  have s3 : Hid (∀ t, t < news.length → (w.drew.cell? ⟨g, 0 + 0 * 2 + t, none⟩).isSome = true ∧ w.drew.frozen? ⟨g, 0 + 0 * 2 + t, none⟩ = false) := by
    intro t ht
    rw [hnl] at ht
    rw [show 0 + 0 * 2 + t = t by omega]
    exact hcell t (by omega)
  obtain ⟨W1, hW1⟩ : ∃ W1, W1 = w.drew.setCells g (0 + 0 * 2) news := ⟨_, rfl⟩
  have hW : Hid (W1 = w.drew.setCells g (0 + 0 * 2) news) := hW1
  have hrow1 := (setCells_row news 0 cur.toList w.drew hgl (by rw [hnl]; simp [hcs]; omega)).1
  have hcl : ∀ ty, (Builtin.clear_ #[75] ty #[.slice (some ⟨g, (len - j) * 2, none⟩) (len - (len - j)) (cap - (len - j))]).run Tryd.prog W1 = .ok (.tuple #[]) (W1.setCells g ((len - j) * 2) (Builtin.zeroCells #[.int .i64 0, .int .u64 0] (len - (len - j))).toList) := by
    intro ty
    have e0 : W1 = w.drew.setCells g 0 news := hW1
    refine run_clear2 W1 ty g _ _ _ (by omega) (fun k hk => ?_) (fun k hk => ?_)
    · rw [e0, cell_of_row _ _ _ _ _ _ hrow1, List.getElem?_toArray, List.getElem?_eq_getElem (by simp [hnl, hcs]; omega)]
      rfl
    · rw [e0]; exact frozen_of_row _ _ _ _ _ hrow1
  have HF := Lib.hid (owns_shift (w := w.drew) hgl (by simpa using hcs) hlen hlc hcm hj (Builtin.zeroCells #[.int .i64 0, .int .u64 0] (len - (len - j))).toList (by simp [Builtin.zeroCells]; omega))
  have HN : Hid (news = overCells (xs.drop j)) := hnews
  have hlc' := hlc
  unfold maxLen at hcm
  have hcj : j ≤ cap := by omega
  clear hW1 hrow1 hgl hcell hnews hnl hg hcs htk hxl h hlen
  go_enter Tryd.func68, Tryd.ntmps68
  go_wp2_with fail
  go_region_law (refine step_append_room rfl (.tmp 22) (.tmp 25) 75 rfl 85 i0 2 Tryd.underlying75 hi0 hz1 g 0 0 cap (by simp [Act.eval, Act.put]) A (len - j) (cap - j) news (by simp [Act.eval, Act.put]) s1.out hsrc.out s2.out (by omega) s3.out ?_; rw [← hW.out])
  go_wp2
  go_ret
  have h := HF.out
  rw [← HN.out] at h ⊢
  rw [show w.drew.setCells g 0 news = W1 from hW.out.symm] at h
  exact ⟨rfl, h.1, (Only.refl [g] w).drew.trans' h.2⟩

theorem LineAt.withMark {w : World} {L : Nat} {pre post : List Value} {l : V.Ln} {v : Value} (h : LineAt w L pre post l v) (m : Nat) (hm : m ≤ l.over.length) :
    LineAt (w.setCell ⟨L, pre.length + 65, none⟩ (.int .i64 (m : Int))) L pre post { now := l.now, over := l.over, mark := m } v := by
  have h1 := seg_stored h.row 65 (by rw [h.len]; omega) (.int .i64 (m : Int))
  rw [lineCells_setMark h.good.len v l.over m] at h1
  exact ⟨h1, ⟨h.good.len, h.good.byte, h.good.over, hm⟩, owns_only h.own (Only.setCell w ⟨L, pre.length + 65, none⟩ (.int .i64 (m : Int))) (fun g hg => by have := h.apart; rw [hg] at this; simp at this ⊢; exact this), h.apart⟩

/-- Another slice and another mark. -/
theorem LineAt.withBoth {w : World} {L : Nat} {pre post : List Value} {l : V.Ln} {v v' : Value} {o : List (Nat × Nat)} {m : Nat} (h : w.heap[L]? = some (.cells (pre ++ lineCells l v ++ post).toArray 77 (0, 0))) (hg : (⟨l.now, o, m⟩ : V.Ln).Good)
    (ho : w.ownsRow 0 85 2 v' o.length (overCells o)) (ha : v'.ownBlock ≠ some L) :
    LineAt ((w.setCell ⟨L, pre.length + 64, none⟩ v').setCell ⟨L, pre.length + 65, none⟩ (.int .i64 (m : Int))) L pre post ⟨l.now, o, m⟩ v' ∧
      Only [L] w ((w.setCell ⟨L, pre.length + 64, none⟩ v').setCell ⟨L, pre.length + 65, none⟩ (.int .i64 (m : Int))) := by
  have hl : l.now.length = 64 := hg.len
  have h1 := seg_stored h 64 (by rw [lineCells_length hl]; omega) v'
  rw [lineCells_setOver hl] at h1
  have h2 := seg_stored h1 65 (by rw [lineCells_length hl]; omega) (.int .i64 (m : Int))
  rw [lineCells_setMark hl v' o m] at h2
  have hO := (Only.setCell w ⟨L, pre.length + 64, none⟩ v').trans' (Only.setCell (w.setCell ⟨L, pre.length + 64, none⟩ v') ⟨L, pre.length + 65, none⟩ (.int .i64 (m : Int)))
  exact ⟨⟨h2, hg, owns_only ho hO (fun g hg => by rw [hg] at ha; simp at ha ⊢; exact ha), ha⟩, hO⟩

set_option maxRecDepth 100000 in
theorem ln_settle_some (w : World) (L : Nat) (pre post : List Value) (l : V.Ln) (v : Value) (h : LineAt w L pre post l v) (hm : 0 < l.mark) (hk : l.over.length ≤ 1000000000) :
    Calls Tryd.prog 65 #[.pointer (some ⟨L, pre.length, none⟩)] w (LnPost w L pre post v l.settle) := by
  obtain ⟨i0, hi, hz0, hz1, hz2⟩ := info_parts info_change
  have hgm := h.good.mark
  obtain ⟨g, cap, rfl, _⟩ := own_some h.own (fun e => by
    have h1 := h.own
    rw [e] at h1
    rcases h1.2 with ⟨_, h2⟩ | ⟨_, _, _, h2, _⟩
    · omega
    · simp at h2)
  have HG : Hid ((⟨l.now, l.over.drop l.mark, 0⟩ : V.Ln).Good) := ⟨h.good.len, h.good.byte, fun c hc => h.good.over c (List.mem_of_mem_drop hc), Nat.zero_le _⟩
  have hgL : g ≠ L := fun e => h.apart (by rw [e]; rfl)
  have HDEL := Lib.hid (fun (W : World) (ho : W.ownsRow 0 85 2 (.slice (some ⟨g, 0, none⟩) l.over.length cap) l.over.length (overCells l.over)) => delete_ok g cap l.over.length l.mark l.over W ho hm hgm rfl hk)
  have hover := h.over
  have hmark := h.mark
  have hfree := h.free (pre.length + 64)
  have HFR := Lib.hid (h.free (pre.length + 65))
  have hlt := h.lt
  have HL := Lib.hid h
  have HROW := Lib.hid h.row
  have HOWN := Lib.hid h.own
  clear h
  have HM : Hid (0 < (l.mark : Int)) := Int.natCast_pos.2 hm
  have hmi : (0 : Int) < (l.mark : Int) := HM.out
  generalize hol : pre.length = o at *
  have HOL := Lib.hid hol
  clear hol
  go_enter Tryd.func65, Tryd.ntmps65
  go_wp2_with fail
  go_region_with (go_at_call 68; refine (HDEL.out _ (by exact HOWN.out)).mono ?_; rintro e w1 ⟨rfl, h1, h2⟩; have hb : w1.heap[L]? = w.heap[L]? := h2.block L hlt (by simpa using fun e => hgL e.symm); have hover1 : w1.cell? ⟨L, o + 64, none⟩ = some (.slice (some ⟨g, 0, none⟩) l.over.length cap) := (World.cell?_of_block (w := w) (a := ⟨L, o + 64, none⟩) hb).trans hover; have hmark1 : w1.cell? ⟨L, o + 65, none⟩ = some (.int .i64 (l.mark : Int)) := (World.cell?_of_block (w := w) (a := ⟨L, o + 65, none⟩) hb).trans hmark; have hfree1 : w1.frozen? ⟨L, o + 64, none⟩ = false := (World.frozen?_of_block (w := w) (a := ⟨L, o + 64, none⟩) hb).trans hfree; have hfree65 : w1.frozen? ⟨L, o + 65, none⟩ = false := (World.frozen?_of_block (w := w) (a := ⟨L, o + 65, none⟩) hb).trans HFR.out; have H1 := Lib.hid h1; have H2 := Lib.hid h2; have HB := Lib.hid hb; clear h1 h2 hb)
  all_goals
    have HF : Hid (LineAt ((w1.setCell ⟨L, o + 64, none⟩ (.slice (some ⟨g, 0, none⟩) (l.over.length - l.mark) cap)).setCell ⟨L, o + 65, none⟩ (.int .i64 0)) L pre post l.settle (.slice (some ⟨g, 0, none⟩) (l.over.length - l.mark) cap) ∧
        Only [L] w1 ((w1.setCell ⟨L, o + 64, none⟩ (.slice (some ⟨g, 0, none⟩) (l.over.length - l.mark) cap)).setCell ⟨L, o + 65, none⟩ (.int .i64 0))) := by
      have h := LineAt.withBoth (m := 0) (o := l.over.drop l.mark) (HB.out.trans HROW.out) HG.out (by rw [List.length_drop]; exact H1.out) (by simp [Value.ownBlock, hgL])
      rw [HOL.out] at h
      exact h
    go_wp2
    go_end0
    refine ⟨rfl, _, HF.out.1, ?_, fun k hk => .inl hk⟩
    exact (((Only.refl _ w).drew.trans' (H2.out.mono (G := L :: ownL (.slice (some ⟨g, 0, none⟩) l.over.length cap)) (by simp [ownL, Value.ownBlock]))).trans' (HF.out.2.mono (by simp)))

theorem ln_settle (w : World) (L : Nat) (pre post : List Value) (l : V.Ln) (v : Value) (h : LineAt w L pre post l v) (hk : l.over.length ≤ 1000000000) :
    Calls Tryd.prog 65 #[.pointer (some ⟨L, pre.length, none⟩)] w (LnPost w L pre post v l.settle) := by
  by_cases hm : 0 < l.mark
  · exact ln_settle_some w L pre post l v h hm hk
  · have h0 : l.mark = 0 := by omega
    have hmark := h.mark
    have HS : Hid (l.settle = l) := by
      show _ = _
      obtain ⟨now, over, mark⟩ := l
      subst h0
      rfl
    have HL := Lib.hid h
    rw [h0] at hmark
    clear h h0 hm
    generalize hol : pre.length = o at *
    clear hol
    go_enter Tryd.func65, Tryd.ntmps65
    go_wp2
    go_end0
    exact ⟨rfl, v, by rw [HS.out]; exact HL.out, Only.refl _ _, fun k hk => .inl hk⟩
end Go.Proofs.YtmelmiookkeoaaaDoor
