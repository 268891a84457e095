
/- Contract of a line's store: another content, if the word is another one. Other blocks than the line's and that of its slice stay. -/
import Derived.Test.YtmelmiookkeoaaaDoorNvLb

namespace Go.Proofs.YtmelmiookkeoaaaDoor

open Go.RowKit

theorem info_change : (Tryd.prog.info? 85).map (fun i => (i.zero, i.size, i.bytes)) = some (some (.agg #[.int .i64 0, .int .u64 0]), 2, 16) := by kernel_rfl

theorem chCells_one (c : Nat × Nat) : ∀ u ∈ chCells c, u.oneCell' = true := by
  intro v hv
  simp [chCells] at hv
  rcases hv with rfl | rfl <;> rfl
theorem own_some {w : World} {base e size : Nat} {v : Value} {n : Nat} {xs : List Value} (h : w.ownsRow base e size v n xs) (hv : v = .slice none 0 0 → False) : ∃ g cap, v = .slice (some ⟨g, 0, none⟩) n cap ∧ g < w.heap.size := by
  rcases h.2 with ⟨h', _⟩ | ⟨g, cap, cur, h', _, hg, _⟩
  · exact (hv h').elim
  · exact ⟨g, cap, h', (Array.getElem?_eq_some_iff.1 hg).1⟩
/-- The blocks of a slice that the call owns. -/
def ownL (v : Value) : List Nat := v.ownBlock.toList
theorem mem_ownL {v : Value} {k : Nat} : k ∈ ownL v ↔ v.ownBlock = some k := by simp [ownL, Option.mem_toList]
theorem ownL_nil : ownL (.slice none 0 0) = [] := rfl

/-- What a line's call leaves: the line, with a slice that lies where it lay, or in a block that is new. -/
def LnPost (w : World) (L : Nat) (pre post : List Value) (v : Value) (l' : V.Ln) (e : Ending) (w' : World) : Prop :=
  e = .returned (.tuple #[]) ∧ ∃ v', LineAt w' L pre post l' v' ∧ Only (L :: ownL v) w w' ∧ (∀ k ∈ ownL v', k ∈ ownL v ∨ w.heap.size ≤ k)

/-- Another slice in a line's cell. -/
theorem LineAt.withOver {w : World} {L : Nat} {pre post : List Value} {l l' : V.Ln} {v v' : Value} (h : w.heap[L]? = some (.cells (pre ++ lineCells l v ++ post).toArray 77 (0, 0))) (hn : l'.now = l.now) (hm : l'.mark = l.mark) (hg : l'.Good)
    (ho : w.ownsRow 0 85 2 v' l'.over.length (overCells l'.over)) (ha : v'.ownBlock ≠ some L) :
    LineAt (w.setCell ⟨L, pre.length + 64, none⟩ v') L pre post l' v' := by
  have hl : l.now.length = 64 := by rw [← hn]; exact hg.len
  have h1 := seg_stored h 64 (by rw [lineCells_length hl]; omega) v'
  rw [lineCells_setOver hl] at h1
  have e : lineCells l' v' = lineCells l v' := by simp [lineCells, hn, hm]
  exact ⟨by rw [e]; exact h1, hg, owns_only ho (Only.setCell w ⟨L, pre.length + 64, none⟩ v') (fun g hg => by rw [hg] at ha; simp at ha ⊢; exact ha), ha⟩

set_option maxRecDepth 100000 in
theorem ln_store_new (w : World) (L : Nat) (pre post : List Value) (l : V.Ln) (v : Value) (a n : Nat) (h : LineAt w L pre post l v) (h8 : a % 8 = 0) (ha : a + 8 ≤ 64) (hn : n < 2 ^ 64) (hne : l.get a ≠ n) (hk : l.over.length ≤ 1000000000) :
    Calls Tryd.prog 38 #[.pointer (some ⟨L, pre.length, none⟩), .int .i64 (a : Int), .int .u64 (n : Int)] w (LnPost w L pre post v (l.store a n)) := by
  obtain ⟨i0, hi, hz0, hz1, hz2⟩ := info_parts info_change
  have HLD := Lib.hid (ln_load w L pre post l v a h h8 ha)
  have hgl := h.good.get_lt a
  have HPUT := Lib.hid (fun (W : World) (l : V.Ln) (v : Value) (h : LineAt W L pre post l v) => ln_put W L pre post l v a n h h8 ha hn)
  have hb : ((l.get a : Int) == (n : Int)) = false := by simp; omega
  have HL' : Hid ((⟨l.now, l.over ++ [(a, l.get a)], l.mark⟩ : V.Ln).Good) := by
    refine ⟨h.good.len, h.good.byte, fun c hc => ?_, by have := h.good.mark; simp; omega⟩
    rcases List.mem_append.1 hc with hc | hc
    · exact h.good.over c hc
    · obtain rfl := List.mem_singleton.1 hc
      exact ⟨h8, ha, hgl⟩
  have HS : Hid (l.store a n = ⟨M.pv l.now a n 8, l.over ++ [(a, l.get a)], l.mark⟩) := by
    show _ = _
    unfold V.Ln.store
    rw [if_neg hne]
  have HL := Lib.hid h
  have HOL := Lib.hid h.over
  have HFR := Lib.hid (h.free (pre.length + 64))
  have hlt := h.lt
  have HW := Lib.hid (fun (W : World) (v v' : Value) (h : W.heap[L]? = some (.cells (pre ++ lineCells l v ++ post).toArray 77 (0, 0))) (ho : W.ownsRow 0 85 2 v' (l.over ++ [(a, l.get a)]).length (overCells (l.over ++ [(a, l.get a)]))) (ha : v'.ownBlock ≠ some L) => LineAt.withOver (l' := ⟨l.now, l.over ++ [(a, l.get a)], l.mark⟩) h rfl rfl HL'.out ho ha)
  clear h hne
  generalize l.get a = x at *
  generalize hol : pre.length = o at *
  clear hol
  have hv := HL.out.own
  obtain ⟨A, c, rfl, hx1, hx2⟩ := owns_form hv
  clear hv hx1 hx2
  go_enter Tryd.func38, Tryd.ntmps38
  go_wp2_with fail
  refine HLD.out.mono ?_
  rintro e w' ⟨rfl, m, rfl⟩
  have hov := HOL.out
  have HOWN : Hid (((w.drewN m).alloc (.cells #[.int .i64 (a : Int), .int .u64 (x : Int)] 85)).ownsRow 0 85 2 (.slice A l.over.length c) l.over.length (overCells l.over)) := (show (w.drewN m).ownsRow 0 _ 2 _ _ _ from HL.out.own).alloc _
  have HC : Hid (∀ j u, (chCells (a, x))[j]? = some u → ((w.drewN m).alloc (.cells #[.int .i64 (a : Int), .int .u64 (x : Int)] 85)).cell? ((⟨w.heap.size, 0, none⟩ : Addr).add j) = some u) := by
    intro j u hj
    have hj2 : j < 2 := (List.getElem?_eq_some_iff.1 hj).1
    rw [Addr.add_lit, ← hj]
    have e := cell_of_row ((w.drewN m).alloc (.cells #[.int .i64 (a : Int), .int .u64 (x : Int)] 85)) w.heap.size (0 + j) _ _ _ (heap_alloc_new _ _)
    rw [e, Nat.zero_add]
    match j, hj2 with
    | 0, _ => rfl
    | 1, _ => rfl
  have HON : Hid (Only [] w ((w.drewN m).alloc (.cells #[.int .i64 (a : Int), .int .u64 (x : Int)] 85))) := ((Only.refl [] w).drewN m).alloc _
  go_wp2_with (at_builtin; refine wpList_append_own_at _ rfl (.tmp 17) (.tmp 21) 75 rfl 0 85 i0 _ 2 16 Tryd.underlying75 hi hz0 hz1 hz2 rfl (by decide) _ _ _ rfl HOWN.out ⟨w.heap.size, 0, none⟩ 1 1 (chCells (a, x)) rfl rfl HC.out (chCells_one (a, x)) (by unfold maxLen; omega) (by omega) (Nat.zero_le _) ?_)
  intro v' w1 hown' hgrow hnil hat
  have HAP : Hid ((Value.slice A l.over.length c).ownBlock ≠ some L) := HL.out.apart
  have hoL : Only (ownL (.slice A l.over.length c)) w w1 := (HON.out.mono (by simp)).grown hgrow (fun k hk => .inl (mem_ownL.2 hk))
  have hblk : w1.heap[L]? = w.heap[L]? := hoL.block L hlt (fun hm => HAP.out (mem_ownL.1 hm))
  have hcell1 : w1.cell? ⟨L, o + 64, none⟩ = some (.slice A l.over.length c) := (World.cell?_of_block (w := w) (a := ⟨L, o + 64, none⟩) hblk).trans HOL.out
  have hfree1 : w1.frozen? ⟨L, o + 64, none⟩ = false := (World.frozen?_of_block (w := w) (a := ⟨L, o + 64, none⟩) hblk).trans HFR.out
  obtain ⟨g, c', rfl, _⟩ := own_some hown' hnil
  have HG : Hid (∀ k ∈ ownL (.slice (some ⟨g, 0, none⟩) (l.over.length + 1) c'), k ∈ ownL (.slice A l.over.length c) ∨ w.heap.size ≤ k) := by
    intro k hk
    rw [mem_ownL] at hk ⊢
    rcases hat with e | e
    · exact .inl (e ▸ hk)
    · right
      rw [e] at hk
      simp at hk
      omega
  have hgL : g ≠ L := by
    intro e
    have h1 := HG.out g (mem_ownL.2 rfl)
    rw [e, mem_ownL] at h1
    exact h1.elim HAP.out (by omega)
  have hown2 : w1.ownsRow 0 85 2 (.slice (some ⟨g, 0, none⟩) (l.over.length + 1) c') (l.over ++ [(a, x)]).length (overCells (l.over ++ [(a, x)])) := by
    rw [overCells_append, List.length_append]
    simpa [overCells] using hown'
  have HLN := Lib.hid (HW.out w1 _ _ (hblk.trans HL.out.row) hown2 (by simp [Value.ownBlock, hgL]))
  have HO2 : Hid (Only (L :: ownL (.slice A l.over.length c)) w (w1.setCell ⟨L, o + 64, none⟩ (.slice (some ⟨g, 0, none⟩) (l.over.length + 1) c'))) :=
    (hoL.mono (by intro k hk; simp [hk])).trans' ((Only.setCell w1 ⟨L, o + 64, none⟩ _).mono (by simp))
  clear hown' hgrow hnil hat hoL hblk hown2 hov
  go_wp2_with fail
  refine (HPUT.out _ _ _ HLN.out).mono ?_
  rintro e w2 ⟨rfl, h1, h2⟩
  have H1 := Lib.hid h1; have H2 := Lib.hid h2
  clear h1 h2
  go_wp2
  go_end0
  refine ⟨rfl, _, ?_, HO2.out.trans' (H2.out.mono (by simp)), HG.out⟩
  rw [HS.out]
  exact H1.out

theorem ln_store (w : World) (L : Nat) (pre post : List Value) (l : V.Ln) (v : Value) (a n : Nat) (h : LineAt w L pre post l v) (h8 : a % 8 = 0) (ha : a + 8 ≤ 64) (hn : n < 2 ^ 64) (hk : l.over.length ≤ 1000000000) :
    Calls Tryd.prog 38 #[.pointer (some ⟨L, pre.length, none⟩), .int .i64 (a : Int), .int .u64 (n : Int)] w (LnPost w L pre post v (l.store a n)) := by
  by_cases hne : l.get a = n
  · have HLD := Lib.hid (ln_load w L pre post l v a h h8 ha)
    have HS : Hid (l.store a n = l) := by show _ = _; unfold V.Ln.store; rw [if_pos hne]
    have HL := Lib.hid h
    clear h
    have hb : ((n : Int) == (n : Int)) = true := by simp
    rw [hne] at HLD
    clear hne
    generalize hol : pre.length = o at *
    clear hol
    go_enter Tryd.func38, Tryd.ntmps38
    go_wp2_with fail
    refine HLD.out.mono ?_
    rintro e w' ⟨rfl, m, rfl⟩
    go_wp2
    go_end0
    exact ⟨rfl, v, by rw [HS.out]; exact HL.out.drewN m, (Only.refl _ _).drewN m, fun k hk => .inl hk⟩
  · exact ln_store_new w L pre post l v a n h h8 ha hn hne hk
end Go.Proofs.YtmelmiookkeoaaaDoor
