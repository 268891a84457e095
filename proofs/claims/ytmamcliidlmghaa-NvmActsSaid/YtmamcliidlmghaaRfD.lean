/- The reference of layer 3: the contract of with. -/
import Derived.Test.YtmamcliidlmghaaRfC
namespace Go.Proofs.Ytmamcliidlmghaa
open Go.RowKit

theorem own_row {w : World} {base e size n g cap : Nat} {xs : List Value} (h : w.ownsRow base e size (.slice (some ⟨g, 0, none⟩) n cap) n xs) :
    ∃ cur, w.heap[g]? = some (.cells cur e (0, 0)) ∧ n ≤ cap ∧ cap ≤ maxLen ∧ cur.size = cap * size ∧ cur.toList.take (n * size) = xs := by
  rcases h.2 with ⟨h', _⟩ | ⟨g', cap', cur, h', _, hg, h1, h2, h3, h4⟩
  · simp at h'
  · simp only [Value.slice.injEq, Option.some.injEq, Addr.mk.injEq, and_true, true_and] at h'
    obtain ⟨rfl, rfl⟩ := h'
    exact ⟨cur, hg, h1, h2, h3, h4⟩
theorem row_set (cur : Array Value) (vs : List Value) (m : Nat) (h : cur.toList.take m = vs) (k : Nat) (hk : k < m) (i1 i2 : Nat) (a b : Value) : ((cur.setIfInBounds i1 a).setIfInBounds i2 b)[k]? = ((vs.set i1 a).set i2 b)[k]? := by
  rw [← Array.getElem?_toList, Array.toList_setIfInBounds, Array.toList_setIfInBounds, ← h, ← List.take_set, ← List.take_set, List.getElem?_take_of_lt hk]
theorem with_row {w wF : World} {F : List Nat} {C g j : Nat} {cs : List (Value × Value)} {ls : List V.Ln} {p : Value × Value} {l' : V.Ln} (h : RowAt w F C cs ls) (hF : ∀ k ∈ F, k < w.heap.size) (hp : CellAt w F p l') (hj : j < ls.length) (hb : Below w.heap.size w wF) (hg : w.heap.size ≤ g) (hgl : g < wF.heap.size)
    (hc : ∀ k, k < ls.length * 2 → wF.cell? ⟨g, k, none⟩ = (rowVals (cs.set j p))[k]?) : RowAt wF F g (cs.set j p) (ls.set j l') := by
  refine ⟨by rw [List.length_set, List.length_set, h.len], fun hf => by have := hF g hf; omega, hgl, fun i q hq => ?_, fun i q l hq hl => ?_⟩
  · have hi := (List.getElem?_eq_some_iff.1 hq).1
    rw [List.length_set, h.len] at hi
    obtain ⟨h1, h2⟩ := rowVals_get _ _ _ hq
    exact ⟨by rw [hc _ (by omega), Nat.mul_comm]; exact h1, by rw [hc _ (by omega), Nat.mul_comm]; exact h2⟩
  · by_cases e : j = i
    · subst e
      rw [List.getElem?_set_self (by rw [h.len]; exact hj)] at hq
      rw [List.getElem?_set_self hj] at hl
      obtain rfl := Option.some.inj hq
      obtain rfl := Option.some.inj hl
      exact hp.below hb
    · rw [List.getElem?_set_ne e] at hq hl
      exact (h.line i q l hq hl).below hb
section
variable {w : World} {F : List Nat}
set_option maxHeartbeats 1000000 in
set_option maxRecDepth 100000 in
theorem rf_with {C : Nat} {cs : List (Value × Value)} {ls : List V.Ln} (h : RowAt w F C cs ls) (hF : ∀ k ∈ F, k < w.heap.size) (n cap : Nat) (hn : ls.length = n) (hnc : n ≤ cap) (hcm : cap ≤ maxLen) (hn9 : n ≤ 1024) (down : Bool) (left st : Int) (j : Nat) (hj : j < n) (p : Value × Value) (l' : V.Ln) (hp : CellAt w F p l') :
    Calls Try.prog 33 #[.agg #[.slice (some ⟨C, 0, none⟩) n cap, .bool down, .int .i64 left, .int .i64 st], .int .i64 (j : Int), .agg #[p.1, p.2]] w fun e w' => ∃ C' cap', e = .returned (.agg #[.slice (some ⟨C', 0, none⟩) n cap', .bool down, .int .i64 left, .int .i64 st]) ∧ n ≤ cap' ∧ cap' ≤ maxLen ∧ RowAt w' F C' (cs.set j p) (ls.set j l') ∧ Below w.heap.size w w' ∧ w.heap.size ≤ C' := by
  obtain ⟨i0, hi, hz0, hz1, hz2⟩ := info_parts info_cell
  have HR := Lib.hid h
  have HPC := Lib.hid hp
  obtain ⟨L, mark, b, o, c', m1, m2, m3, m4, m5, _⟩ := hp
  obtain ⟨p1, p2⟩ := p
  obtain rfl : p2 = _ := m2
  obtain rfl : p1 = _ := m3
  have hlen : cs.length = n := by rw [← hn]; exact h.len
  have hlt := h.lt
  have HLN := Lib.hid hn
  have HLEN := Lib.hid hlen
  have HFF := Lib.hid hF
  have hcm' : cap ≤ 2 ^ 63 - 1 := hcm
  have HV := Lib.hid h.vals
  have m5' : c' ≤ 2 ^ 63 - 1 := m5
  have HVL : Hid ((rowVals cs).length = n * 2) := by show _ = _; rw [rowVals_length, hlen]
  clear h hn hlen hF m1 hcm m5
  generalize L.length = ll at *
  have HOWN : Hid (∀ a b c : Obj, ((((w.alloc a).alloc b).alloc c).alloc (.cells #[] 68)).ownsRow w.heap.size 68 2 (.slice (some ⟨w.heap.size + 1 + 1 + 1, 0, none⟩) 0 0) 0 []) := by
    intro a b c
    refine ⟨by simp, .inr ⟨w.heap.size + 1 + 1 + 1, 0, #[], rfl, by omega, ?_, Nat.le_refl _, Nat.zero_le _, by simp, by simp⟩⟩
    have := heap_alloc_new (((w.alloc a).alloc b).alloc c) (.cells #[] 68)
    simpa using this
  have HBL : Hid (∀ a b c d : Obj, Below w.heap.size w ((((w.alloc a).alloc b).alloc c).alloc d)) := fun a b c d => (((((Below.refl _ _).alloc (Nat.le_refl _) a).alloc (by simp) b).alloc (by simp; omega) c).alloc (by simp; omega) d)
  have HNW : Hid (∀ (a b c d : Obj) (k : Nat) (u : Value), (rowVals cs)[k]? = some u → ((((w.alloc a).alloc b).alloc c).alloc d).cell? ((⟨C, 0, none⟩ : Addr).add k) = some u) := by
    intro a b c d k u hu
    rw [Addr.add_lit, Nat.zero_add]
    exact ((HBL.out a b c d).cell (p := ⟨C, k, none⟩) hlt).trans (HV.out k u hu).1
  go_enter Try.func33, Try.ntmps33
  go_wp2_with (at_builtin; refine wpList_append_own_at _ rfl (.tmp 8) (.tmp 10) 29 rfl w.heap.size 68 i0 _ 2 32 Try.underlying29 hi hz0 hz1 hz2 rfl (by decide) _ _ _ rfl (HOWN.out _ _ _) ⟨C, 0, none⟩ n cap (rowVals cs) rfl HVL.out (HNW.out _ _ _ _) (fun u hu => by obtain ⟨k, hk⟩ := List.mem_iff_getElem?.1 hu; exact (HV.out k u hk).2) (by unfold maxLen; omega) (by omega) (HBL.out _ _ _ _).size ?_)
  intro v' w1 hown' hgrow hnil hat
  obtain ⟨g, cap', rfl, hg1⟩ := own_some hown' hnil
  have hg3 : w.heap.size + 3 ≤ g := by
    rcases hat with e | e
    · simp only [Value.ownBlock, Option.some.injEq] at e; omega
    · simp only [Value.ownBlock, Option.some.injEq] at e; omega
  have hblk : ∀ k, k < w.heap.size + 3 → w1.heap[k]? = _ := fun k hk => hgrow.block k (by simp; omega) (fun e => by simp only [Value.ownBlock, Option.some.injEq] at e; omega)
  have hx0 : w1.heap[w.heap.size]? = some (.cells #[.slice (some ⟨C, 0, none⟩) n cap, .bool down, .int .i64 left, .int .i64 st] 31 (0, 0)) := by
    rw [hblk _ (by omega), Below.heap_alloc _ _ _ (by simp; omega), Below.heap_alloc _ _ _ (by simp; omega), Below.heap_alloc _ _ _ (by simp), heap_alloc_new]
  have hx1 : w1.heap[w.heap.size + 1]? = some (.cells #[.slice (some ⟨b, o, none⟩) ll c', .int .i64 mark] 68 (0, 0)) := by
    rw [hblk _ (by omega), Below.heap_alloc _ _ _ (by simp), Below.heap_alloc _ _ _ (by simp)]
    have := heap_alloc_new (w.alloc (.cells #[.slice (some ⟨C, 0, none⟩) n cap, .bool down, .int .i64 left, .int .i64 st] 31)) (.cells #[.slice (some ⟨b, o, none⟩) ll c', .int .i64 mark] 68)
    simpa using this
  have hx2 : w1.heap[w.heap.size + 1 + 1]? = some (.cells #[.slice none 0 0, .bool false, .int .i64 0, .int .i64 0] 31 (0, 0)) := by
    rw [hblk _ (by omega), Below.heap_alloc _ _ _ (by simp)]
    have := heap_alloc_new ((w.alloc (.cells #[.slice (some ⟨C, 0, none⟩) n cap, .bool down, .int .i64 left, .int .i64 st] 31)).alloc (.cells #[.slice (some ⟨b, o, none⟩) ll c', .int .i64 mark] 68)) (.cells #[.slice none 0 0, .bool false, .int .i64 0, .int .i64 0] 31)
    simpa using this
  have HB1 : Hid (Below w.heap.size w w1) := (HBL.out _ _ _ _).grown hgrow (HBL.out _ _ _ _).size (fun k hk => by simp only [Value.ownBlock, Option.some.injEq] at hk; omega)
  have c30 := cell_of_row w1 _ 0 _ _ _ hx0
  have c31 := cell_of_row w1 _ 1 _ _ _ hx0
  have c32 := cell_of_row w1 _ 2 _ _ _ hx0
  have c33 := cell_of_row w1 _ 3 _ _ _ hx0
  have f30 := frozen_of_row w1 _ 0 _ _ hx0
  have c50 := cell_of_row w1 _ 0 _ _ _ hx1
  have c51 := cell_of_row w1 _ 1 _ _ _ hx1
  have c60 := cell_of_row w1 _ 0 _ _ _ hx2
  have c61 := cell_of_row w1 _ 1 _ _ _ hx2
  have c62 := cell_of_row w1 _ 2 _ _ _ hx2
  have c63 := cell_of_row w1 _ 3 _ _ _ hx2
  have f60 := frozen_of_row w1 _ 0 _ _ hx2
  have f61 := frozen_of_row w1 _ 1 _ _ hx2
  have f62 := frozen_of_row w1 _ 2 _ _ hx2
  have f63 := frozen_of_row w1 _ 3 _ _ hx2
  simp only [List.getElem?_toArray, List.getElem?_cons_zero, List.getElem?_cons_succ] at c30 c31 c32 c33 c50 c51 c60 c61 c62 c63
  have HOW := Lib.hid hown'
  have hn1 : ¬ g = w.heap.size := by omega
  have hn2 : ¬ w.heap.size = g := by omega
  have hn3 : ¬ g = w.heap.size + 1 + 1 := by omega
  have hn4 : ¬ w.heap.size + 1 + 1 = g := by omega
  obtain ⟨cur, hrow, hnc', hcm', hsz, htake⟩ := own_row hown'
  have cg0 : ∃ u, w1.cell? ⟨g, j * 2, none⟩ = some u := ⟨_, (cell_of_row w1 g (j * 2) _ _ _ hrow).trans (Array.getElem?_eq_getElem (by omega))⟩
  have cg1 : ∃ u, w1.cell? ⟨g, j * 2 + 1, none⟩ = some u := ⟨_, (cell_of_row w1 g (j * 2 + 1) _ _ _ hrow).trans (Array.getElem?_eq_getElem (by omega))⟩
  have fg0 : w1.frozen? ⟨g, j * 2, none⟩ = false := frozen_of_row w1 g _ _ _ hrow
  have fg1 : w1.frozen? ⟨g, j * 2 + 1, none⟩ = false := frozen_of_row w1 g _ _ _ hrow
  have HROW := Lib.hid hrow; have HTAKE := Lib.hid htake; have HCM := Lib.hid hcm'; have HNC := Lib.hid hnc'
  clear hrow htake hsz hcm' hnc'
  obtain ⟨u0, cg0⟩ := cg0
  obtain ⟨u1, cg1⟩ := cg1
  have HX0 := Lib.hid hx0; have HX2 := Lib.hid hx2; have HG3 := Lib.hid hg3; have HG1 := Lib.hid hg1
  clear hown' hgrow hnil hat hblk hx0 hx1 hx2 hg3 hg1
  go_wp2
  have HBF : Hid (∀ (a b c d e f g' : Value), Below w.heap.size w (((((((w1.setCell ⟨g, j * 2, none⟩ a).setCell ⟨g, j * 2 + 1, none⟩ b).setCell ⟨w.heap.size, 0, none⟩ c).setCell ⟨w.heap.size + 1 + 1, 0, none⟩ d).setCell ⟨w.heap.size + 1 + 1, 1, none⟩ e).setCell ⟨w.heap.size + 1 + 1, 2, none⟩ f).setCell ⟨w.heap.size + 1 + 1, 3, none⟩ g')) := by
    intro a b c d e f g'
    have h3 := HG3.out
    exact (((((((HB1.out.setCell (by show _ ≤ g; omega) _).setCell (by show _ ≤ g; omega) _).setCell (Nat.le_refl _) _).setCell (by show _ ≤ w.heap.size + 1 + 1; omega) _).setCell (by show _ ≤ w.heap.size + 1 + 1; omega) _).setCell (by show _ ≤ w.heap.size + 1 + 1; omega) _).setCell (by show _ ≤ w.heap.size + 1 + 1; omega) _)
  have HCF : Hid (∀ (c d e f g' : Value) (k : Nat), k < n * 2 → (((((((w1.setCell ⟨g, j * 2, none⟩ (.slice (some ⟨b, o, none⟩) ll c')).setCell ⟨g, j * 2 + 1, none⟩ (.int .i64 mark)).setCell ⟨w.heap.size, 0, none⟩ c).setCell ⟨w.heap.size + 1 + 1, 0, none⟩ d).setCell ⟨w.heap.size + 1 + 1, 1, none⟩ e).setCell ⟨w.heap.size + 1 + 1, 2, none⟩ f).setCell ⟨w.heap.size + 1 + 1, 3, none⟩ g').cell? ⟨g, k, none⟩ = (rowVals (cs.set j (.slice (some ⟨b, o, none⟩) ll c', .int .i64 mark)))[k]?) := by
    intro c d e f g' k hk
    have e1 := heap_setCell_same w1 g (j * 2) _ _ (.slice (some ⟨b, o, none⟩) ll c') HROW.out
    have e2 := heap_setCell_same _ g (j * 2 + 1) _ _ (.int .i64 mark) e1
    have e3 := (Below.heap_setCell _ ⟨w.heap.size + 1 + 1, 3, none⟩ g' g hn3).trans ((Below.heap_setCell _ ⟨w.heap.size + 1 + 1, 2, none⟩ f g hn3).trans ((Below.heap_setCell _ ⟨w.heap.size + 1 + 1, 1, none⟩ e g hn3).trans ((Below.heap_setCell _ ⟨w.heap.size + 1 + 1, 0, none⟩ d g hn3).trans ((Below.heap_setCell _ ⟨w.heap.size, 0, none⟩ c g hn1).trans e2))))
    rw [cell_of_row _ g k _ _ _ e3, ← rowVals_set]
    exact row_set _ _ _ HTAKE.out k hk _ _ _ _
  exact bodyPost_ret (v := .agg #[.slice (some ⟨g, 0, none⟩) n cap', .bool down, .int .i64 left, .int .i64 st]) (by simp [results, Try.results33, go_sem, c60, c61, c62, c63]) rfl
    ⟨g, cap', rfl, HNC.out, HCM.out, with_row HR.out HFF.out HPC.out (by rw [HLN.out]; exact hj) (HBF.out _ _ _ _ _ _ _) (by have := HG3.out; omega) (by simpa using HG1.out) (fun k hk => HCF.out _ _ _ _ _ k (by rw [HLN.out] at hk; exact hk)), HBF.out _ _ _ _ _ _ _, by have := HG3.out; omega⟩
end
end Go.Proofs.Ytmamcliidlmghaa
