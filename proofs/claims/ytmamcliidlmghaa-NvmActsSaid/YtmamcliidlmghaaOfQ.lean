/- The reference of layer 3: Of's loop. -/
import Derived.Test.YtmamcliidlmghaaOfM
import Derived.Test.YtmamcliidlmghaaRfI
namespace Go.Proofs.Ytmamcliidlmghaa
open Go.RowKit

/-- How far Of's loop has come. -/
structure Ofed (w : World) (F : List Nat) (zs : List Int) (j : Nat) (v : Value) (cs : List (Value × Value)) (wr : World) : Prop where
  z0 : wr.heap[w.heap.size]? = some (.cells #[.slice none 0 0, .bool false, .int .i64 0, .int .i64 0] 31 (0, 0))
  z1 : wr.heap[w.heap.size + 1]? = some (.cells #[v, .bool false, .int .i64 (-1), .int .i64 0] 31 (0, 0))
  bw : Below w.heap.size w wr
  len : cs.length = j
  own : wr.ownsRow (w.heap.size + 2) 68 2 v j (rowVals cs)
  cell : ∀ (i : Nat) (p : Value × Value), cs[i]? = some p → CellAt wr (ownL v ++ w.heap.size :: (w.heap.size + 1) :: F) p (lnOf zs i)
theorem cell_two_new (W : World) (x y : Value) (t : TypeId) : ∀ (j : Nat) (u : Value), ([x, y] : List Value)[j]? = some u → (W.alloc (.cells #[x, y] t)).cell? ((⟨W.heap.size, 0, none⟩ : Addr).add j) = some u := by
  intro j u hu
  rw [Addr.add_lit, Nat.zero_add, cell_of_row _ W.heap.size j _ _ _ (heap_alloc_new W _)]
  simpa using hu
theorem Ofed.next {w wr w3 w4 : World} {F : List Nat} {zs : List Int} {j g c : Nat} {v v4 : Value} {cs : List (Value × Value)} {b : Obj} (h : Ofed w F zs j v cs wr) (hF : ∀ k ∈ F, k < w.heap.size)
    (hb3 : Below wr.heap.size wr w3) (hz3 : IsBytes w3 (.slice (some ⟨g, 0, none⟩) 64 c) (lnOf zs j).now) (hl : (lnOf zs j).now.length = 64) (hg : wr.heap.size ≤ g) (hg3 : g < w3.heap.size)
    (hown : w4.ownsRow (w.heap.size + 2) 68 2 v4 (j + 1) (rowVals cs ++ [.slice (some ⟨w3.heap.size, 0, none⟩) 1 1, .int .i64 (-1)]))
    (hgrow : ((w3.alloc (.cells #[.slice (some ⟨g, 0, none⟩) 64 c] 22)).alloc b).grownBy w4 v.ownBlock) (hat : v4.ownBlock = v.ownBlock ∨ v4.ownBlock = some (w3.heap.size + 1 + 1)) :
    Ofed w F zs (j + 1) v4 (cs ++ [(.slice (some ⟨w3.heap.size, 0, none⟩) 1 1, .int .i64 (-1))]) (w4.setCell ⟨w.heap.size + 1, 0, none⟩ v4) := by
  obtain ⟨z0, z1, bw, len, own, cell⟩ := h
  have hvl : ∀ k, v.ownBlock = some k → w.heap.size + 2 ≤ k ∧ k < wr.heap.size := fun k e => ⟨owns_block own k e, owns_lt own e⟩
  have hw1 : w.heap.size + 1 < wr.heap.size := (Array.getElem?_eq_some_iff.1 z1).1
  have hs3 := hb3.size
  have hbW : Below wr.heap.size wr ((w3.alloc (.cells #[.slice (some ⟨g, 0, none⟩) 64 c] 22)).alloc b) := (hb3.alloc hs3 _).alloc (by simp; omega) _
  have ho4 : Only (ownL v) wr w4 := (Only.of_below hbW).grown hgrow (fun k e => .inl (mem_ownL.2 e))
  have hsz4 : w3.heap.size + 2 ≤ w4.heap.size := by have := hgrow.size; simpa using this
  have hY : w4.heap[w3.heap.size]? = some (.cells #[.slice (some ⟨g, 0, none⟩) 64 c] 22 (0, 0)) := by
    rw [hgrow.block _ (by simp; omega) (fun e => by have := hvl _ e.symm; omega), Below.heap_alloc _ _ _ (by simp), heap_alloc_new]
  have hZ : ∀ k, k < w3.heap.size → (wr.heap.size ≤ k) → w4.heap[k]? = w3.heap[k]? := fun k hk hk2 => by
    rw [hgrow.block _ (by simp; omega) (fun e => by have := hvl _ e.symm; omega), Below.heap_alloc _ _ _ (by simp; omega), Below.heap_alloc _ _ _ hk]
  have hb4 : Only (ownL v) w3 w4 := (Only.of_below (((Below.refl _ _).alloc (Nat.le_refl _) _).alloc (by simp) _)).grown hgrow (fun k e => .inl (mem_ownL.2 e))
  have hs : Only [w.heap.size + 1] w4 (w4.setCell ⟨w.heap.size + 1, 0, none⟩ v4) := Only.setCell w4 ⟨w.heap.size + 1, 0, none⟩ _
  have ho5 : Only (ownL v ++ w.heap.size :: (w.heap.size + 1) :: F) wr (w4.setCell ⟨w.heap.size + 1, 0, none⟩ v4) :=
    (ho4.mono (fun k hk => by simp [hk])).trans' (hs.mono (fun k hk => by rw [List.mem_singleton.1 hk]; simp))
  have hv4 : ∀ k, v4.ownBlock = some k → w.heap.size + 2 ≤ k := fun k e => owns_block hown k e
  have hF' : ∀ k ∈ ownL v4 ++ w.heap.size :: (w.heap.size + 1) :: F, k ∈ ownL v ++ w.heap.size :: (w.heap.size + 1) :: F ∨ wr.heap.size ≤ k := fun k hk => by
    rcases List.mem_append.1 hk with hk | hk
    · have e := mem_ownL.1 hk
      rcases hat with e' | e'
      · rw [e'] at e; exact .inl (List.mem_append_left _ (mem_ownL.2 e))
      · rw [e'] at e; exact .inr (by have := Option.some.inj e; omega)
    · exact .inl (List.mem_append_right _ hk)
  have hnot : ∀ k, w.heap.size + 2 ≤ k → k < w3.heap.size + 2 → wr.heap.size ≤ k → k ∉ ownL v4 ++ w.heap.size :: (w.heap.size + 1) :: F := fun k h1 h2 h3 hk => by
    rcases List.mem_append.1 hk with hk | hk
    · have e := mem_ownL.1 hk
      rcases hat with e' | e'
      · rw [e'] at e; have := hvl k e; omega
      · rw [e'] at e; have := Option.some.inj e; omega
    · rcases List.mem_cons.1 hk with e | hk
      · omega
      · rcases List.mem_cons.1 hk with e | hk
        · omega
        · have := hF k hk; omega
  have hblk : ∀ k, k < w.heap.size + 2 → w4.heap[k]? = wr.heap[k]? := fun k hk => ho4.block k (by omega) (fun hf => by have := (hvl k (mem_ownL.1 hf)).1; omega)
  refine ⟨?_, ?_, ?_, by simp [len], ?_, ?_⟩
  · rw [Below.heap_setCell _ _ _ _ (by show ¬ _ = w.heap.size + 1; omega), hblk _ (by omega)]; exact z0
  · have e := heap_setCell_same w4 (w.heap.size + 1) 0 _ _ v4 ((hblk _ (by omega)).trans z1)
    rw [e]; simp
  · have h4 : Below w.heap.size w w4 := bw.trans (ho4.below bw.size (fun k hk => by have := (hvl k (mem_ownL.1 hk)).1; omega))
    exact h4.setCell (by show _ ≤ w.heap.size + 1; omega) _
  · have e : rowVals (cs ++ [(.slice (some ⟨w3.heap.size, 0, none⟩) 1 1, .int .i64 (-1))]) = rowVals cs ++ [.slice (some ⟨w3.heap.size, 0, none⟩) 1 1, .int .i64 (-1)] := by simp [rowVals]
    rw [e]
    exact owns_only hown hs (fun k e hk => by have := hv4 k e; have := List.mem_singleton.1 hk; omega)
  · intro i p hp
    have hi := (List.getElem?_eq_some_iff.1 hp).1
    simp only [List.length_append, List.length_singleton, len] at hi
    by_cases hij : i < j
    · rw [List.getElem?_append_left (by omega)] at hp
      exact (cell i p hp).step ho5 hF'
    · obtain rfl : i = j := by omega
      rw [List.getElem?_append_right (by omega), show i - cs.length = 0 by omega] at hp
      obtain rfl := Option.some.inj hp
      refine ⟨[(lnOf zs i).now], -1, w3.heap.size, 0, 1, ⟨rfl, .inr ⟨rfl, rfl⟩⟩, rfl, rfl, Nat.le_refl _, by unfold maxLen; omega, hnot _ (by omega) (by omega) hs3, by have := hs.size; omega, fun k z hk => ?_⟩
      have hk0 : k = 0 := by have := (List.getElem?_eq_some_iff.1 hk).1; simpa using this
      subst hk0
      obtain rfl : (lnOf zs i).now = z := by simpa using hk
      refine ⟨.slice (some ⟨g, 0, none⟩) 64 c, ?_, g, 0, c, by rw [hl], hnot _ (by omega) (by omega) hg, by have := hs.size; omega, ?_⟩
      · rw [cell_of_row _ _ _ _ _ _ ((Below.heap_setCell _ _ _ _ (by show ¬ _ = w.heap.size + 1; omega)).trans hY)]; rfl
      · exact IsInts.only (IsInts.only hz3 hb4 (fun _ a e hk => by cases e; have := hvl g (mem_ownL.1 hk); omega)) hs (fun _ a e hk => by cases e; have h4 := List.mem_singleton.1 hk; simp only at h4; omega)
theorem Ofed.ref {w wr W : World} {F : List Nat} {zs : List Int} {n C cap : Nat} {cs : List (Value × Value)} (h : Ofed w F zs n (.slice (some ⟨C, 0, none⟩) n cap) cs wr) (hF : ∀ k ∈ F, k < w.heap.size) (hn : zs.length / 64 = n) (ho : Only [w.heap.size] wr W) :
    RefAt W F (.agg #[.slice (some ⟨C, 0, none⟩) n cap, .bool false, .int .i64 (-1), .int .i64 0]) (dvOf zs) ∧ Below w.heap.size w W := by
  obtain ⟨z0, z1, bw, len, own, cell⟩ := h
  obtain ⟨cur, h1, h2, h3, h4, h5⟩ := own_row own
  have hC := owns_block own C rfl
  have hls : (dvOf zs).lines = linesOf zs n n := by show linesOf _ _ _ = _; rw [hn]
  have hll : (dvOf zs).lines.length = n := by rw [hls, linesOf_length]
  refine ⟨⟨C, cap, cs, false, -1, by rw [hll]; rfl, by rw [hll]; exact h2, h3, ?_, rfl, fun _ => rfl⟩, bw.trans (ho.below bw.size (fun k hk => by have := List.mem_singleton.1 hk; omega))⟩
  have hrow : RowAt wr (w.heap.size :: (w.heap.size + 1) :: F) C cs (dvOf zs).lines := by
    refine ⟨by rw [hll, len], fun hf => ?_, (Array.getElem?_eq_some_iff.1 h1).1, fun j p hp => ?_, fun j p l hp hl => ?_⟩
    · rcases List.mem_cons.1 hf with e | hk
      · omega
      · rcases List.mem_cons.1 hk with e | hk
        · omega
        · have := hF C hk; omega
    · have hj := (List.getElem?_eq_some_iff.1 hp).1
      rw [len] at hj
      obtain ⟨e1, e2⟩ := rowVals_get _ _ _ hp
      rw [← h5, List.getElem?_take_of_lt (by omega), Array.getElem?_toList] at e1 e2
      rw [Nat.mul_comm 2 j]
      exact ⟨(cell_of_row wr C (j * 2) _ _ _ h1).trans e1, (cell_of_row wr C (j * 2 + 1) _ _ _ h1).trans e2⟩
    · have hj := (List.getElem?_eq_some_iff.1 hp).1
      rw [len] at hj
      rw [hls, linesOf_get _ _ _ _ hj, if_pos hj] at hl
      obtain rfl := Option.some.inj hl
      exact (cell j p hp).step (Only.refl _ _) (fun k hk => .inl (List.mem_append_right _ hk))
  exact hrow.step (ho.mono (fun k hk => by rw [List.mem_singleton.1 hk]; simp)) (fun k hk => .inl (by simp [hk]))
end Go.Proofs.Ytmamcliidlmghaa
