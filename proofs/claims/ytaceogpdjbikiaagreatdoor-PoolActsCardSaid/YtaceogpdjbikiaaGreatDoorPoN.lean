
/- Layer 7: one slab more comes into a pool that Open makes. -/
import Derived.Test.YtaceogpdjbikiaaGreatDoorPoM
import Derived.Deep.AppendLies
namespace Go.Proofs.YtaceogpdjbikiaaGreatDoor

open Go.RowKit

/-- The objects that a slab more is made of. -/
abbrev stkObj (n t : Nat) : Obj := .cells #[.int .i64 (n : Int), .int .u64 (t : Int), .int .u64 0] 93 (0, 0)
abbrev ptrObj (g : Nat) : Obj := .cells #[.pointer (some ⟨g, 0, none⟩)] 73 (0, 0)
section

variable {wr w2 w3 : World} {y : Lay} {dv : Value} {sh : V.Sh} {ws xs : List Nat}

theorem slab_ahead (h : PoAt w2 y dv sh ws xs) {o1 o2 : Obj} (hg : ((w2.alloc o1).alloc o2).drew.grownBy w3 y.sv.ownBlock) : w3.cell? ⟨y.P, 5, none⟩ = some y.sv ∧ w3.frozen? ⟨y.P, 5, none⟩ = false ∧ w3.heap[y.P]? = w2.heap[y.P]? := by
  have hl := (Array.getElem?_eq_some_iff.1 h.row).1
  have hb : ((w2.alloc o1).alloc o2).drew.heap[y.P]? = w2.heap[y.P]? := (Below.heap_alloc _ _ _ (by simp; omega)).trans (Below.heap_alloc _ _ _ hl)
  have hne : some y.P ≠ y.sv.ownBlock := fun e => by
    rcases h.slabs.2 with ⟨h3, _⟩ | ⟨g', cap, cur, h3, _, hg', _⟩
    · rw [h3] at e; cases e
    · rw [h3] at e
      have : g' = y.P := by simpa [Value.ownBlock] using e.symm
      rw [this, h.row] at hg'
      simp only [Option.some.injEq, Obj.cells.injEq] at hg'
      exact absurd hg'.2.1 (by decide)
  have hbb : w3.heap[y.P]? = w2.heap[y.P]? := (hg.block y.P (Nat.lt_trans hl (by simp; omega)) hne).trans hb
  exact ⟨(World.cell?_of_block (w := w2) (a := ⟨y.P, 5, none⟩) hbb).trans h.c5, (World.frozen?_of_block (w := w2) (a := ⟨y.P, 5, none⟩) hbb).trans (frozen_of_row _ _ _ _ _ h.row), hbb⟩
theorem slab_behind (h : PoAt w2 y dv sh ws xs) (hx : xs.length = ws.length) (hq : Qs y ws xs) {t g2 cap2 : Nat} (hlo : ∀ k ∈ kfoot y ws.length, wr.heap.size ≤ k) (hb : Below wr.heap.size wr w2)
    (hg : ((w2.alloc (stkObj ws.length t)).alloc (ptrObj w2.heap.size)).drew.grownBy w3 y.sv.ownBlock)
    (ho : w3.ownsRow 0 73 1 (.slice (some ⟨g2, 0, none⟩) (ws.length + 1) cap2) (ws.length + 1) ((List.range ws.length).map (sptr y.S) ++ [.pointer (some ⟨w2.heap.size, 0, none⟩)]))
    (hat : y.sv.ownBlock = some g2 ∨ g2 = ((w2.alloc (stkObj ws.length t)).alloc (ptrObj w2.heap.size)).drew.heap.size) :
    PoAt (w3.setCell ⟨y.P, 5, none⟩ (.slice (some ⟨g2, 0, none⟩) (ws.length + 1) cap2)) { y with sv := .slice (some ⟨g2, 0, none⟩) (ws.length + 1) cap2, S := upd y.S ws.length w2.heap.size } dv sh (ws ++ [t]) (xs ++ [0]) ∧
      QsBut { y with sv := .slice (some ⟨g2, 0, none⟩) (ws.length + 1) cap2, S := upd y.S ws.length w2.heap.size } (ws ++ [t]) (xs ++ [0]) ws.length ∧
      (∀ k ∈ kfoot { y with sv := .slice (some ⟨g2, 0, none⟩) (ws.length + 1) cap2, S := upd y.S ws.length w2.heap.size } (ws.length + 1), wr.heap.size ≤ k) ∧
      Below wr.heap.size wr (w3.setCell ⟨y.P, 5, none⟩ (.slice (some ⟨g2, 0, none⟩) (ws.length + 1) cap2)) := by
  obtain ⟨_, _, hrow3⟩ := slab_ahead h hg
  have hws := hb.size
  have hsz : ((w2.alloc (stkObj ws.length t)).alloc (ptrObj w2.heap.size)).drew.heap.size = w2.heap.size + 2 := by simp
  have hPl := (Array.getElem?_eq_some_iff.1 h.row).1
  have hsvlt : ∀ b, y.sv.ownBlock = some b → b < w2.heap.size := fun b hb' => (h.slabs.lt b hb').2
  have hv : ∀ b, (Value.slice (some ⟨g2, 0, none⟩) (ws.length + 1) cap2).ownBlock = some b → y.sv.ownBlock = some b ∨ w2.heap.size ≤ b := fun b hb' => by
    have e : g2 = b := by simpa [Value.ownBlock] using hb'
    rcases hat with h1 | h1
    · exact .inl (by rw [← e]; exact h1)
    · right; omega
  have hkeep0 : ∀ k, k < w2.heap.size → k ∉ ownL y.sv → w3.heap[k]? = w2.heap[k]? := fun k hk hn => by
    rw [hg.block k (by rw [hsz]; omega) (fun e => hn (mem_ownL.2 e.symm))]
    exact (Below.heap_alloc _ _ _ (by simp; omega)).trans (Below.heap_alloc _ _ _ hk)
  have hst3 : StkAt w3 w2.heap.size ws.length t 0 := by
    have h1 : w3.heap[w2.heap.size]? = ((w2.alloc (stkObj ws.length t)).alloc (ptrObj w2.heap.size)).drew.heap[w2.heap.size]? := hg.block _ (by rw [hsz]; omega) (fun e => by have := hsvlt _ e.symm; omega)
    have h2 : ((w2.alloc (stkObj ws.length t)).alloc (ptrObj w2.heap.size)).heap[w2.heap.size]? = (w2.alloc (stkObj ws.length t)).heap[w2.heap.size]? := Below.heap_alloc _ _ _ (by simp)
    exact h1.trans (h2.trans (heap_alloc_new w2 _))
  have hos := Only.setCell w3 ⟨y.P, 5, none⟩ (.slice (some ⟨g2, 0, none⟩) (ws.length + 1) cap2)
  have hkeepS : ∀ k, k < w3.heap.size → k ≠ y.P → (w3.setCell ⟨y.P, 5, none⟩ (.slice (some ⟨g2, 0, none⟩) (ws.length + 1) cap2)).heap[k]? = w3.heap[k]? := fun k hk hn => hos.block k hk (fun e => hn (List.mem_singleton.1 e))
  have hg2P : (Value.slice (some ⟨g2, 0, none⟩) (ws.length + 1) cap2).ownBlock ≠ some y.P := fun e => by
    rcases ho.2 with ⟨h3, _⟩ | ⟨g', cap, cur, h3, _, hg', _⟩
    · cases h3
    · have e1 : g2 = y.P := by simpa [Value.ownBlock] using e
      simp only [Value.slice.injEq, Option.some.injEq, Addr.mk.injEq, and_true] at h3
      rw [← h3.1, e1, hrow3, h.row] at hg'
      simp only [Option.some.injEq, Obj.cells.injEq] at hg'
      exact absurd hg'.2.1 (by decide)
  have hsz3 : w2.heap.size + 2 ≤ w3.heap.size := by have := hg.size; omega
  refine ⟨h.grow hx (fun c hc x hx => hq.qlt c hc x hx) ?_ ?_ ?_ (fun k hk hn1 hn2 => (hkeepS k (by omega) hn1).trans (hkeep0 k hk hn2)) hv (Nat.le_refl _), hq.grow hx, fun k hk => ?_, ?_⟩
  · rw [heap_setCell_same w3 y.P 5 _ _ _ (hrow3.trans h.row)]; rfl
  · exact ownsRow_setCell_other ho hg2P _
  · exact hst3.keep (hkeepS _ (by omega) (by omega))
  · rcases kfoot_grow (y := y) (n := ws.length) hv (Nat.le_refl w2.heap.size) k hk with e | e
    · exact hlo k e
    · omega
  · have h1 : Below wr.heap.size wr ((w2.alloc (stkObj ws.length t)).alloc (ptrObj w2.heap.size)).drew := ((hb.alloc hb.size _).alloc (by simp; omega) _).drew
    have h2 := h1.grown hg (by rw [hsz]; omega) (fun k hk => hlo k (mem_kfoot.2 (.inr (.inr (.inl (mem_ownL.2 hk))))))
    exact h2.setCell (hlo _ (mem_kfoot.2 (.inl rfl))) _
end

end Go.Proofs.YtaceogpdjbikiaaGreatDoor
