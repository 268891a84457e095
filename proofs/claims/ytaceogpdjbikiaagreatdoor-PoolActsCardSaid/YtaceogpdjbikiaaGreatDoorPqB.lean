
/- Layer 7: a queue's methods that write: Swap, Pop, Push. -/
import Derived.Test.YtaceogpdjbikiaaGreatDoorPqA
import Derived.RegionTactic
import Derived.Deep.AppendLies
import Derived.Handy
import Derived.OneCell
import Derived.Shelf.RegionOpen
namespace Go.Proofs.YtaceogpdjbikiaaGreatDoor

open Go.RowKit

set_option maxHeartbeats 1000000 in
theorem q_swap {w : World} {S : Nat → Nat} {q : Nat} {v : Value} {L : List Nat} (h : QAt w S q v L) (i j : Nat) (hi : i < L.length) (hj : j < L.length) (hlen : L.length ≤ 1000) :
    Calls Tryz.prog 138 #[v, .int .i64 (i : Int), .int .i64 (j : Int)] w fun e w' => e = .returned (.tuple #[]) ∧ QAt w' S q v (H.swp L i j) ∧ Only (q :: ownL v) w w' := by
  obtain ⟨g, cap, rfl, hc1, hc2, hcell, hfr⟩ := h.get (by omega)
  have hx := hcell i hi
  have hy := hcell j hj
  have fi := hfr i
  have fj := hfr j
  have HPOST : Hid (∀ m : Nat, QAt (((w.drewN m).setCell ⟨g, i, none⟩ (sptr S (L.getD j 0))).setCell ⟨g, j, none⟩ (sptr S (L.getD i 0))) S q (.slice (some ⟨g, 0, none⟩) L.length cap) (H.swp L i j) ∧ Only (q :: ownL (.slice (some ⟨g, 0, none⟩) L.length cap)) w (((w.drewN m).setCell ⟨g, i, none⟩ (sptr S (L.getD j 0))).setCell ⟨g, j, none⟩ (sptr S (L.getD i 0)))) := by
    intro m
    obtain ⟨a1, a2⟩ := (h.drewN m).set i (L.getD j 0)
    have e : (L.set i (L.getD j 0)).length = L.length := by simp
    rw [← e] at a1
    obtain ⟨b1, b2⟩ := a1.set j (L.getD i 0)
    rw [e] at b1
    exact ⟨b1, (((Only.refl _ w).drewN m).trans' (a2.trans' b2)).mono (fun k hk => List.mem_cons_of_mem _ (mem_ownL.2 (by rw [List.mem_singleton.1 hk]; rfl)))⟩
  obtain ⟨u, hu⟩ : ∃ u, (w.setCell ⟨g, i, none⟩ (sptr S (L.getD j 0))).cell? ⟨g, j, none⟩ = some u := by
    obtain ⟨a1, a2⟩ := h.set i (L.getD j 0)
    have e : (L.set i (L.getD j 0)).length = L.length := by simp
    rw [← e] at a1
    obtain ⟨g', cap', e2, _, _, hc, _⟩ := a1.get (by omega)
    simp only [Value.slice.injEq, Option.some.injEq, Addr.mk.injEq, and_true] at e2
    obtain ⟨rfl, _⟩ := e2
    exact ⟨_, hc j (by omega)⟩
  unfold sptr at hx hy HPOST hu
  clear hcell h hfr
  generalize L.getD i 0 = x at *
  generalize L.getD j 0 = y at *
  generalize S x = sx at *
  generalize S y = sy at *
  generalize L.length = n at *
  go_enter Tryz.func138, Tryz.ntmps138
  go_region
  go_wp2
  go_end0
  exact ⟨rfl, HPOST.out 1⟩

/-- The last one comes out. -/
theorem q_pop {w : World} {S : Nat → Nat} {q n : Nat} {v : Value} {L : List Nat} (h : QAt w S q v L) (hn : L.length = n + 1) (hlen : n ≤ 1000) :
    Calls Tryz.prog 136 #[.pointer (some ⟨q, 0, none⟩)] w fun e w' => e = .returned (.iface 73 (sptr S (L.getD n 0))) ∧ ∃ v', QAt w' S q v' (L.take n) ∧ Only (q :: ownL v) w w' ∧ (∀ k ∈ ownL v', k ∈ ownL v) := by
  obtain ⟨g, cap, rfl, hc1, hc2, hcell, hfr⟩ := h.get (by omega)
  have hx := hcell n (by omega)
  have hq := h.at
  have hqf := h.free
  have HPOST : Hid (QAt (w.setCell ⟨q, 0, none⟩ (.slice (some ⟨g, 0, none⟩) n cap)) S q (.slice (some ⟨g, 0, none⟩) n cap) (L.take n) ∧ Only (q :: ownL (.slice (some ⟨g, 0, none⟩) L.length cap)) w (w.setCell ⟨q, 0, none⟩ (.slice (some ⟨g, 0, none⟩) n cap))) := by
    have ho := Only.setCell w ⟨q, 0, none⟩ (.slice (some ⟨g, 0, none⟩) n cap)
    refine ⟨⟨?_, ?_⟩, ho.mono (fun k hk => by rw [List.mem_singleton.1 hk]; exact List.mem_cons_self ..)⟩
    · rw [heap_setCell_same w q 0 _ _ _ h.cell]; rfl
    · have hne := h.ne
      have h1 := h.own
      have hl : (L.take n).length = n := by simp; omega
      rw [hl]
      refine ⟨by simp; omega, ?_⟩
      rcases h1.2 with ⟨e, _⟩ | ⟨g', cap', cur, e, hb, hg, h2, h3, h4, h5⟩
      · cases e
      · simp only [Value.slice.injEq, Option.some.injEq, Addr.mk.injEq, and_true] at e
        obtain ⟨rfl, _, rfl⟩ := e
        refine .inr ⟨g, cap, cur, rfl, hb, (ho.block g (Array.getElem?_eq_some_iff.1 hg).1 (fun e => hne (by rw [List.mem_singleton.1 e]; rfl))).trans hg, by omega, h3, h4, ?_⟩
        rw [List.map_take, ← h5, List.take_take, Nat.min_eq_left (by omega), Nat.mul_one]
  have hle : n ≤ cap := by omega
  unfold sptr at hx
  rw [hn] at hq
  clear hcell hfr hc1
  generalize hg : L.getD n 0 = x at *
  unfold sptr
  generalize S x = sx at *
  go_enter Tryz.func136, Tryz.ntmps136
  go_wp2
  go_ret
  exact ⟨rfl, _, HPOST.out.1, HPOST.out.2, fun k hk => hk⟩
theorem info_stock : (Tryz.prog.info? 73).map (fun i => (i.zero, i.size, i.bytes)) = some (some (.pointer none), 1, 8) := by kernel_rfl
/-- One comes in, behind the last. -/
theorem q_push {w : World} {S : Nat → Nat} {q : Nat} {v : Value} {L : List Nat} (h : QAt w S q v L) (x : Nat) (hlen : L.length ≤ 1000) :
    Calls Tryz.prog 137 #[.pointer (some ⟨q, 0, none⟩), .iface 73 (sptr S x)] w fun e w' => e = .returned (.tuple #[]) ∧ ∃ v', QAt w' S q v' (L ++ [x]) ∧ Only (q :: ownL v) w w' ∧ (∀ k ∈ ownL v', k ∈ ownL v ∨ w.heap.size ≤ k) := by
  have hq := h.at
  have hqf := h.free
  have HQ := Lib.hid h
  obtain ⟨a, cap, rfl, hc1, hc2⟩ := h.form
  obtain ⟨i0, hi, hz0, hz1, hz2⟩ := info_parts info_stock
  have HO : Hid (∀ o : Obj, (w.alloc o).ownsRow 0 73 1 (.slice a L.length cap) L.length (L.map (sptr S))) := fun o => h.own.alloc o
  have HNE : Hid (¬ some q = (Value.slice a L.length cap).ownBlock) := fun e => h.ne e.symm
  have HLT : Hid (q < w.heap.size) := h.lt q (by simp)
  have hta : ∀ (p : Addr) (W : World), (Instr.typeAssert (.iface 73 (.pointer (some p))) 20 73 false).run Tryz.prog W = .ok (.pointer (some p)) W := fun _ _ => by kernel_rfl
  have HNEW : Hid (L.map (sptr S) ++ [.pointer (some ⟨S x, 0, none⟩)] = (L ++ [x]).map (sptr S) ∧ L.length + 1 = (L ++ [x]).length) := ⟨by simp [sptr], by simp⟩
  clear h
  have HCK : Hid (∀ (o : Obj) (w2 : World), (w.alloc o).drew.grownBy w2 (Value.slice a L.length cap).ownBlock → w2.cell? ⟨q, 0, none⟩ = some (.slice a L.length cap) ∧ w2.frozen? ⟨q, 0, none⟩ = false) := by
    intro o w2 hg
    have hb : (w.alloc o).drew.heap[q]? = w.heap[q]? := Below.heap_alloc _ _ _ HLT.out
    have hl : q < (w.alloc o).drew.heap.size := Nat.lt_trans HLT.out (by simp)
    exact ⟨((hg.cell_far ⟨q, 0, none⟩ hl HNE.out).trans (World.cell?_of_block (w := w) (a := ⟨q, 0, none⟩) hb)).trans hq, ((hg.frozen_far ⟨q, 0, none⟩ hl HNE.out).trans (World.frozen?_of_block (w := w) (a := ⟨q, 0, none⟩) hb)).trans hqf⟩
  have HPOST : Hid (∀ (o : Obj) (w2 : World) (g2 cap2 : Nat), (w.alloc o).drew.grownBy w2 (Value.slice a L.length cap).ownBlock → w2.ownsRow 0 73 1 (.slice (some ⟨g2, 0, none⟩) (L.length + 1) cap2) (L.length + 1) (L.map (sptr S) ++ [.pointer (some ⟨S x, 0, none⟩)]) → ((Value.slice a L.length cap).ownBlock = some g2 ∨ g2 = (w.alloc o).drew.heap.size) →
      QAt (w2.setCell ⟨q, 0, none⟩ (.slice (some ⟨g2, 0, none⟩) (L.length + 1) cap2)) S q (.slice (some ⟨g2, 0, none⟩) (L.length + 1) cap2) (L ++ [x]) ∧ Only (q :: ownL (.slice a L.length cap)) w (w2.setCell ⟨q, 0, none⟩ (.slice (some ⟨g2, 0, none⟩) (L.length + 1) cap2)) ∧ ∀ k ∈ ownL (.slice (some ⟨g2, 0, none⟩) (L.length + 1) cap2), k ∈ ownL (.slice a L.length cap) ∨ w.heap.size ≤ k) := by
    intro o w2 g2 cap2 hg ho hat
    rw [HNEW.out.1, HNEW.out.2] at ho
    rw [HNEW.out.2]
    have hne2 : q ≠ g2 := by
      rintro rfl
      rcases hat with h1 | h1
      · exact HNE.out h1.symm
      · have h2 : (w.alloc o).drew.heap.size = w.heap.size + 1 := by simp
        have := HLT.out; omega
    have hb : (w.alloc o).drew.heap[q]? = w.heap[q]? := Below.heap_alloc _ _ _ HLT.out
    have hl : q < (w.alloc o).drew.heap.size := Nat.lt_trans HLT.out (by simp)
    have hq2 : w2.heap[q]? = some (.cells #[.slice a L.length cap] 113 (0, 0)) := ((hg.block q hl HNE.out).trans hb).trans HQ.out.cell
    refine ⟨⟨?_, ?_⟩, ?_, ?_⟩
    · rw [heap_setCell_same w2 q 0 _ _ _ hq2]; rfl
    · exact ownsRow_setCell_other ho (by simpa [Value.ownBlock] using fun e => hne2 e.symm) _
    · have h1 : Only (q :: ownL (.slice a L.length cap)) w (w.alloc o).drew := ((Only.refl _ w).alloc o).drew
      have h2 := h1.grown hg (fun k hk => .inl (List.mem_cons_of_mem _ (mem_ownL.2 hk)))
      exact h2.trans' ((Only.setCell w2 ⟨q, 0, none⟩ _).mono (fun k hk => by rw [List.mem_singleton.1 hk]; exact List.mem_cons_self ..))
    · intro k hk
      have hk2 : g2 = k := by simpa [Value.ownBlock] using mem_ownL.1 hk
      subst hk2
      rcases hat with h1 | h1
      · exact .inl (mem_ownL.2 h1)
      · right; rw [h1]; simp
  have hqa : ∀ o : Obj, (w.alloc o).cell? ⟨q, 0, none⟩ = some (.slice a L.length cap) := fun o => (World.cell?_of_block (w := w) (a := ⟨q, 0, none⟩) (Below.heap_alloc _ _ _ HLT.out)).trans hq
  have hm1 : L.length + 1 ≤ maxLen := by unfold maxLen; omega
  have hm2 : (L.length + 1) * 8 ≤ 140737488355328 := by omega
  generalize L.map (sptr S) = xs at *
  generalize L.length = n at *
  unfold sptr
  generalize S x = sx at *
  go_enter Tryz.func137, Tryz.ntmps137
  go_region_law (refine step_append_lies _ rfl (.tmp 7) (.tmp 10) 113 rfl 0 73 i0 _ 1 8 Tryz.underlying113 hi hz0 hz1 hz2 rfl (by decide) _ n xs (by simp [Act.eval]; rfl) (by exact HO.out _) _ 1 1 [.pointer (some ⟨sx, 0, none⟩)] (by simp [Act.eval]; rfl) rfl (World.news_of_block (by exact heap_alloc_new w _)) (by simp [Value.oneCell']) (by decide) hm1 hm2 (Nat.zero_le _) _ rfl ?_; intro g2 cap2 w2 o2 gr2 at2 lt2; have hck := HCK.out _ _ gr2; have hcq := hck.1; have hcf := hck.2; have HP2 := Lib.hid (HPOST.out _ _ _ _ gr2 o2 at2); clear gr2 o2 at2 hck)
  all_goals first
    | (go_end0; exact ⟨rfl, _, HP2.out⟩)
    | (go_wp2; go_end0; exact ⟨rfl, _, HP2.out⟩)
end Go.Proofs.YtaceogpdjbikiaaGreatDoor
