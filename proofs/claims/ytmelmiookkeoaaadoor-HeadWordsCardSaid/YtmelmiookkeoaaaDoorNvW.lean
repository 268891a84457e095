
/- How a device lies in memory: lines one behind the other in one block, what stores wrote over in blocks of their own. Nothing of the program's text but the types' numbers. -/
import Derived.Test.YtmelmiookkeoaaaDoorGp

import Derived.Test.YtmelmiookkeoaaaDoorNvM

import Derived.Deep.MidRow

import Derived.Maps.AppendAt

namespace Go.Proofs.YtmelmiookkeoaaaDoor

open Go.RowKit

/-- Blocks that are not among F are as they were. -/
structure Only (F : List Nat) (w w' : World) : Prop where
  os : w'.os = w.os
  tape : w'.tape = w.tape
  output : w'.output = w.output
  size : w.heap.size ≤ w'.heap.size
  block : ∀ k, k < w.heap.size → k ∉ F → w'.heap[k]? = w.heap[k]?
theorem Only.refl (F : List Nat) (w : World) : Only F w w := ⟨rfl, rfl, rfl, Nat.le_refl _, fun _ _ _ => rfl⟩
theorem Only.trans {F G : List Nat} {a b c : World} (h : Only F a b) (k : Only G b c) (hG : ∀ x ∈ G, x ∈ F ∨ a.heap.size ≤ x) : Only F a c :=
  ⟨k.os.trans h.os, k.tape.trans h.tape, k.output.trans h.output, Nat.le_trans h.size k.size, fun i hi hn =>
    (k.block i (Nat.lt_of_lt_of_le hi h.size) (fun hg => by rcases hG i hg with h1 | h1; exact hn h1; omega)).trans (h.block i hi hn)⟩
theorem Only.trans' {F : List Nat} {a b c : World} (h : Only F a b) (k : Only F b c) : Only F a c := h.trans k (fun _ hx => .inl hx)
theorem Only.mono {F G : List Nat} {a b : World} (h : Only F a b) (hFG : ∀ x ∈ F, x ∈ G) : Only G a b := ⟨h.os, h.tape, h.output, h.size, fun k hk hn => h.block k hk (fun hf => hn (hFG k hf))⟩
theorem Only.drew {F : List Nat} {a w : World} (h : Only F a w) : Only F a w.drew := ⟨h.os, h.tape, h.output, h.size, h.block⟩
theorem Only.drewN {F : List Nat} {a w : World} (h : Only F a w) (n : Nat) : Only F a (w.drewN n) := ⟨h.os, h.tape, h.output, h.size, h.block⟩
theorem Only.of_below {F : List Nat} {a w : World} (h : Below a.heap.size a w) : Only F a w := ⟨h.os, h.tape, h.output, h.size, fun k hk _ => h.block k hk⟩
theorem Only.below {F : List Nat} {a w : World} {B : Nat} (h : Only F a w) (hB : B ≤ a.heap.size) (hF : ∀ x ∈ F, B ≤ x) : Below B a w := ⟨h.os, h.tape, h.output, h.size, fun k hk => h.block k (by omega) (fun hf => by have := hF k hf; omega)⟩
theorem Only.setCell (w : World) (p : Addr) (u : Value) : Only [p.block] w (w.setCell p u) :=
  ⟨rfl, rfl, rfl, by simp [World.setCell], fun k _ hn => Below.heap_setCell _ _ _ _ (fun e => hn (by simp [e]))⟩
theorem Only.setRow (w : World) (g : Nat) (cs : Array Value) : Only [g] w (w.setRow g cs) :=
  ⟨rfl, rfl, rfl, by simp [World.setRow], fun k _ hn => setRow_other _ _ _ _ (fun e => hn (by simp [e]))⟩
theorem Only.alloc {F : List Nat} {a w : World} (h : Only F a w) (o : Obj) : Only F a (w.alloc o) :=
  ⟨h.os, h.tape, h.output, Nat.le_trans h.size (by simp), fun k hk hn => (Below.heap_alloc _ _ _ (Nat.lt_of_lt_of_le hk h.size)).trans (h.block k hk hn)⟩
theorem Only.grown {F : List Nat} {a w w' : World} {row : Option Nat} (h : Only F a w) (hg : w.grownBy w' row) (hr : ∀ k, row = some k → k ∈ F ∨ a.heap.size ≤ k) : Only F a w' :=
  ⟨hg.os.trans h.os, hg.tape.trans h.tape, hg.output.trans h.output, Nat.le_trans h.size hg.size, fun k hk hn =>
    (hg.block k (Nat.lt_of_lt_of_le hk h.size) (fun e => by rcases hr k e.symm with h1 | h1; exact hn h1; omega)).trans (h.block k hk hn)⟩

/-! ### Segments of a block -/
theorem seg_get {pre mid post : List Value} (j : Nat) (hj : j < mid.length) : (pre ++ mid ++ post)[pre.length + j]? = mid[j]? := by
  rw [List.append_assoc, List.getElem?_append_right (by omega), List.getElem?_append_left (by omega)]
  congr 1
  omega
theorem seg_cell {w : World} {L : Nat} {pre mid post : List Value} {t : TypeId} (h : w.heap[L]? = some (.cells (pre ++ mid ++ post).toArray t (0, 0))) (j : Nat) (hj : j < mid.length) :
    w.cell? ⟨L, pre.length + j, none⟩ = mid[j]? := by
  rw [cell_of_row w L _ _ t (0, 0) h, List.getElem?_toArray]
  exact seg_get j hj
theorem seg_free {w : World} {L : Nat} {cs : Array Value} {t : TypeId} (h : w.heap[L]? = some (.cells cs t (0, 0))) (j : Nat) : w.frozen? ⟨L, j, none⟩ = false := frozen_of_row w L j cs t h
theorem seg_set {pre mid post : List Value} (j : Nat) (hj : j < mid.length) (u : Value) : (pre ++ mid ++ post).toArray.setIfInBounds (pre.length + j) u = (pre ++ mid.set j u ++ post).toArray := by
  apply Array.ext'
  rw [Array.toList_setIfInBounds]
  simp only [List.append_assoc]
  rw [List.set_append_right _ _ (by omega), Nat.add_sub_cancel_left, List.set_append_left _ _ (by omega)]
theorem seg_stored {w : World} {L : Nat} {pre mid post : List Value} {t : TypeId} (h : w.heap[L]? = some (.cells (pre ++ mid ++ post).toArray t (0, 0))) (j : Nat) (hj : j < mid.length) (u : Value) :
    (w.setCell ⟨L, pre.length + j, none⟩ u).heap[L]? = some (.cells (pre ++ mid.set j u ++ post).toArray t (0, 0)) := by
  rw [heap_setCell_same w L _ _ t u h, seg_set j hj u]
/-- Many cells stored, at once. -/
theorem setCells_row {L : Nat} {t : TypeId} : ∀ (vs : List Value) (o : Nat) (cur : List Value) (w : World), w.heap[L]? = some (.cells cur.toArray t (0, 0)) → o + vs.length ≤ cur.length →
    (w.setCells L o vs).heap[L]? = some (.cells (cur.take o ++ vs ++ cur.drop (o + vs.length)).toArray t (0, 0)) ∧ Only [L] w (w.setCells L o vs)
  | [], o, cur, w, h, _ => ⟨by simpa [World.setCells] using h, Only.refl _ _⟩
  | v :: vs, o, cur, w, h, hl => by
    have h1 : (w.setCell ⟨L, o, none⟩ v).heap[L]? = some (.cells (cur.set o v).toArray t (0, 0)) := by
      rw [heap_setCell_same w L o _ t v h]; simp
    obtain ⟨h2, h3⟩ := setCells_row vs (o + 1) (cur.set o v) _ h1 (by simp at hl ⊢; omega)
    refine ⟨?_, (Only.setCell w ⟨L, o, none⟩ v).trans' h3⟩
    rw [World.setCells, h2]
    congr 2
    apply Array.ext'
    have e := list_seg_step cur o v vs (by simp at hl; omega)
    simpa [Nat.add_assoc] using e
theorem seg_put {w : World} {L : Nat} {pre mid post : List Value} {t : TypeId} (h : w.heap[L]? = some (.cells (pre ++ mid ++ post).toArray t (0, 0))) (vs : List Value) (hl : vs.length ≤ mid.length) :
    (w.setCells L pre.length vs).heap[L]? = some (.cells (pre ++ (vs ++ mid.drop vs.length) ++ post).toArray t (0, 0)) ∧ Only [L] w (w.setCells L pre.length vs) := by
  obtain ⟨h1, h2⟩ := setCells_row vs pre.length (pre ++ mid ++ post) w h (by simp; omega)
  refine ⟨?_, h2⟩
  rw [h1]
  congr 2
  apply Array.ext'
  simp only [List.append_assoc]
  rw [List.take_left, List.drop_append, List.drop_of_length_le (by omega), List.nil_append, Nat.add_sub_cancel_left, List.drop_append_of_le_length (by omega)]

/-! ### A line -/
def lineCells (l : V.Ln) (v : Value) : List Value := l.now.map (Value.int .u8) ++ [v, .int .i64 (l.mark : Int)]
def chCells (c : Nat × Nat) : List Value := [.int .i64 (c.1 : Int), .int .u64 (c.2 : Int)]
def overCells (o : List (Nat × Nat)) : List Value := o.flatMap chCells
theorem overCells_length (o : List (Nat × Nat)) : (overCells o).length = o.length * 2 := by
  induction o with
  | nil => rfl
  | cons c o ih =>
    rw [overCells, List.flatMap_cons, List.length_append, ← overCells, ih]
    simp [chCells]; omega
theorem overCells_append (a b : List (Nat × Nat)) : overCells (a ++ b) = overCells a ++ overCells b := by simp [overCells]
theorem overCells_drop (o : List (Nat × Nat)) (k : Nat) : overCells (o.drop k) = (overCells o).drop (k * 2) := by
  induction o generalizing k with
  | nil => simp [overCells]
  | cons c o ih =>
    cases k with
    | zero => simp
    | succ k =>
      rw [List.drop_succ_cons, ih, show (k + 1) * 2 = k * 2 + 2 by omega]
      simp [overCells, chCells]
theorem overCells_get (o : List (Nat × Nat)) (k : Nat) (c : Nat × Nat) (h : o[k]? = some c) : (overCells o)[k * 2]? = some (.int .i64 (c.1 : Int)) ∧ (overCells o)[k * 2 + 1]? = some (.int .u64 (c.2 : Int)) := by
  have hk := (List.getElem?_eq_some_iff.1 h).1
  have e : o.drop k = c :: o.drop (k + 1) := by
    rw [List.drop_eq_getElem_cons hk, (List.getElem?_eq_some_iff.1 h).2]
  have e2 := overCells_drop o k
  rw [e] at e2
  have h0 : ∀ j, ((overCells o).drop (k * 2))[j]? = (overCells o)[k * 2 + j]? := fun j => by rw [List.getElem?_drop]
  rw [← e2] at h0
  exact ⟨(h0 0).symm.trans (by simp [overCells, chCells]), (h0 1).symm.trans (by simp [overCells, chCells])⟩
theorem overCells_one (o : List (Nat × Nat)) : ∀ v ∈ overCells o, v.oneCell' = true := by
  intro v hv
  obtain ⟨c, _, hc⟩ := List.mem_flatMap.1 hv
  simp [chCells] at hc
  rcases hc with rfl | rfl <;> rfl

theorem lineCells_length {l : V.Ln} (h : l.now.length = 64) (v : Value) : (lineCells l v).length = 66 := by simp [lineCells, h]
theorem lineCells_byte {l : V.Ln} (h : l.now.length = 64) (v : Value) (j : Nat) (hj : j < 64) : (lineCells l v)[j]? = some (.int .u8 (l.now.getD j 0)) := by
  rw [lineCells, List.getElem?_append_left (by simp; omega), List.getElem?_map, List.getD_eq_getElem?_getD, List.getElem?_eq_getElem (by omega)]
  rfl
theorem lineCells_over {l : V.Ln} (h : l.now.length = 64) (v : Value) : (lineCells l v)[64]? = some v := by
  rw [lineCells, List.getElem?_append_right (by simp; omega)]; simp [h]
theorem lineCells_mark {l : V.Ln} (h : l.now.length = 64) (v : Value) : (lineCells l v)[65]? = some (.int .i64 (l.mark : Int)) := by
  rw [lineCells, List.getElem?_append_right (by simp; omega)]; simp [h]
theorem lineCells_setOver {l : V.Ln} (h : l.now.length = 64) (v u : Value) : (lineCells l v).set 64 u = lineCells l u := by
  rw [lineCells, List.set_append_right _ _ (by simp; omega)]; simp [h, lineCells]
theorem lineCells_setMark {l : V.Ln} (h : l.now.length = 64) (v : Value) (o : List (Nat × Nat)) (m : Nat) : (lineCells l v).set 65 (.int .i64 (m : Int)) = lineCells { now := l.now, over := o, mark := m } v := by
  rw [lineCells, List.set_append_right _ _ (by simp; omega)]; simp [h, lineCells]

/-- A line lies in block L, behind the cells pre and ahead of the cells post; its slice of what was written over is v. -/
structure LineAt (w : World) (L : Nat) (pre post : List Value) (l : V.Ln) (v : Value) : Prop where
  row : w.heap[L]? = some (.cells (pre ++ lineCells l v ++ post).toArray 77 (0, 0))
  good : l.Good
  own : w.ownsRow 0 85 2 v l.over.length (overCells l.over)
  apart : v.ownBlock ≠ some L
section

variable {w : World} {L : Nat} {pre post : List Value} {l : V.Ln} {v : Value}

theorem LineAt.lt (h : LineAt w L pre post l v) : L < w.heap.size := (Array.getElem?_eq_some_iff.1 h.row).1
theorem LineAt.len (h : LineAt w L pre post l v) : (lineCells l v).length = 66 := lineCells_length h.good.len v
theorem LineAt.bytes (h : LineAt w L pre post l v) : IsBytes w (.slice (some ⟨L, pre.length, none⟩) 64 64) l.now := by
  have hb := h.good.byte
  refine ⟨some ⟨L, pre.length, none⟩, 64, by rw [h.good.len], by rw [h.good.len]; omega, by decide, .inr ⟨L, pre.length, rfl, fun i hi => ?_⟩, fun z hz => wf_byte (hb z hz)⟩
  rw [h.good.len] at hi
  rw [seg_cell h.row i (by rw [h.len]; omega)]
  exact lineCells_byte h.good.len v i hi
theorem LineAt.over (h : LineAt w L pre post l v) : w.cell? ⟨L, pre.length + 64, none⟩ = some v := by
  rw [seg_cell h.row 64 (by rw [h.len]; omega)]; exact lineCells_over h.good.len v
theorem LineAt.mark (h : LineAt w L pre post l v) : w.cell? ⟨L, pre.length + 65, none⟩ = some (.int .i64 (l.mark : Int)) := by
  rw [seg_cell h.row 65 (by rw [h.len]; omega)]; exact lineCells_mark h.good.len v
theorem LineAt.free (h : LineAt w L pre post l v) (j : Nat) : w.frozen? ⟨L, j, none⟩ = false := seg_free h.row j
/-- What touches neither the line's block nor that of its slice keeps it. -/
theorem LineAt.only {w' : World} {F : List Nat} (h : LineAt w L pre post l v) (ho : Only F w w') (hL : L ∉ F) (hv : ∀ g, v.ownBlock = some g → g ∉ F) : LineAt w' L pre post l v := by
  refine ⟨(ho.block L h.lt hL).trans h.row, h.good, ⟨h.own.1, ?_⟩, h.apart⟩
  rcases h.own.2 with e | ⟨g, cap, cur, rfl, hb, hg, rest⟩
  · exact .inl e
  · exact .inr ⟨g, cap, cur, rfl, hb, (ho.block g (Array.getElem?_eq_some_iff.1 hg).1 (hv g rfl)).trans hg, rest⟩
theorem LineAt.drewN (h : LineAt w L pre post l v) (n : Nat) : LineAt (w.drewN n) L pre post l v := ⟨h.row, h.good, h.own, h.apart⟩
end

theorem owns_only {w w' : World} {base e size n : Nat} {v : Value} {xs : List Value} {F : List Nat} (h : w.ownsRow base e size v n xs) (ho : Only F w w') (hv : ∀ g, v.ownBlock = some g → g ∉ F) : w'.ownsRow base e size v n xs := by
  refine ⟨h.1, ?_⟩
  rcases h.2 with h2 | ⟨g, cap, cur, rfl, hb, hg, rest⟩
  · exact .inl h2
  · exact .inr ⟨g, cap, cur, rfl, hb, (ho.block g (Array.getElem?_eq_some_iff.1 hg).1 (hv g rfl)).trans hg, rest⟩
end Go.Proofs.YtmelmiookkeoaaaDoor
