
/- Slices of bytes in memory: 'IsBytes w v zs': the slice value v reads in the world w as the numbers zs. Nothing of the program's text. -/
import Derived.Test.YtbaealdabplmdaaDoorChecked

import Derived.WalkKit

import Derived.WalkSmall

import Derived.Laws.CopyOwn

namespace Go.Proofs.YtbaealdabplmdaaDoor

open Go.RowKit

/-- From an address on lie the numbers zs, of one kind. -/
def Reads (k : IntKind) (w : World) (a : Option Addr) (zs : List Int) : Prop :=
  zs = [] ∨ ∃ b o, a = some ⟨b, o, none⟩ ∧ ∀ i, i < zs.length → w.cell? ⟨b, o + i, none⟩ = some (.int k (zs.getD i 0))
/-- A slice of integers of one kind. -/
def IsInts (k : IntKind) (w : World) (v : Value) (zs : List Int) : Prop :=
  ∃ a cap, v = .slice a zs.length cap ∧ zs.length ≤ cap ∧ cap ≤ maxLen ∧ Reads k w a zs ∧ ∀ z ∈ zs, (Lit.int k z).wf = true
def IsBytes (w : World) (v : Value) (zs : List Int) : Prop := IsInts .u8 w v zs

theorem byte_range {zs : List Int} (h : ∀ z ∈ zs, (Lit.int .u8 z).wf = true) : ∀ z ∈ zs, 0 ≤ z ∧ z ≤ 255 := by
  intro z hz
  have := h z hz
  simp [Lit.wf, IntKind.min, IntKind.max, IntKind.signed, IntKind.bits] at this
  omega
theorem wf_byte {z : Int} (h : 0 ≤ z ∧ z ≤ 255) : (Lit.int .u8 z).wf = true := WalkArith.wf_u8 h

theorem Reads.below {k : IntKind} {w w' : World} {a : Option Addr} {zs : List Int} (h : Reads k w a zs) (hb : Below w.heap.size w w') : Reads k w' a zs := by
  rcases h with h | ⟨b, o, rfl, hc⟩
  · exact .inl h
  · by_cases h0 : zs = []
    · exact .inl h0
    · refine .inr ⟨b, o, rfl, fun i hi => ?_⟩
      exact (hb.cell (p := ⟨b, o + i, none⟩) (World.block_lt_of_cell? w _ (hc i hi))).trans (hc i hi)
theorem IsInts.below {k : IntKind} {w w' : World} {v : Value} {zs : List Int} (h : IsInts k w v zs) (hb : Below w.heap.size w w') : IsInts k w' v zs := by
  obtain ⟨a, cap, h1, h2, h3, h4, h5⟩ := h
  exact ⟨a, cap, h1, h2, h3, h4.below hb, h5⟩
theorem IsInts.drewN {k : IntKind} {w : World} {v : Value} {zs : List Int} (h : IsInts k w v zs) (n : Nat) : IsInts k (w.drewN n) v zs := h
theorem below_drewN' {B : Nat} {a w : World} (h : Below B a w) (n : Nat) : Below B a (w.drewN n) := ⟨h.os, h.tape, h.output, h.size, h.block⟩

/-- What an owned row of integers reads as. -/
theorem IsInts.of_row {k : IntKind} {w : World} {base e : Nat} {g cap : Nat} {xs : List Int}
    (h : w.ownsRow base e 1 (.slice (some ⟨g, 0, none⟩) xs.length cap) xs.length (xs.map (Value.int k))) (hwf : ∀ z ∈ xs, (Lit.int k z).wf = true) :
    IsInts k w (.slice (some ⟨g, 0, none⟩) xs.length cap) xs := by
  have hcap : xs.length ≤ cap ∧ cap ≤ maxLen := by
    rcases h.2 with ⟨h', _⟩ | ⟨g', cap', cur, h', _, _, h1, h2, _⟩
    · simp at h'
    · simp only [Value.slice.injEq] at h'
      obtain ⟨_, _, rfl⟩ := h'
      exact ⟨h1, h2⟩
  refine ⟨_, cap, rfl, hcap.1, hcap.2, .inr ⟨g, 0, rfl, fun i hi => ?_⟩, hwf⟩
  rw [Nat.zero_add, h.cellAt i (by omega)]
  simp [hi]
/-- The row that a make of so many zeros leaves, whole. -/
theorem row_of_made {w : World} {base e : Nat} {g n : Nat} {z : Value} (h : w.ownsRow base e 1 (.slice (some ⟨g, 0, none⟩) n n) n (madeCells #[z] n).toList) :
    w.heap[g]? = some (.cells (List.replicate n z).toArray e (0, 0)) := by
  rcases h.2 with ⟨h', _⟩ | ⟨g', cap', cur, h', _, hg, h1, h2, h3, h4⟩
  · simp at h'
  · simp only [Value.slice.injEq, Option.some.injEq, Addr.mk.injEq, and_true, true_and] at h'
    obtain ⟨rfl, rfl⟩ := h'
    rw [hg]
    have e1 : cur.toList = List.replicate n z := by
      rw [← toList_madeCells_one, ← h4]
      exact (List.take_of_length_le (by simp [h3])).symm
    have e2 : cur = (List.replicate n z).toArray := by rw [← e1]
    rw [e2]
/-- A row that is known whole is owned. -/
theorem owns_of_row {w : World} {base e : Nat} {g : Nat} {k : IntKind} {xs : List Int} (h : w.heap[g]? = some (.cells (xs.map (Value.int k)).toArray e (0, 0))) (hb : base ≤ g) (hm : xs.length ≤ maxLen) :
    w.ownsRow base e 1 (.slice (some ⟨g, 0, none⟩) xs.length xs.length) xs.length (xs.map (Value.int k)) :=
  ⟨by simp, .inr ⟨g, xs.length, _, rfl, hb, h, Nat.le_refl _, hm, by simp, List.take_of_length_le (by simp)⟩⟩
theorem splice_all {α : Type} (L cs : List α) (h : cs.length = L.length) : splice L 0 cs = cs := by
  unfold splice
  rw [Nat.zero_add, List.drop_eq_nil_of_le (by omega)]; simp
/-- An owned row that is not nil, by its parts. -/
theorem own_parts {w : World} {base e : Nat} {v : Value} {n : Nat} {xs : List Value} (h : w.ownsRow base e 1 v n xs) (hv : v ≠ .slice none 0 0) :
    ∃ g cap, v = .slice (some ⟨g, 0, none⟩) n cap ∧ base ≤ g ∧ g < w.heap.size ∧ n ≤ cap ∧ cap ≤ maxLen := by
  rcases h.2 with ⟨h', _⟩ | ⟨g, cap, cur, h', hb, hg, h1, h2, _⟩
  · exact absurd h' hv
  · exact ⟨g, cap, h', hb, (Array.getElem?_eq_some_iff.1 hg).1, h1, h2⟩
theorem IsInts.nil (k : IntKind) (w : World) : IsInts k w (.slice none 0 0) [] :=
  ⟨none, 0, rfl, Nat.le_refl _, Nat.zero_le _, .inl rfl, fun z hz => by cases hz⟩
/-- What open_ints tells of a slice that came in. -/
theorem IsInts.of_open {k : IntKind} {w : World} {x : Addr} {len cap : Nat} {zs : List Int} (hl : len ≤ cap) (hm : cap ≤ maxLen) (hz : zs.length = cap)
    (hcell : ∀ i, i < zs.length → w.cell? (x.add i) = some (.int k (zs.getD i 0))) (hwz : ∀ n ∈ zs, (Lit.int k n).wf = true) : IsInts k w (.slice (some x) len cap) (zs.take len) := by
  have hlen : (zs.take len).length = len := by simp; omega
  refine ⟨some x, cap, by rw [hlen], by omega, hm, ?_, fun z h => hwz z (List.mem_of_mem_take h)⟩
  by_cases h0 : len = 0
  · exact .inl (by simp [h0])
  · obtain ⟨b, o, spot⟩ := x
    have hc := hcell 0 (by omega)
    have hspot : spot = none := by simpa [Addr.add] using World.cell?_spot hc
    subst hspot
    refine .inr ⟨b, o, rfl, fun i hi => ?_⟩
    have h := hcell i (by omega)
    rw [Addr.add_lit] at h
    rw [h]
    simp [show i < len by omega]
end Go.Proofs.YtbaealdabplmdaaDoor
