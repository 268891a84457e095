
/- The statements' own 'alive' answers true, where the table of four bits holds its numbers; what was there stays. And the copies that the statements make. -/
import Derived.Test.YtmelmiookkeoaaaDoorCrcA

import Derived.Lib.SlBytesConst

import Derived.Handy

namespace Go.Proofs.YtmelmiookkeoaaaDoor

open Go.RowKit

def Nine : List Int := [49, 50, 51, 52, 53, 54, 55, 56, 57]
theorem nine_sum : C.nxt 0 Nine = 3808858755 := by decide +kernel
/-- A block that is known whole reads as its numbers. -/
theorem isBytes_block {w : World} {g : Nat} {zs : List Int} {t : TypeId} {fr : Nat × Nat} (h : w.heap[g]? = some (.cells (zs.map (Value.int .u8)).toArray t fr)) (hz : ∀ z ∈ zs, 0 ≤ z ∧ z ≤ 255) (hm : zs.length ≤ maxLen) :
    IsBytes w (.slice (some ⟨g, 0, none⟩) zs.length zs.length) zs := by
  refine ⟨_, _, rfl, Nat.le_refl _, hm, .inr ⟨g, 0, rfl, fun i hi => ?_⟩, fun z h => wf_byte (hz z h)⟩
  simp [World.cell?, h, hi]
theorem isBytes_new (w : World) (zs : List Int) (t : TypeId) (fr : Nat × Nat) (hz : ∀ z ∈ zs, 0 ≤ z ∧ z ≤ 255) (hm : zs.length ≤ maxLen) :
    IsBytes (w.alloc (.cells (zs.map (Value.int .u8)).toArray t fr)) (.slice (some ⟨w.heap.size, 0, none⟩) zs.length zs.length) zs :=
  isBytes_block (heap_alloc_new w _) hz hm
theorem isBytes_none (w : World) : IsBytes w (.slice none 0 0) [] := IsInts.nil _ _
theorem IsInts.take {k : IntKind} {w : World} {a : Option Addr} {len cap : Nat} {zs : List Int} (h : IsInts k w (.slice a len cap) zs) (n : Nat) (hn : n ≤ len) : IsInts k w (.slice a n cap) (zs.take n) := by
  obtain ⟨a', cap', e, h1, h2, h3, h4⟩ := h
  simp only [Value.slice.injEq] at e
  obtain ⟨rfl, rfl, rfl⟩ := e
  have hl : (zs.take n).length = n := by simp; omega
  refine ⟨a, cap, by rw [hl], by omega, h2, ?_, fun z hz => h4 z (List.mem_of_mem_take hz)⟩
  rcases h3 with rfl | ⟨b, o, rfl, hc⟩
  · exact .inl (by simp)
  · refine .inr ⟨b, o, rfl, fun i hi => ?_⟩
    rw [hc i (by omega)]
    simp [show i < n by omega]
theorem IsInts.range {w : World} {v : Value} {zs : List Int} (h : IsInts .u8 w v zs) : ∀ z ∈ zs, 0 ≤ z ∧ z ≤ 255 := by
  obtain ⟨_, _, _, _, _, _, h4⟩ := h
  exact byte_range h4
theorem range_take {zs : List Int} (h : ∀ z ∈ zs, 0 ≤ z ∧ z ≤ 255) (n : Nat) : ∀ z ∈ zs.take n, 0 ≤ z ∧ z ≤ 255 := fun z hz => h z (List.mem_of_mem_take hz)
/-- One cell of a slice that reads as numbers. -/
theorem IsInts.cells {k : IntKind} {w : World} {a : Option Addr} {len cap : Nat} {zs : List Int} (h : IsInts k w (.slice a len cap) zs) (h0 : 0 < len) :
    ∃ b o, a = some ⟨b, o, none⟩ := by
  obtain ⟨a', cap', e, h1, h2, h3, h4⟩ := h
  simp only [Value.slice.injEq] at e
  obtain ⟨rfl, rfl, rfl⟩ := e
  rcases h3 with rfl | ⟨b, o, rfl, hc⟩
  · simp at h0
  · exact ⟨b, o, rfl⟩
theorem IsInts.cell {k : IntKind} {w : World} {b o : Nat} {len cap : Nat} {zs : List Int} (h : IsInts k w (.slice (some ⟨b, o, none⟩) len cap) zs) (i : Nat) (hi : i < len) :
    w.cell? ⟨b, o + i, none⟩ = some (.int k (zs.getD i 0)) := by
  obtain ⟨a', cap', e, h1, h2, h3, h4⟩ := h
  simp only [Value.slice.injEq] at e
  obtain ⟨rfl, rfl, rfl⟩ := e
  rcases h3 with rfl | ⟨b', o', e, hc⟩
  · simp at hi
  · simp only [Option.some.injEq, Addr.mk.injEq, and_true] at e
    obtain ⟨rfl, rfl⟩ := e
    exact hc i hi
theorem IsInts.len {k : IntKind} {w : World} {a : Option Addr} {len cap : Nat} {zs : List Int} (h : IsInts k w (.slice a len cap) zs) : zs.length = len ∧ len ≤ cap ∧ cap ≤ maxLen := by
  obtain ⟨a', cap', e, h1, h2, h3, h4⟩ := h
  simp only [Value.slice.injEq] at e
  obtain ⟨rfl, rfl, rfl⟩ := e
  exact ⟨rfl, h1, h2⟩
theorem nxt_beq (x y : Nat) (c d : Int) (h : x = y ↔ c = d) : (((x : Int) == (y : Int)) == (c == d)) = true := by
  by_cases e : c = d
  · have := h.2 e
    subst e; subst this; simp
  · have : ¬ x = y := fun e' => e (h.1 e')
    have h1 : (c == d) = false := by simpa using e
    have h2 : ((x : Int) == (y : Int)) = false := by simp; omega
    rw [h1, h2]; rfl
theorem zeros_range (n : Nat) : ∀ z ∈ List.replicate n (0 : Int), 0 ≤ z ∧ z ≤ 255 := by
  intro z hz
  obtain ⟨_, rfl⟩ := List.mem_replicate.1 hz
  decide
/-- What make leaves. -/
theorem isBytes_made {w : World} {base e g n : Nat} (h : w.ownsRow base e 1 (.slice (some ⟨g, 0, none⟩) n n) n (madeCells #[.int .u8 0] n).toList) : IsBytes w (.slice (some ⟨g, 0, none⟩) n n) (List.replicate n 0) := by
  rw [toList_madeCells_one] at h
  have h2 := IsInts.of_row (k := .u8) (xs := List.replicate n 0) (cap := n) (base := base) (e := e) (g := g) (w := w) (by simpa using h) (fun z hz => wf_byte (zeros_range n z hz))
  rw [List.length_replicate] at h2
  exact h2

end Go.Proofs.YtmelmiookkeoaaaDoor
