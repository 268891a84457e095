
/- Bytes as strings. Nothing of the program's text. -/
import Derived.Test.YtmelmiookkeoaaaDoorNvDh

import Derived.Laws.BytesArg

import Derived.BigQuiet

namespace Go.Proofs.YtmelmiookkeoaaaDoor

open Go.RowKit

theorem str_inj {xs ys : List Int} (hx : ∀ z ∈ xs, 0 ≤ z ∧ z ≤ 255) (hy : ∀ z ∈ ys, 0 ≤ z ∧ z ≤ 255) (h : (strOfNums xs).toList = (strOfNums ys).toList) : xs = ys := by
  have h1 : (strOfNums xs).data.toList = (strOfNums ys).data.toList := by rw [← ByteArray.toList_eq, ← ByteArray.toList_eq, h]
  rw [strOfNums_data, strOfNums_data] at h1
  clear h
  induction xs generalizing ys with
  | nil =>
    cases ys with
    | nil => rfl
    | cons y ys => simp at h1
  | cons x xs ih =>
    cases ys with
    | nil => simp at h1
    | cons y ys =>
      simp only [List.map_cons, List.cons.injEq] at h1
      obtain ⟨e1, e2⟩ := h1
      have a1 := hx x (by simp)
      have a2 := hy y (by simp)
      have e3 : (UInt8.ofNat x.toNat).toNat = (UInt8.ofNat y.toNat).toNat := by rw [e1]
      simp only [UInt8.toNat_ofNat'] at e3
      rw [ih (fun z hz => hx z (List.mem_cons_of_mem _ hz)) (fun z hz => hy z (List.mem_cons_of_mem _ hz)) e2, show x = y by omega]
theorem bytes_cell' {w : World} {b o : Nat} {len cap : Nat} {zs : List Int} (h : IsBytes w (.slice (some ⟨b, o, none⟩) len cap) zs) (i : Nat) (hi : i < len) : w.cell? ⟨b, o + i, none⟩ = some (.int .u8 (zs.getD i 0)) := by
  obtain ⟨a', cap', e, h1, h2, h3, h4⟩ := h
  simp only [Value.slice.injEq] at e
  obtain ⟨rfl, rfl, rfl⟩ := e
  rcases h3 with rfl | ⟨b', o', e, hc⟩
  · simp at hi
  · simp only [Option.some.injEq, Addr.mk.injEq, and_true] at e
    obtain ⟨rfl, rfl⟩ := e
    exact hc i hi
/-- Bytes as a string, whole. -/
theorem conv_all {w : World} {g n c : Nat} {zs : List Int} (h : IsBytes w (.slice (some ⟨g, 0, none⟩) n c) zs) :
    ∀ dst, Tryd.prog.underlying dst = some .string → (convert 37 dst (.slice (some ⟨g, 0, none⟩) n c)).run Tryd.prog w = .ok (.string (strOfNums zs)) w := by
  have hl := h.len'.1
  refine run_convert_bytes_arg (P := Tryd.prog) w 37 5 Tryd.underlying37 Tryd.underlying5 g 0 n c zs hl (fun i hi => ?_)
  exact bytes_cell' h i hi

end Go.Proofs.YtmelmiookkeoaaaDoor
