
/- Layer 3: the contract of nvm.Of. -/
import Derived.Test.YtmelmiookkeoaaaDoorNvDh

import Derived.StillTailTactics

namespace Go.Proofs.YtmelmiookkeoaaaDoor

open Go.RowKit

/-- A line of bytes that are handed in. -/
def lnOf (zs : List Int) (i : Nat) : V.Ln := { now := (zs.drop (64 * i)).take 64, over := [], mark := 0 }
def linesOf (zs : List Int) (n j : Nat) : List V.Ln := (List.range n).map fun i => if i < j then lnOf zs i else V.zeroLn
def dvOf (zs : List Int) : V.Dv := { lines := linesOf zs (zs.length / 64) (zs.length / 64), left := -1, steps := 0 }
theorem linesOf_length (zs : List Int) (n j : Nat) : (linesOf zs n j).length = n := by simp [linesOf]
theorem linesOf_zero (zs : List Int) (n : Nat) : linesOf zs n 0 = List.replicate n V.zeroLn := by
  apply List.ext_getElem?
  intro i
  unfold linesOf
  rw [List.getElem?_map, List.getElem?_replicate]
  by_cases hi : i < n
  · rw [List.getElem?_range hi, if_pos hi]; simp
  · rw [List.getElem?_eq_none (by simp; omega), if_neg hi]; rfl
theorem linesOf_get (zs : List Int) (n j i : Nat) (hi : i < n) : (linesOf zs n j)[i]? = some (if i < j then lnOf zs i else V.zeroLn) := by
  unfold linesOf
  rw [List.getElem?_map, List.getElem?_range hi]; rfl
theorem linesOf_succ (zs : List Int) (n j : Nat) : linesOf zs n (j + 1) = (linesOf zs n j).set j (lnOf zs j) := by
  apply List.ext_getElem?
  intro i
  by_cases hi : i < n
  · rw [linesOf_get _ _ _ _ hi]
    by_cases e : j = i
    · subst e
      rw [List.getElem?_set_self (by rw [linesOf_length]; exact hi), if_pos (Nat.lt_succ_self j)]
    · rw [List.getElem?_set_ne e, linesOf_get _ _ _ _ hi]
      by_cases h : i < j
      · rw [if_pos h, if_pos (by omega)]
      · rw [if_neg h, if_neg (by omega)]
  · rw [List.getElem?_eq_none (by rw [linesOf_length]; omega), List.getElem?_eq_none (by rw [List.length_set, linesOf_length]; omega)]
theorem lnOf_good {zs : List Int} (hz : ∀ z ∈ zs, 0 ≤ z ∧ z ≤ 255) {i : Nat} (hi : 64 * i + 64 ≤ zs.length) : (lnOf zs i).Good :=
  ⟨by simp [lnOf]; omega, fun z h => hz z (List.mem_of_mem_drop (List.mem_of_mem_take h)), fun c h => by simp [lnOf] at h, Nat.zero_le _⟩
theorem linesOf_good {zs : List Int} (hz : ∀ z ∈ zs, 0 ≤ z ∧ z ≤ 255) {n j : Nat} (hn : 64 * n ≤ zs.length) : ∀ l ∈ linesOf zs n j, l.Good := by
  intro l hl
  obtain ⟨i, hi, rfl⟩ := List.mem_map.1 hl
  have := List.mem_range.1 hi
  split
  · exact lnOf_good hz (by omega)
  · exact V.zeroLn_good
def dvTo (zs : List Int) (n j : Nat) : V.Dv := { lines := linesOf zs n j, left := -1, steps := 0 }
theorem dvTo_good {zs : List Int} (hz : ∀ z ∈ zs, 0 ≤ z ∧ z ≤ 255) {n j : Nat} (hn : 64 * n ≤ zs.length) (h1 : 1 ≤ n) (h2 : n ≤ 1024) : (dvTo zs n j).Good :=
  ⟨linesOf_good hz hn, by simp [dvTo, linesOf_length]; exact h1, by simp [dvTo, linesOf_length]; exact h2, by simp [dvTo], fun l hl => by
    obtain ⟨i, hi, rfl⟩ := List.mem_map.1 hl
    split <;> simp [lnOf, V.zeroLn]⟩
theorem dvTo_new (zs : List Int) (n : Nat) : dvTo zs n 0 = V.newDv n := by
  unfold dvTo V.newDv; rw [linesOf_zero]
/-- Bytes of a slice, a line of them. -/
theorem bytes_line {w : World} {PA : Option Addr} {pn pc : Nat} {zs : List Int} (hp : IsBytes w (.slice PA pn pc) zs) (i : Nat) (hi : 64 * i + 64 ≤ pn) :
    ∃ b o, PA = some ⟨b, o, none⟩ ∧ IsBytes w (.slice (some ⟨b, o + 64 * i, none⟩) 64 (pc - 64 * i)) (lnOf zs i).now := by
  obtain ⟨a, c, e, h1, h2, h3, h4⟩ := hp
  simp only [Value.slice.injEq] at e
  obtain ⟨rfl, rfl, rfl⟩ := e
  rcases h3 with h3 | ⟨b, o, rfl, hc⟩
  · rw [h3] at hi; simp at hi
  · have hl : (lnOf zs i).now.length = 64 := by simp [lnOf]; omega
    refine ⟨b, o, rfl, some ⟨b, o + 64 * i, none⟩, pc - 64 * i, by rw [hl], by rw [hl]; omega, by omega, .inr ⟨b, o + 64 * i, rfl, fun k hk => ?_⟩, fun z hz => h4 z (List.mem_of_mem_drop (List.mem_of_mem_take hz))⟩
    rw [hl] at hk
    rw [Nat.add_assoc, hc (64 * i + k) (by omega)]
    congr 2
    simp only [lnOf, List.getD_eq_getElem?_getD]
    rw [List.getElem?_take_of_lt hk, List.getElem?_drop]
end Go.Proofs.YtmelmiookkeoaaaDoor
