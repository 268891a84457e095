
/- Plain mathematics of layer 5: shapes, their words, the bytes of words. Nothing of the program. -/
import Derived.Test.YtmelmiookkeoaaaDoorSuI

import Derived.Test.YtmelmiookkeoaaaDoorCrcM

namespace Go.Proofs.YtmelmiookkeoaaaDoor.V

open Go.Proofs.YtmelmiookkeoaaaDoor

/-- The greatest number of slabs for so many lines. -/
def slabs (n : Nat) : Nat := 8 * ((n - 2) / 129) + ((n - 2) % 129 - 1) / 16
def need (s : Nat) : Nat := 2 + (s + 7) / 8 + 16 * s
def dataAt (n : Nat) : Nat := 64 * (2 + (slabs n + 7) / 8)
theorem slabs_eq {n s : Nat} (h0 : s = 0 ∨ need s ≤ n) (h1 : n < need (s + 1)) : s = slabs n := by
  unfold need at h0 h1; unfold slabs; omega
theorem need_slabs {n : Nat} (h : 2 ≤ n) : need (slabs n) ≤ n := by
  unfold need slabs; omega
theorem need_more (n : Nat) : n < need (slabs n + 1) := by
  unfold need slabs; omega
theorem slabs_few {n : Nat} (h : n < 19) : slabs n = 0 := by unfold slabs; omega
theorem slabs_some {n : Nat} (h : 19 ≤ n) : 1 ≤ slabs n := by unfold slabs; omega
theorem slabs_most {n : Nat} (h : n ≤ 1024) : slabs n ≤ 63 := by unfold slabs; omega
theorem need_mono {s t : Nat} (h : s < t) : need s < need t := by unfold need; omega

structure Sh where
  lines : Int
  slabs : Int
  table : Int
  data : Int
def Sh.zero : Sh := ⟨0, 0, 0, 0⟩
theorem Sh.ext' {s t : Sh} (h1 : s.lines = t.lines) (h2 : s.slabs = t.slabs) (h3 : s.table = t.table) (h4 : s.data = t.data) : s = t := by
  cases s; cases t; simp_all
instance : DecidableEq Sh := fun s t =>
  if h : s.lines = t.lines ∧ s.slabs = t.slabs ∧ s.table = t.table ∧ s.data = t.data then .isTrue (Sh.ext' h.1 h.2.1 h.2.2.1 h.2.2.2) else .isFalse (fun e => h (by subst e; exact ⟨rfl, rfl, rfl, rfl⟩))
/-- Is there a shape of so many lines, and which? -/
def isSh (x : Int) : Bool := decide (19 ≤ x ∧ x ≤ 1024)
def Sh.at (n : Nat) : Sh := ⟨(n : Int), (V.slabs n : Int), 128, (dataAt n : Int)⟩
def Sh.of (x : Int) : Sh := if 19 ≤ x ∧ x ≤ 1024 then Sh.at x.toNat else Sh.zero
theorem Sh.of_nat {n : Nat} (h : 19 ≤ n ∧ n ≤ 1024) : Sh.of (n : Int) = Sh.at n := by
  unfold Sh.of; rw [if_pos (by omega), Int.toNat_natCast]
theorem isSh_nat {n : Nat} (h : 19 ≤ n ∧ n ≤ 1024) : isSh (n : Int) = true := decide_eq_true (by omega)
theorem Sh.of_no {x : Int} (h : ¬ (19 ≤ x ∧ x ≤ 1024)) : Sh.of x = Sh.zero := if_neg h
theorem isSh_no {x : Int} (h : ¬ (19 ≤ x ∧ x ≤ 1024)) : isSh x = false := decide_eq_false h

/-! ### Bytes of words -/
def digits (x : Nat) : List Int := (List.range 8).map fun k => ((x / 256 ^ k % 256 : Nat) : Int)
def bts (l : List Nat) : List Int := l.flatMap digits
theorem digits_length (x : Nat) : (digits x).length = 8 := by simp [digits]
theorem digits_getD (x k : Nat) (h : k < 8) : (digits x).getD k 0 = ((x / 256 ^ k % 256 : Nat) : Int) := by
  unfold digits
  rw [List.getD_eq_getElem?_getD, List.getElem?_map, List.getElem?_range h]; rfl
theorem bts_cons (x : Nat) (l : List Nat) : bts (x :: l) = digits x ++ bts l := rfl
theorem bts_append (l m : List Nat) : bts (l ++ m) = bts l ++ bts m := by simp [bts]
theorem bts_length (l : List Nat) : (bts l).length = 8 * l.length := by
  induction l with
  | nil => rfl
  | cons x l ih => rw [bts_cons, List.length_append, digits_length, ih, List.length_cons]; omega
theorem bts_getD (l : List Nat) (i : Nat) (h : i < 8 * l.length) : (bts l).getD i 0 = ((l.getD (i / 8) 0 / 256 ^ (i % 8) % 256 : Nat) : Int) := by
  induction l generalizing i with
  | nil => simp at h
  | cons x l ih =>
    rw [bts_cons]
    by_cases hi : i < 8
    · rw [List.getD_eq_getElem?_getD, List.getElem?_append_left (by rw [digits_length]; exact hi), Nat.div_eq_of_lt hi, Nat.mod_eq_of_lt hi, ← List.getD_eq_getElem?_getD, digits_getD x i hi]
      rfl
    · rw [List.getD_eq_getElem?_getD, List.getElem?_append_right (by rw [digits_length]; omega), digits_length, ← List.getD_eq_getElem?_getD, ih (i - 8) (by rw [List.length_cons] at h; omega)]
      rw [show i / 8 = (i - 8) / 8 + 1 by omega, show i % 8 = (i - 8) % 8 by omega, List.getD_cons_succ]
theorem bts_range (l : List Nat) : ∀ z ∈ bts l, 0 ≤ z ∧ z ≤ 255 := by
  intro z hz
  obtain ⟨x, _, hz⟩ := List.mem_flatMap.1 hz
  obtain ⟨k, _, rfl⟩ := List.mem_map.1 hz
  omega
theorem ext_getD {a b : List Int} (hl : a.length = b.length) (h : ∀ i, i < a.length → a.getD i 0 = b.getD i 0) : a = b := by
  apply List.ext_getElem hl
  intro i h1 h2
  have := h i h1
  rw [List.getD_eq_getElem?_getD, List.getD_eq_getElem?_getD, List.getElem?_eq_getElem h1, List.getElem?_eq_getElem h2] at this
  exact this
theorem getD_range' {zs : List Int} (hz : ∀ z ∈ zs, 0 ≤ z ∧ z ≤ 255) (i : Nat) : 0 ≤ zs.getD i 0 ∧ zs.getD i 0 ≤ 255 := M.getD_range hz i
theorem set_getD (l : List Nat) (i j x : Nat) (hi : i < l.length) : (l.set i x).getD j 0 = if j = i then x else l.getD j 0 := by
  rw [List.getD_eq_getElem?_getD, List.getD_eq_getElem?_getD, List.getElem?_set]
  by_cases e : i = j
  · subst e; rw [if_pos rfl, if_pos hi, if_pos rfl]; rfl
  · rw [if_neg e, if_neg (fun h => e h.symm)]
/-- A word put into bytes of words. -/
theorem pv_bts (l : List Nat) (i x : Nat) (hi : i < l.length) : M.pv (bts l) (8 * i) x 8 = bts (l.set i x) := by
  refine ext_getD (by rw [M.pv_length, bts_length, bts_length, List.length_set]) (fun j hj => ?_)
  rw [M.pv_length] at hj
  have hj' := hj
  rw [bts_length] at hj
  rw [M.pv_getD _ _ _ _ _ hj', bts_getD (l.set i x) j (by rw [List.length_set]; exact hj), set_getD l i (j / 8) x hi, bts_getD l j hj]
  by_cases e : 8 * i ≤ j ∧ j < 8 * i + 8
  · rw [if_pos e, if_pos (by omega), show j - 8 * i = j % 8 by omega]
  · rw [if_neg e, if_neg (by omega)]
theorem bts_zeros (k : Nat) : bts (List.replicate k 0) = List.replicate (8 * k) 0 := by
  refine ext_getD (by rw [bts_length]; simp) (fun j hj => ?_)
  rw [bts_length] at hj
  rw [bts_getD _ _ hj]
  rw [List.length_replicate] at hj
  rw [List.getD_eq_getElem?_getD, List.getD_eq_getElem?_getD, List.getElem?_replicate, List.getElem?_replicate, if_pos (by omega), if_pos hj]
  simp
/-- All bytes of a device are those of its words. -/
def Dv.all (d : Dv) : List Nat := (List.range (8 * d.lines.length)).map fun i => d.word (8 * i)
theorem all_length (d : Dv) : d.all.length = 8 * d.lines.length := by simp [Dv.all]
theorem all_getD (d : Dv) (i : Nat) (h : i < 8 * d.lines.length) : d.all.getD i 0 = d.word (8 * i) := by
  unfold Dv.all
  rw [List.getD_eq_getElem?_getD, List.getElem?_map, List.getElem?_range h]; rfl
theorem image_bts {d : Dv} (hg : d.Good) : d.image = bts d.all := by
  have hl := image_length hg.lines
  refine ext_getD (by rw [hl, bts_length, all_length]; omega) (fun i hi => ?_)
  rw [hl] at hi
  rw [image_byte hg i hi, bts_getD _ _ (by rw [all_length]; omega), all_getD _ _ (by omega)]

/-! ### The words of a shape -/
def six (n : Nat) : List Nat := [465675318387, 1, n, slabs n, 128, dataAt n]
def hsum (n : Nat) : Nat := C.nxt 0 (bts (six n))
def wrds (n : Nat) : List Nat := six n ++ [hsum n, 0]
theorem wrds_length (n : Nat) : (wrds n).length = 8 := rfl
theorem hsum_lt (n : Nat) : hsum n < 4294967296 := C.nxt_lt (by decide) (bts_range _)
theorem six_lt {n : Nat} (h : n ≤ 1024) : ∀ x ∈ six n, x < 2 ^ 64 := by
  have := slabs_most h
  intro x hx
  simp only [six, List.mem_cons, List.not_mem_nil, or_false] at hx
  rcases hx with rfl | rfl | rfl | rfl | rfl | rfl
  all_goals (try unfold dataAt); omega
theorem wrds_lt {n : Nat} (h : n ≤ 1024) : ∀ x ∈ wrds n, x < 2 ^ 64 := by
  intro x hx
  rcases List.mem_append.1 hx with hx | hx
  · exact six_lt h x hx
  · have := hsum_lt n
    simp only [List.mem_cons, List.not_mem_nil, or_false] at hx
    rcases hx with rfl | rfl <;> omega
def Sh.words (s : Sh) : List Nat := if 19 ≤ s.lines ∧ s.lines ≤ 1024 ∧ s = Sh.of s.lines then wrds s.lines.toNat else []
theorem Sh.words_at {n : Nat} (h : 19 ≤ n ∧ n ≤ 1024) : (Sh.at n).words = wrds n := by
  have e : (Sh.at n).lines = (n : Int) := rfl
  unfold Sh.words
  rw [if_pos (by rw [e, Sh.of_nat h]; exact ⟨by omega, by omega, rfl⟩), e, Int.toNat_natCast]
theorem Sh.words_zero : Sh.zero.words = [] := if_neg (fun h => absurd h.1 (by decide))
theorem Sh.words_of (x : Int) : (Sh.of x).words = if 19 ≤ x ∧ x ≤ 1024 then wrds x.toNat else [] := by
  by_cases h : 19 ≤ x ∧ x ≤ 1024
  · rw [if_pos h]
    obtain ⟨n, rfl⟩ := Int.eq_ofNat_of_zero_le (show 0 ≤ x by omega)
    rw [Sh.of_nat (by omega), Sh.words_at (by omega), Int.toNat_natCast]
  · rw [if_neg h, Sh.of_no h, Sh.words_zero]
theorem Sh.words_lt (s : Sh) : ∀ x ∈ s.words, x < 2 ^ 64 := by
  unfold Sh.words
  split
  · exact wrds_lt (by omega)
  · intro x hx; cases hx
theorem Sh.words_length (s : Sh) : s.words.length ≤ 8 := by
  unfold Sh.words
  split
  · exact Nat.le_refl _
  · exact Nat.zero_le _
/-- Unlike shapes have unlike words. -/
theorem wrds_inj {n m : Nat} (h : wrds n = wrds m) : n = m := by
  have := congrArg (fun l => l.getD 2 0) h
  exact this
end Go.Proofs.YtmelmiookkeoaaaDoor.V
