/- NvM: Plain mathematics of layer 3: lines with what their stores wrote over, and what a device's calls make of them. Nothing of the program.
NvW: How a device lies in memory: lines one behind the other in one block, what stores wrote over in blocks of their own. Nothing of the program's text but the types' numbers.
NvLa: Contracts of a line's load, contents, flush and put. Other blocks than the line's stay.
NvLb: Contract of a line's put: another word, in place. Other blocks than the line's stay.
NvLc: Contract of a line's store: another content, if the word is another one. Other blocks than the line's and that of its slice stay.
NvLd: Contracts of slices.Delete of a slice's beginning, and of a line's settle. Other blocks than the line's and that of its slice stay.
NvLe: The iterator slices.Backward over what stores wrote over: its contract.
NvLf: Contract of a line's back: the words that stores wrote over are put back, from a number on; one content alone is left. -/
import Derived.Test.YtaceogpdjbikiaaGreatDoorBa
import Derived.Deep.MidRow
import Derived.Maps.AppendAt
import Derived.Lib.SliceRun
import Derived.Deep.RegionLaw
import Derived.RegionCalls
import Derived.RangeFuncNested
import Derived.RangeFuncBound
import Derived.RangeFuncCalls
import Derived.RangeFuncLeaves
import Derived.Shelf.Abstract
import Derived.Shelf.RegionOpen
import Derived.WalkKit
import Derived.OwnWalkIn
import Derived.TacticsInMore
import Derived.LoopNIn
import Derived.LoopIn
import Derived.BigRegion
namespace Go.Proofs.YtaceogpdjbikiaaGreatDoor.V

open Go.Proofs.YtaceogpdjbikiaaGreatDoor

/-- A line: its bytes now, the words that stores wrote over (place, word), its mark. -/
structure Ln where
  now : List Int
  over : List (Nat × Nat)
  mark : Nat
structure Ln.Good (l : Ln) : Prop where
  len : l.now.length = 64
  byte : ∀ z ∈ l.now, 0 ≤ z ∧ z ≤ 255
  over : ∀ c ∈ l.over, c.1 % 8 = 0 ∧ c.1 + 8 ≤ 64 ∧ c.2 < 2 ^ 64
  mark : l.mark ≤ l.over.length
/-- The word at a place (said by cases, so that nothing reckons it by unfolding). -/
def Ln.get (l : Ln) (a : Nat) : Nat := match l.now with
  | [] => M.gv [] a 8
  | z :: zs => M.gv (z :: zs) a 8
theorem Ln.get_eq (l : Ln) (a : Nat) : l.get a = M.gv l.now a 8 := by
  unfold Ln.get
  split <;> simp_all
def Ln.store (l : Ln) (a n : Nat) : Ln := if l.get a = n then l else { now := M.pv l.now a n 8, over := l.over ++ [(a, l.get a)], mark := l.mark }
def Ln.flush (l : Ln) : Ln := { now := l.now, over := l.over, mark := l.over.length }
def Ln.settle (l : Ln) : Ln := { now := l.now, over := l.over.drop l.mark, mark := 0 }
/-- Bytes with the words put back, the last one first. -/
def undo (b : List Int) (cs : List (Nat × Nat)) : List Int := cs.foldr (fun c b => M.pv b c.1 c.2 8) b
def Ln.back (l : Ln) (to : Nat) : Ln := { now := undo l.now (l.over.drop to), over := [], mark := 0 }
def zeroLn : Ln := { now := List.replicate 64 0, over := [], mark := 0 }

theorem undo_cons (b : List Int) (c : Nat × Nat) (cs : List (Nat × Nat)) : undo b (c :: cs) = M.pv (undo b cs) c.1 c.2 8 := rfl
theorem undo_snoc (b : List Int) (c : Nat × Nat) (cs : List (Nat × Nat)) : undo b (cs ++ [c]) = undo (M.pv b c.1 c.2 8) cs := by simp [undo]
theorem undo_length (b : List Int) (cs : List (Nat × Nat)) : (undo b cs).length = b.length := by
  induction cs with
  | nil => rfl
  | cons c cs ih => rw [undo_cons, M.pv_length, ih]
theorem undo_range {b : List Int} (h : ∀ z ∈ b, 0 ≤ z ∧ z ≤ 255) (cs : List (Nat × Nat)) : ∀ z ∈ undo b cs, 0 ≤ z ∧ z ≤ 255 := by
  induction cs with
  | nil => exact h
  | cons c cs ih => exact M.pv_range ih _ _ _
theorem Ln.Good.get_lt {l : Ln} (h : l.Good) (a : Nat) : l.get a < 2 ^ 64 := by
  have := M.gv_lt h.byte a 8
  rw [Ln.get_eq]
  omega
theorem zeroLn_good : zeroLn.Good := ⟨by simp [zeroLn], fun z hz => by simp [zeroLn] at hz; omega, fun c hc => by simp [zeroLn] at hc, by simp [zeroLn]⟩
theorem Ln.Good.store {l : Ln} (h : l.Good) {a n : Nat} (ha : a % 8 = 0) (ha2 : a + 8 ≤ 64) : (l.store a n).Good := by
  unfold Ln.store
  split
  · exact h
  · refine ⟨by rw [M.pv_length]; exact h.len, M.pv_range h.byte _ _ _, fun c hc => ?_, by have := h.mark; simp; omega⟩
    rcases List.mem_append.1 hc with hc | hc
    · exact h.over c hc
    · obtain rfl := List.mem_singleton.1 hc
      exact ⟨ha, ha2, h.get_lt a⟩
theorem Ln.Good.flush {l : Ln} (h : l.Good) : l.flush.Good := ⟨h.len, h.byte, h.over, Nat.le_refl _⟩
theorem Ln.Good.settle {l : Ln} (h : l.Good) : l.settle.Good := ⟨h.len, h.byte, fun c hc => h.over c (List.mem_of_mem_drop hc), Nat.zero_le _⟩
theorem Ln.Good.back {l : Ln} (h : l.Good) (to : Nat) : (l.back to).Good := ⟨by rw [Ln.back, undo_length]; exact h.len, undo_range h.byte _, fun c hc => by simp [Ln.back] at hc, Nat.zero_le _⟩
theorem Ln.over_store (l : Ln) (a n : Nat) : (l.store a n).over.length ≤ l.over.length + 1 := by
  unfold Ln.store
  split <;> simp

/-- A device: its lines; behind how many more it is down (-1: never, 0: it is); how many steps were done. -/
structure Dv where
  lines : List Ln
  left : Int
  steps : Nat
structure Dv.Good (d : Dv) : Prop where
  lines : ∀ l ∈ d.lines, l.Good
  some : 1 ≤ d.lines.length
  most : d.lines.length ≤ 1024
  left : -1 ≤ d.left ∧ d.left ≤ 1000000000
  over : ∀ l ∈ d.lines, l.over.length ≤ d.steps
/-- What is wrong with it, or with a place of so many bytes: the error's number. -/
def Dv.state (d : Dv) : Int := if d.left = 0 then 12 else 0
def Dv.err (d : Dv) (off size : Int) : Int := if d.left = 0 then 12 else if 0 ≤ off ∧ off < 64 * (d.lines.length : Int) ∧ off % size = 0 then 0 else 4
def Dv.done (d : Dv) : Dv := { lines := d.lines, left := if 0 < d.left then d.left - 1 else d.left, steps := d.steps + 1 }
def Dv.line (d : Dv) (i : Nat) (f : Ln → Ln) : Dv := { lines := d.lines.modify i f, left := d.left, steps := d.steps }
def Dv.at (d : Dv) (i : Nat) : Ln := d.lines[i]?.getD zeroLn
def Dv.load (d : Dv) (off : Int) : Nat := if d.err off 8 = 0 then (d.at (off.toNat / 64)).get (off.toNat % 64) else 0
def Dv.store (d : Dv) (off : Int) (n : Nat) : Dv := if d.err off 8 = 0 then (d.line (off.toNat / 64) (·.store (off.toNat % 64) n)).done else d
def Dv.flush (d : Dv) (off : Int) : Dv := if d.err off 1 = 0 then (d.line (off.toNat / 64) Ln.flush).done else d
def Dv.settle (d : Dv) : Dv := { lines := d.lines.map Ln.settle, left := d.left, steps := d.steps }
def Dv.fence (d : Dv) : Dv := if d.left = 0 then d else d.settle.done
def Dv.stop (d : Dv) (after : Int) : Dv := if d.left = 0 then d else { lines := d.lines, left := max after 0, steps := d.steps }
/-- Each line with one of its contents: the next pick, where there is a choice. -/
def crashL : List Ln → List Int → List Ln
  | [], _ => []
  | l :: ls, ps => if l.over.length = 0 then l.back 0 :: crashL ls ps else
    match ps with
    | [] => l.back 0 :: crashL ls []
    | p :: ps => l.back (p.toNat % (l.over.length + 1)) :: crashL ls ps
def Dv.crash (d : Dv) (ps : List Int) : Dv := { lines := crashL d.lines ps, left := -1, steps := d.steps }
def Dv.may (d : Dv) (i : Int) : Nat := if 0 ≤ i ∧ i < (d.lines.length : Int) then (d.at i.toNat).over.length + 1 else 0
def Dv.image (d : Dv) : List Int := d.lines.flatMap (·.now)

theorem crashL_length (ls : List Ln) (ps : List Int) : (crashL ls ps).length = ls.length := by
  induction ls generalizing ps with
  | nil => rfl
  | cons l ls ih =>
    unfold crashL
    split
    · simp [ih]
    · split <;> simp [ih]
theorem crashL_mem {ls : List Ln} {ps : List Int} {m : Ln} (h : m ∈ crashL ls ps) : ∃ l ∈ ls, ∃ k, k ≤ l.over.length ∧ m = l.back k := by
  induction ls generalizing ps with
  | nil => simp [crashL] at h
  | cons l ls ih =>
    unfold crashL at h
    split at h
    · rcases List.mem_cons.1 h with rfl | h
      · exact ⟨l, by simp, 0, Nat.zero_le _, rfl⟩
      · obtain ⟨l', h1, h2⟩ := ih h; exact ⟨l', by simp [h1], h2⟩
    · split at h
      · rcases List.mem_cons.1 h with rfl | h
        · exact ⟨l, by simp, 0, Nat.zero_le _, rfl⟩
        · obtain ⟨l', h1, h2⟩ := ih h; exact ⟨l', by simp [h1], h2⟩
      · rcases List.mem_cons.1 h with rfl | h
        · exact ⟨l, by simp, _, Nat.lt_succ_iff.1 (Nat.mod_lt _ (by omega)), rfl⟩
        · obtain ⟨l', h1, h2⟩ := ih h; exact ⟨l', by simp [h1], h2⟩
theorem mem_modify {ls : List Ln} {i : Nat} {f : Ln → Ln} {m : Ln} (h : m ∈ ls.modify i f) : ∃ l ∈ ls, m = l ∨ m = f l := by
  obtain ⟨j, hj, rfl⟩ := List.mem_iff_getElem.1 h
  rw [List.getElem_modify]
  split
  · exact ⟨_, List.getElem_mem (by simpa using hj), .inr rfl⟩
  · exact ⟨_, List.getElem_mem (by simpa using hj), .inl rfl⟩
theorem Dv.Good.done {d : Dv} (h : d.Good) : d.done.Good := by
  refine ⟨h.lines, h.some, h.most, ?_, fun l hl => Nat.le_succ_of_le (h.over l hl)⟩
  have := h.left
  unfold Dv.done
  dsimp only
  split <;> omega
/-- A step that changes one line. -/
theorem Dv.Good.step {d : Dv} (h : d.Good) (i : Nat) (f : Ln → Ln) (hf : ∀ l : Ln, l.Good → (f l).Good) (ho : ∀ l : Ln, (f l).over.length ≤ l.over.length + 1) : (d.line i f).done.Good := by
  refine ⟨fun l hl => ?_, by simpa [Dv.line, Dv.done] using h.some, by simpa [Dv.line, Dv.done] using h.most, ?_, fun l hl => ?_⟩
  · obtain ⟨l', h1, rfl | rfl⟩ := mem_modify hl
    · exact h.lines _ h1
    · exact hf _ (h.lines _ h1)
  · exact (Dv.Good.done (d := { lines := d.lines, left := d.left, steps := d.steps }) h).left
  · show l.over.length ≤ d.steps + 1
    obtain ⟨l', h1, rfl | rfl⟩ := mem_modify hl
    · exact Nat.le_succ_of_le (h.over _ h1)
    · exact Nat.le_trans (ho _) (Nat.succ_le_succ (h.over _ h1))
theorem err_zero {d : Dv} {off size : Int} (h : d.err off size = 0) : d.left ≠ 0 ∧ 0 ≤ off ∧ off < 64 * (d.lines.length : Int) ∧ off % size = 0 := by
  unfold Dv.err at h
  by_cases a : d.left = 0
  · rw [if_pos a] at h; omega
  · rw [if_neg a] at h
    by_cases b : 0 ≤ off ∧ off < 64 * (d.lines.length : Int) ∧ off % size = 0
    · exact ⟨a, b⟩
    · rw [if_neg b] at h; omega
theorem Dv.store_ok {d : Dv} {off : Int} (n : Nat) (e : d.err off 8 = 0) : d.store off n = (d.line (off.toNat / 64) (·.store (off.toNat % 64) n)).done := if_pos e
theorem Dv.store_no {d : Dv} {off : Int} (n : Nat) (e : ¬ d.err off 8 = 0) : d.store off n = d := if_neg e
theorem Dv.flush_ok {d : Dv} {off : Int} (e : d.err off 1 = 0) : d.flush off = (d.line (off.toNat / 64) Ln.flush).done := if_pos e
theorem Dv.flush_no {d : Dv} {off : Int} (e : ¬ d.err off 1 = 0) : d.flush off = d := if_neg e
theorem place_in {off : Int} (_h0 : 0 ≤ off) (h2 : off % 8 = 0) : off.toNat % 64 % 8 = 0 ∧ off.toNat % 64 + 8 ≤ 64 := by omega
theorem Dv.Good.store {d : Dv} (h : d.Good) (off : Int) (n : Nat) : (d.store off n).Good := by
  by_cases e : d.err off 8 = 0
  · rw [Dv.store_ok n e]
    have h1 := err_zero e
    have h2 := place_in h1.2.1 h1.2.2.2
    exact h.step _ _ (fun l hl => hl.store h2.1 h2.2) (fun l => l.over_store _ _)
  · rw [Dv.store_no n e]
    exact h
theorem Dv.Good.flush {d : Dv} (h : d.Good) (off : Int) : (d.flush off).Good := by
  by_cases e : d.err off 1 = 0
  · rw [Dv.flush_ok e]
    exact h.step _ _ (fun l hl => hl.flush) (fun l => Nat.le_succ _)
  · rw [Dv.flush_no e]
    exact h
theorem Dv.Good.settle {d : Dv} (h : d.Good) : d.settle.Good := by
  refine ⟨fun l hl => ?_, by simpa [Dv.settle] using h.some, by simpa [Dv.settle] using h.most, h.left, fun l hl => ?_⟩
  · obtain ⟨l', h1, rfl⟩ := List.mem_map.1 hl
    exact (h.lines _ h1).settle
  · obtain ⟨l', h1, rfl⟩ := List.mem_map.1 hl
    have := h.over _ h1
    simp only [Ln.settle, List.length_drop, Dv.settle]
    omega
theorem Dv.Good.fence {d : Dv} (h : d.Good) : d.fence.Good := by
  unfold Dv.fence
  split
  · exact h
  · exact h.settle.done
theorem Dv.Good.stop {d : Dv} (h : d.Good) (k : Int) (hk : k ≤ 1000000000) : (d.stop k).Good := by
  unfold Dv.stop
  split
  · exact h
  · exact ⟨h.lines, h.some, h.most, by dsimp only; omega, h.over⟩
theorem Dv.Good.crash {d : Dv} (h : d.Good) (ps : List Int) : (d.crash ps).Good := by
  refine ⟨fun l hl => ?_, by simpa [Dv.crash, crashL_length] using h.some, by simpa [Dv.crash, crashL_length] using h.most, by simp [Dv.crash], fun l hl => ?_⟩
  · obtain ⟨l', h1, k, _, rfl⟩ := crashL_mem hl
    exact (h.lines _ h1).back _
  · obtain ⟨l', h1, k, _, rfl⟩ := crashL_mem hl
    exact Nat.zero_le _
def newDv (n : Nat) : Dv := { lines := List.replicate n zeroLn, left := -1, steps := 0 }
theorem newDv_good {n : Nat} (h1 : 1 ≤ n) (h2 : n ≤ 1024) : (newDv n).Good :=
  ⟨fun l hl => by obtain ⟨_, rfl⟩ := List.mem_replicate.1 hl; exact zeroLn_good, by simpa [newDv] using h1, by simpa [newDv] using h2, by simp [newDv], fun l hl => by obtain ⟨_, rfl⟩ := List.mem_replicate.1 hl; simp [zeroLn, newDv]⟩
theorem Dv.Good.at {d : Dv} (h : d.Good) (i : Nat) : (d.at i).Good := by
  unfold Dv.at
  cases hi : d.lines[i]? with
  | none => exact zeroLn_good
  | some l => exact h.lines l (List.mem_of_getElem? hi)
theorem image_length {d : Dv} (h : ∀ l ∈ d.lines, l.Good) : d.image.length = 64 * d.lines.length := by
  obtain ⟨ls, left, steps⟩ := d
  simp only [Dv.image] at *
  induction ls with
  | nil => rfl
  | cons l ls ih =>
    simp only [List.flatMap_cons, List.length_append, List.length_cons]
    rw [ih (fun l hl => h l (List.mem_cons_of_mem _ hl)), (h l (by simp)).len]
    omega
theorem image_range {d : Dv} (h : ∀ l ∈ d.lines, l.Good) : ∀ z ∈ d.image, 0 ≤ z ∧ z ≤ 255 := by
  intro z hz
  obtain ⟨l, hl, hz⟩ := List.mem_flatMap.1 hz
  exact (h l hl).byte z hz
end Go.Proofs.YtaceogpdjbikiaaGreatDoor.V
namespace Go.Proofs.YtaceogpdjbikiaaGreatDoor

open Go.RowKit

/-- Blocks that are not among F are as they were. -/
structure Only (F : List Nat) (w w' : World) : Prop where
  os : w'.os = w.os
  tape : w'.tape = w.tape
  output : w'.output = w.output
  size : w.heap.size ≤ w'.heap.size
  block : ∀ k, k < w.heap.size → k ∉ F → w'.heap[k]? = w.heap[k]?
theorem Only.refl (F : List Nat) (w : World) : Only F w w := ⟨rfl, rfl, rfl, Nat.le_refl _, fun _ _ _ => rfl⟩
theorem Only.trans {F G : List Nat} {a b c : World} (h : Only F a b) (k : Only G b c) (hG : ∀ x ∈ G, x ∈ F ∨ a.heap.size ≤ x) : Only F a c :=
  ⟨k.os.trans h.os, k.tape.trans h.tape, k.output.trans h.output, Nat.le_trans h.size k.size, fun i hi hn =>
    (k.block i (Nat.lt_of_lt_of_le hi h.size) (fun hg => by rcases hG i hg with h1 | h1; exact hn h1; omega)).trans (h.block i hi hn)⟩
theorem Only.trans' {F : List Nat} {a b c : World} (h : Only F a b) (k : Only F b c) : Only F a c := h.trans k (fun _ hx => .inl hx)
theorem Only.mono {F G : List Nat} {a b : World} (h : Only F a b) (hFG : ∀ x ∈ F, x ∈ G) : Only G a b := ⟨h.os, h.tape, h.output, h.size, fun k hk hn => h.block k hk (fun hf => hn (hFG k hf))⟩
theorem Only.drew {F : List Nat} {a w : World} (h : Only F a w) : Only F a w.drew := ⟨h.os, h.tape, h.output, h.size, h.block⟩
theorem Only.drewN {F : List Nat} {a w : World} (h : Only F a w) (n : Nat) : Only F a (w.drewN n) := ⟨h.os, h.tape, h.output, h.size, h.block⟩
theorem Only.of_below {F : List Nat} {a w : World} (h : Below a.heap.size a w) : Only F a w := ⟨h.os, h.tape, h.output, h.size, fun k hk _ => h.block k hk⟩
theorem Only.below {F : List Nat} {a w : World} {B : Nat} (h : Only F a w) (hB : B ≤ a.heap.size) (hF : ∀ x ∈ F, B ≤ x) : Below B a w := ⟨h.os, h.tape, h.output, h.size, fun k hk => h.block k (by omega) (fun hf => by have := hF k hf; omega)⟩
theorem Only.setCell (w : World) (p : Addr) (u : Value) : Only [p.block] w (w.setCell p u) :=
  ⟨rfl, rfl, rfl, by simp [World.setCell], fun k _ hn => Below.heap_setCell _ _ _ _ (fun e => hn (by simp [e]))⟩
theorem Only.setRow (w : World) (g : Nat) (cs : Array Value) : Only [g] w (w.setRow g cs) :=
  ⟨rfl, rfl, rfl, by simp [World.setRow], fun k _ hn => setRow_other _ _ _ _ (fun e => hn (by simp [e]))⟩
theorem Only.alloc {F : List Nat} {a w : World} (h : Only F a w) (o : Obj) : Only F a (w.alloc o) :=
  ⟨h.os, h.tape, h.output, Nat.le_trans h.size (by simp), fun k hk hn => (Below.heap_alloc _ _ _ (Nat.lt_of_lt_of_le hk h.size)).trans (h.block k hk hn)⟩
theorem Only.grown {F : List Nat} {a w w' : World} {row : Option Nat} (h : Only F a w) (hg : w.grownBy w' row) (hr : ∀ k, row = some k → k ∈ F ∨ a.heap.size ≤ k) : Only F a w' :=
  ⟨hg.os.trans h.os, hg.tape.trans h.tape, hg.output.trans h.output, Nat.le_trans h.size hg.size, fun k hk hn =>
    (hg.block k (Nat.lt_of_lt_of_le hk h.size) (fun e => by rcases hr k e.symm with h1 | h1; exact hn h1; omega)).trans (h.block k hk hn)⟩

/-! ### Segments of a block -/
theorem seg_get {pre mid post : List Value} (j : Nat) (hj : j < mid.length) : (pre ++ mid ++ post)[pre.length + j]? = mid[j]? := by
  rw [List.append_assoc, List.getElem?_append_right (by omega), List.getElem?_append_left (by omega)]
  congr 1
  omega
theorem seg_cell {w : World} {L : Nat} {pre mid post : List Value} {t : TypeId} (h : w.heap[L]? = some (.cells (pre ++ mid ++ post).toArray t (0, 0))) (j : Nat) (hj : j < mid.length) :
    w.cell? ⟨L, pre.length + j, none⟩ = mid[j]? := by
  rw [cell_of_row w L _ _ t (0, 0) h, List.getElem?_toArray]
  exact seg_get j hj
theorem seg_free {w : World} {L : Nat} {cs : Array Value} {t : TypeId} (h : w.heap[L]? = some (.cells cs t (0, 0))) (j : Nat) : w.frozen? ⟨L, j, none⟩ = false := frozen_of_row w L j cs t h
theorem seg_set {pre mid post : List Value} (j : Nat) (hj : j < mid.length) (u : Value) : (pre ++ mid ++ post).toArray.setIfInBounds (pre.length + j) u = (pre ++ mid.set j u ++ post).toArray := by
  apply Array.ext'
  rw [Array.toList_setIfInBounds]
  simp only [List.append_assoc]
  rw [List.set_append_right _ _ (by omega), Nat.add_sub_cancel_left, List.set_append_left _ _ (by omega)]
theorem seg_stored {w : World} {L : Nat} {pre mid post : List Value} {t : TypeId} (h : w.heap[L]? = some (.cells (pre ++ mid ++ post).toArray t (0, 0))) (j : Nat) (hj : j < mid.length) (u : Value) :
    (w.setCell ⟨L, pre.length + j, none⟩ u).heap[L]? = some (.cells (pre ++ mid.set j u ++ post).toArray t (0, 0)) := by
  rw [heap_setCell_same w L _ _ t u h, seg_set j hj u]
/-- Many cells stored, at once. -/
theorem setCells_row {L : Nat} {t : TypeId} : ∀ (vs : List Value) (o : Nat) (cur : List Value) (w : World), w.heap[L]? = some (.cells cur.toArray t (0, 0)) → o + vs.length ≤ cur.length →
    (w.setCells L o vs).heap[L]? = some (.cells (cur.take o ++ vs ++ cur.drop (o + vs.length)).toArray t (0, 0)) ∧ Only [L] w (w.setCells L o vs)
  | [], o, cur, w, h, _ => ⟨by simpa [World.setCells] using h, Only.refl _ _⟩
  | v :: vs, o, cur, w, h, hl => by
    have h1 : (w.setCell ⟨L, o, none⟩ v).heap[L]? = some (.cells (cur.set o v).toArray t (0, 0)) := by
      rw [heap_setCell_same w L o _ t v h]; simp
    obtain ⟨h2, h3⟩ := setCells_row vs (o + 1) (cur.set o v) _ h1 (by simp at hl ⊢; omega)
    refine ⟨?_, (Only.setCell w ⟨L, o, none⟩ v).trans' h3⟩
    rw [World.setCells, h2]
    congr 2
    apply Array.ext'
    have e := list_seg_step cur o v vs (by simp at hl; omega)
    simpa [Nat.add_assoc] using e
theorem seg_put {w : World} {L : Nat} {pre mid post : List Value} {t : TypeId} (h : w.heap[L]? = some (.cells (pre ++ mid ++ post).toArray t (0, 0))) (vs : List Value) (hl : vs.length ≤ mid.length) :
    (w.setCells L pre.length vs).heap[L]? = some (.cells (pre ++ (vs ++ mid.drop vs.length) ++ post).toArray t (0, 0)) ∧ Only [L] w (w.setCells L pre.length vs) := by
  obtain ⟨h1, h2⟩ := setCells_row vs pre.length (pre ++ mid ++ post) w h (by simp; omega)
  refine ⟨?_, h2⟩
  rw [h1]
  congr 2
  apply Array.ext'
  simp only [List.append_assoc]
  rw [List.take_left, List.drop_append, List.drop_of_length_le (by omega), List.nil_append, Nat.add_sub_cancel_left, List.drop_append_of_le_length (by omega)]

/-! ### A line -/
def lineCells (l : V.Ln) (v : Value) : List Value := l.now.map (Value.int .u8) ++ [v, .int .i64 (l.mark : Int)]
def chCells (c : Nat × Nat) : List Value := [.int .i64 (c.1 : Int), .int .u64 (c.2 : Int)]
def overCells (o : List (Nat × Nat)) : List Value := o.flatMap chCells
theorem overCells_length (o : List (Nat × Nat)) : (overCells o).length = o.length * 2 := by
  induction o with
  | nil => rfl
  | cons c o ih =>
    rw [overCells, List.flatMap_cons, List.length_append, ← overCells, ih]
    simp [chCells]; omega
theorem overCells_append (a b : List (Nat × Nat)) : overCells (a ++ b) = overCells a ++ overCells b := by simp [overCells]
theorem overCells_drop (o : List (Nat × Nat)) (k : Nat) : overCells (o.drop k) = (overCells o).drop (k * 2) := by
  induction o generalizing k with
  | nil => simp [overCells]
  | cons c o ih =>
    cases k with
    | zero => simp
    | succ k =>
      rw [List.drop_succ_cons, ih, show (k + 1) * 2 = k * 2 + 2 by omega]
      simp [overCells, chCells]
theorem overCells_get (o : List (Nat × Nat)) (k : Nat) (c : Nat × Nat) (h : o[k]? = some c) : (overCells o)[k * 2]? = some (.int .i64 (c.1 : Int)) ∧ (overCells o)[k * 2 + 1]? = some (.int .u64 (c.2 : Int)) := by
  have hk := (List.getElem?_eq_some_iff.1 h).1
  have e : o.drop k = c :: o.drop (k + 1) := by
    rw [List.drop_eq_getElem_cons hk, (List.getElem?_eq_some_iff.1 h).2]
  have e2 := overCells_drop o k
  rw [e] at e2
  have h0 : ∀ j, ((overCells o).drop (k * 2))[j]? = (overCells o)[k * 2 + j]? := fun j => by rw [List.getElem?_drop]
  rw [← e2] at h0
  exact ⟨(h0 0).symm.trans (by simp [overCells, chCells]), (h0 1).symm.trans (by simp [overCells, chCells])⟩
theorem overCells_one (o : List (Nat × Nat)) : ∀ v ∈ overCells o, v.oneCell' = true := by
  intro v hv
  obtain ⟨c, _, hc⟩ := List.mem_flatMap.1 hv
  simp [chCells] at hc
  rcases hc with rfl | rfl <;> rfl

theorem lineCells_length {l : V.Ln} (h : l.now.length = 64) (v : Value) : (lineCells l v).length = 66 := by simp [lineCells, h]
theorem lineCells_byte {l : V.Ln} (h : l.now.length = 64) (v : Value) (j : Nat) (hj : j < 64) : (lineCells l v)[j]? = some (.int .u8 (l.now.getD j 0)) := by
  rw [lineCells, List.getElem?_append_left (by simp; omega), List.getElem?_map, List.getD_eq_getElem?_getD, List.getElem?_eq_getElem (by omega)]
  rfl
theorem lineCells_over {l : V.Ln} (h : l.now.length = 64) (v : Value) : (lineCells l v)[64]? = some v := by
  rw [lineCells, List.getElem?_append_right (by simp; omega)]; simp [h]
theorem lineCells_mark {l : V.Ln} (h : l.now.length = 64) (v : Value) : (lineCells l v)[65]? = some (.int .i64 (l.mark : Int)) := by
  rw [lineCells, List.getElem?_append_right (by simp; omega)]; simp [h]
theorem lineCells_setOver {l : V.Ln} (h : l.now.length = 64) (v u : Value) : (lineCells l v).set 64 u = lineCells l u := by
  rw [lineCells, List.set_append_right _ _ (by simp; omega)]; simp [h, lineCells]
theorem lineCells_setMark {l : V.Ln} (h : l.now.length = 64) (v : Value) (o : List (Nat × Nat)) (m : Nat) : (lineCells l v).set 65 (.int .i64 (m : Int)) = lineCells { now := l.now, over := o, mark := m } v := by
  rw [lineCells, List.set_append_right _ _ (by simp; omega)]; simp [h, lineCells]

/-- A line lies in block L, behind the cells pre and ahead of the cells post; its slice of what was written over is v. -/
structure LineAt (w : World) (L : Nat) (pre post : List Value) (l : V.Ln) (v : Value) : Prop where
  row : w.heap[L]? = some (.cells (pre ++ lineCells l v ++ post).toArray 111 (0, 0))
  good : l.Good
  own : w.ownsRow 0 138 2 v l.over.length (overCells l.over)
  apart : v.ownBlock ≠ some L
section

variable {w : World} {L : Nat} {pre post : List Value} {l : V.Ln} {v : Value}

theorem LineAt.lt (h : LineAt w L pre post l v) : L < w.heap.size := (Array.getElem?_eq_some_iff.1 h.row).1
theorem LineAt.len (h : LineAt w L pre post l v) : (lineCells l v).length = 66 := lineCells_length h.good.len v
theorem LineAt.bytes (h : LineAt w L pre post l v) : IsBytes w (.slice (some ⟨L, pre.length, none⟩) 64 64) l.now := by
  have hb := h.good.byte
  refine ⟨some ⟨L, pre.length, none⟩, 64, by rw [h.good.len], by rw [h.good.len]; omega, by decide, .inr ⟨L, pre.length, rfl, fun i hi => ?_⟩, fun z hz => wf_byte (hb z hz)⟩
  rw [h.good.len] at hi
  rw [seg_cell h.row i (by rw [h.len]; omega)]
  exact lineCells_byte h.good.len v i hi
theorem LineAt.over (h : LineAt w L pre post l v) : w.cell? ⟨L, pre.length + 64, none⟩ = some v := by
  rw [seg_cell h.row 64 (by rw [h.len]; omega)]; exact lineCells_over h.good.len v
theorem LineAt.mark (h : LineAt w L pre post l v) : w.cell? ⟨L, pre.length + 65, none⟩ = some (.int .i64 (l.mark : Int)) := by
  rw [seg_cell h.row 65 (by rw [h.len]; omega)]; exact lineCells_mark h.good.len v
theorem LineAt.free (h : LineAt w L pre post l v) (j : Nat) : w.frozen? ⟨L, j, none⟩ = false := seg_free h.row j
/-- What touches neither the line's block nor that of its slice keeps it. -/
theorem LineAt.only {w' : World} {F : List Nat} (h : LineAt w L pre post l v) (ho : Only F w w') (hL : L ∉ F) (hv : ∀ g, v.ownBlock = some g → g ∉ F) : LineAt w' L pre post l v := by
  refine ⟨(ho.block L h.lt hL).trans h.row, h.good, ⟨h.own.1, ?_⟩, h.apart⟩
  rcases h.own.2 with e | ⟨g, cap, cur, rfl, hb, hg, rest⟩
  · exact .inl e
  · exact .inr ⟨g, cap, cur, rfl, hb, (ho.block g (Array.getElem?_eq_some_iff.1 hg).1 (hv g rfl)).trans hg, rest⟩
theorem LineAt.drewN (h : LineAt w L pre post l v) (n : Nat) : LineAt (w.drewN n) L pre post l v := ⟨h.row, h.good, h.own, h.apart⟩
end

theorem owns_only {w w' : World} {base e size n : Nat} {v : Value} {xs : List Value} {F : List Nat} (h : w.ownsRow base e size v n xs) (ho : Only F w w') (hv : ∀ g, v.ownBlock = some g → g ∉ F) : w'.ownsRow base e size v n xs := by
  refine ⟨h.1, ?_⟩
  rcases h.2 with h2 | ⟨g, cap, cur, rfl, hb, hg, rest⟩
  · exact .inl h2
  · exact .inr ⟨g, cap, cur, rfl, hb, (ho.block g (Array.getElem?_eq_some_iff.1 hg).1 (hv g rfl)).trans hg, rest⟩
end Go.Proofs.YtaceogpdjbikiaaGreatDoor
namespace Go.Proofs.YtaceogpdjbikiaaGreatDoor

open Go.RowKit

theorem getW_at {l : V.Ln} (h : l.now.length = 64) {a : Nat} (h8 : a % 8 = 0) (ha : a + 8 ≤ 64) : M.getW l.now (a : Int) = l.get a ∧ M.stands l.now.length (a : Int) = true := by
  have e : M.stands l.now.length (a : Int) = true := by
    simp only [M.stands, decide_eq_true_eq, h]
    omega
  exact ⟨by rw [M.getW, if_pos e, V.Ln.get_eq]; rfl, e⟩
theorem putB_at {l : V.Ln} (h : l.now.length = 64) {a : Nat} (h8 : a % 8 = 0) (ha : a + 8 ≤ 64) (n : Nat) : M.putB l.now (a : Int) n = M.pv l.now a n 8 := by
  rw [M.putB, if_pos (getW_at h h8 ha).2]; rfl

theorem ln_get (w : World) (L : Nat) (pre post : List Value) (l : V.Ln) (v : Value) (a : Nat) (h : LineAt w L pre post l v) (h8 : a % 8 = 0) (ha : a + 8 ≤ 64) :
    Calls Tryz.prog 87 #[.slice (some ⟨L, pre.length, none⟩) 64 64, .int .i64 (a : Int)] w fun e w' => e = .returned (.tuple #[.int .u64 (l.get a : Nat), .bool true]) ∧ ∃ m, w' = w.drewN m := by
  have h1 := get_any _ _ (a : Int) w h.bytes (by omega)
  rw [(getW_at h.good.len h8 ha).1, (getW_at h.good.len h8 ha).2] at h1
  exact h1

theorem ln_load (w : World) (L : Nat) (pre post : List Value) (l : V.Ln) (v : Value) (a : Nat) (h : LineAt w L pre post l v) (h8 : a % 8 = 0) (ha : a + 8 ≤ 64) :
    Calls Tryz.prog 55 #[.pointer (some ⟨L, pre.length, none⟩), .int .i64 (a : Int)] w fun e w' => e = .returned (.int .u64 (l.get a : Nat)) ∧ ∃ m, w' = w.drewN m := by
  have H := Lib.hid (fun w' : World => ln_get w' L pre post l v a)
  have HL := Lib.hid h
  clear h
  generalize pre.length = o at *
  go_enter Tryz.func55, Tryz.ntmps55
  go_wp2_with fail
  refine (H.out _ (by exact HL.out) h8 ha).mono ?_
  rintro e w' ⟨rfl, m, rfl⟩
  go_wp2
  go_ret
  exact ⟨rfl, _, rfl⟩

theorem ln_contents (w : World) (L o : Nat) (A : Option Addr) (n c : Nat) (hc : w.cell? ⟨L, o + 64, none⟩ = some (.slice A n c)) (hn : n ≤ 1000000000) :
    Calls Tryz.prog 57 #[.pointer (some ⟨L, o, none⟩)] w fun e w' => e = .returned (.int .i64 ((n + 1 : Nat) : Int)) ∧ w = w' := by
  go_enter Tryz.func57, Tryz.ntmps57
  go_wp2
  go_ret
  exact ⟨ret_int (by omega), rfl⟩

theorem ln_flush (w : World) (L : Nat) (pre post : List Value) (l : V.Ln) (v : Value) (h : LineAt w L pre post l v) :
    Calls Tryz.prog 117 #[.pointer (some ⟨L, pre.length, none⟩)] w fun e w' => e = .returned (.tuple #[]) ∧ LineAt w' L pre post l.flush v ∧ Only [L] w w' := by
  obtain ⟨A, c, rfl, _⟩ := owns_form h.own
  have hover := h.over
  have hmark := h.mark
  have hfree := h.free (pre.length + 65)
  have HR := Lib.hid (seg_stored h.row 65 (by rw [h.len]; omega) (.int .i64 (l.over.length : Int)))
  have HO := Lib.hid (Only.setCell w ⟨L, pre.length + 65, none⟩ (.int .i64 (l.over.length : Int)))
  have HL := Lib.hid h
  clear h
  generalize pre.length = o at *
  go_enter Tryz.func117, Tryz.ntmps117
  go_wp2
  go_end0
  refine ⟨rfl, ⟨?_, HL.out.good.flush, ?_, HL.out.apart⟩, HO.out⟩
  · have := HR.out
    rw [lineCells_setMark HL.out.good.len _ l.over l.over.length] at this
    exact this
  · exact owns_only HL.out.own HO.out (fun g hg => by have := HL.out.apart; rw [hg] at this; simp at this ⊢; exact this)
end Go.Proofs.YtaceogpdjbikiaaGreatDoor
namespace Go.Proofs.YtaceogpdjbikiaaGreatDoor

open Go.RowKit

theorem info_arr64 : (Tryz.prog.info? 108).map (·.size) = some 64 := by kernel_rfl
theorem run_arr64 (W : World) (A : Option Addr) (c : Nat) : (Instr.arrayAt 108 (.slice A 64 c)).run Tryz.prog W = .ok (.pointer A) W := by kernel_rfl
theorem range_of_bytes {w : World} {b o cap : Nat} {zs : List Int} (h : IsBytes w (.slice (some ⟨b, o, none⟩) zs.length cap) zs) : w.rangeAt b o (zs.map (Value.int .u8)) := by
  obtain ⟨a, c, e, h1, h2, h3, h4⟩ := h
  simp only [Value.slice.injEq] at e
  obtain ⟨rfl, _, rfl⟩ := e
  intro j v hv
  rw [List.getElem?_map] at hv
  obtain ⟨z, hz, rfl⟩ := Option.map_eq_some_iff.1 hv
  have hj := (List.getElem?_eq_some_iff.1 hz).1
  rcases h3 with rfl | ⟨b', o', e, hc⟩
  · simp at hj
  · simp only [Option.some.injEq, Addr.mk.injEq, and_true] at e
    obtain ⟨rfl, rfl⟩ := e
    rw [hc j hj, List.getD_eq_getElem?_getD, hz]
    rfl
theorem LineAt.there {w : World} {L : Nat} {pre post : List Value} {l : V.Ln} {v : Value} (h : LineAt w L pre post l v) (n : Nat) (hn : n ≤ 66) : w.there L pre.length n := fun j hj => by
  refine ⟨?_, h.free _⟩
  rw [seg_cell h.row j (by rw [h.len]; omega), List.getElem?_eq_getElem (by rw [h.len]; omega)]
  rfl
theorem lineCells_put {l : V.Ln} (h : l.now.length = 64) (v : Value) (zs : List Int) (hz : zs.length = 64) : zs.map (Value.int .u8) ++ (lineCells l v).drop (zs.map (Value.int .u8)).length = lineCells { now := zs, over := l.over, mark := l.mark } v := by
  rw [lineCells, List.drop_append_of_le_length (by simp; omega), List.drop_of_length_le (by simp; omega)]
  rfl

/-- Sixty-four bytes stored over a line's. -/
theorem LineAt.put {w : World} {L : Nat} {pre post : List Value} {l : V.Ln} {v : Value} (h : LineAt w L pre post l v) {zs : List Int} (hz : zs.length = 64) (hr : ∀ z ∈ zs, 0 ≤ z ∧ z ≤ 255) :
    LineAt (w.setCells L pre.length (zs.map (Value.int .u8))) L pre post { now := zs, over := l.over, mark := l.mark } v ∧ Only [L] w (w.setCells L pre.length (zs.map (Value.int .u8))) := by
  obtain ⟨h1, h2⟩ := seg_put h.row (zs.map (Value.int .u8)) (by rw [h.len]; simp; omega)
  rw [lineCells_put h.good.len v zs hz] at h1
  exact ⟨⟨h1, ⟨hz, hr, h.good.over, h.good.mark⟩, owns_only h.own h2 (fun g hg => by have := h.apart; rw [hg] at this; simp at this ⊢; exact this), h.apart⟩, h2⟩

theorem ln_wput (w : World) (L : Nat) (pre post : List Value) (l : V.Ln) (v : Value) (a n : Nat) (h : LineAt w L pre post l v) (h8 : a % 8 = 0) (ha : a + 8 ≤ 64) (hn : n < 2 ^ 64) :
    Calls Tryz.prog 108 #[.slice (some ⟨L, pre.length, none⟩) 64 64, .int .i64 (a : Int), .int .u64 (n : Int)] w (PutPost w (M.pv l.now a n 8) true) := by
  have h1 := put_any _ _ (a : Int) n w h.bytes (by rw [h.good.len]; decide) (by omega) hn
  rw [putB_at h.good.len h8 ha, (getW_at h.good.len h8 ha).2] at h1
  exact h1

set_option maxRecDepth 100000 in
theorem ln_put (w : World) (L : Nat) (pre post : List Value) (l : V.Ln) (v : Value) (a n : Nat) (h : LineAt w L pre post l v) (h8 : a % 8 = 0) (ha : a + 8 ≤ 64) (hn : n < 2 ^ 64) :
    Calls Tryz.prog 89 #[.pointer (some ⟨L, pre.length, none⟩), .int .i64 (a : Int), .int .u64 (n : Int)] w fun e w' => e = .returned (.tuple #[]) ∧ LineAt w' L pre post { now := M.pv l.now a n 8, over := l.over, mark := l.mark } v ∧ Only [L] w w' := by
  have HP := Lib.hid (ln_wput w L pre post l v a n h h8 ha hn)
  have HL := Lib.hid h
  have HPL : Hid ((M.pv l.now a n 8).length = 64) := by show _ = _; rw [M.pv_length]; exact h.good.len
  have HPR := Lib.hid (M.pv_range h.good.byte a n 8)
  have HLM : Hid (∀ w' : World, Only [] w w' → LineAt w' L pre post l v) := fun w' ho => h.only ho (by simp) (fun g _ => by simp)
  clear h
  generalize hzs : M.pv l.now a n 8 = zs at *
  clear hzs
  generalize hol : pre.length = o at *
  have HOL := Lib.hid hol
  clear hol
  go_enter Tryz.func89, Tryz.ntmps89
  go_wp2_with fail
  refine HP.out.mono ?_
  rintro e w1 ⟨u, rfl, hu, hb⟩
  obtain ⟨A, cap, rfl, hx1, hx2, hR, hx3⟩ := id hu
  rcases hR with rfl | ⟨b, o', rfl, hx4⟩
  · exact absurd HPL.out (by simp)
  clear hx1 hx2 hx3 hx4
  have hzl := HPL.out
  have HU := Lib.hid (range_of_bytes hu)
  have HO1 : Hid (Only [] w w1) := Only.of_below hb
  have HL1 := Lib.hid (HLM.out w1 HO1.out)
  have HT : Hid (w1.there L o (zs.map (Value.int .u8)).toArray.size) := by
    show w1.there _ _ _
    rw [← HOL.out]; exact HL1.out.there _ (by simp; omega)
  have HN : Hid (LineAt (w1.setCells L o (zs.map (Value.int .u8))) L pre post { now := zs, over := l.over, mark := l.mark } v ∧ Only [L] w1 (w1.setCells L o (zs.map (Value.int .u8)))) := by
    rw [← HOL.out]; exact HL1.out.put hzl HPR.out
  have HI : Hid ((Tryz.prog.info? 108).map (·.size) = some (zs.map (Value.int .u8)).length) := by show _ = _; rw [List.length_map, hzl]; exact info_arr64
  have HI2 : Hid ((Tryz.prog.info? 108).map (·.size) = some (zs.map (Value.int .u8)).toArray.size) := by show _ = _; rw [List.size_toArray, List.length_map, hzl]; exact info_arr64
  have H1 : Hid ((zs.map (Value.int .u8)).toArray.all (·.oneCell') = true) := all_oneCell_toArray (ints_oneCell _ _)
  clear hu hb
  rw [hzl]
  clear hzl
  generalize hcs : zs.map (Value.int .u8) = cs at *
  clear hcs
  have harr := run_arr64
  go_wp2_with (first
    | (refine wpList_load_mid rfl 108 (.tmp 20) rfl b o' rfl cs _ HU.out Tryz.underlying108 rfl HI.out ?_)
    | (refine wpList_store_mid rfl 108 (.tmp 23) (.tmp 21) rfl L o cs.toArray rfl rfl HT.out HI2.out H1.out ?_))
  go_end0
  exact ⟨rfl, HN.out.1, (HO1.out.mono (by simp)).trans' HN.out.2⟩
end Go.Proofs.YtaceogpdjbikiaaGreatDoor
namespace Go.Proofs.YtaceogpdjbikiaaGreatDoor

open Go.RowKit

theorem info_change : (Tryz.prog.info? 138).map (fun i => (i.zero, i.size, i.bytes)) = some (some (.agg #[.int .i64 0, .int .u64 0]), 2, 16) := by kernel_rfl

theorem chCells_one (c : Nat × Nat) : ∀ u ∈ chCells c, u.oneCell' = true := by
  intro v hv
  simp [chCells] at hv
  rcases hv with rfl | rfl <;> rfl
theorem own_some {w : World} {base e size : Nat} {v : Value} {n : Nat} {xs : List Value} (h : w.ownsRow base e size v n xs) (hv : v = .slice none 0 0 → False) : ∃ g cap, v = .slice (some ⟨g, 0, none⟩) n cap ∧ g < w.heap.size := by
  rcases h.2 with ⟨h', _⟩ | ⟨g, cap, cur, h', _, hg, _⟩
  · exact (hv h').elim
  · exact ⟨g, cap, h', (Array.getElem?_eq_some_iff.1 hg).1⟩
/-- The blocks of a slice that the call owns. -/
def ownL (v : Value) : List Nat := v.ownBlock.toList
theorem mem_ownL {v : Value} {k : Nat} : k ∈ ownL v ↔ v.ownBlock = some k := by simp [ownL, Option.mem_toList]
theorem ownL_nil : ownL (.slice none 0 0) = [] := rfl

/-- What a line's call leaves: the line, with a slice that lies where it lay, or in a block that is new. -/
def LnPost (w : World) (L : Nat) (pre post : List Value) (v : Value) (l' : V.Ln) (e : Ending) (w' : World) : Prop :=
  e = .returned (.tuple #[]) ∧ ∃ v', LineAt w' L pre post l' v' ∧ Only (L :: ownL v) w w' ∧ (∀ k ∈ ownL v', k ∈ ownL v ∨ w.heap.size ≤ k)

/-- Another slice in a line's cell. -/
theorem LineAt.withOver {w : World} {L : Nat} {pre post : List Value} {l l' : V.Ln} {v v' : Value} (h : w.heap[L]? = some (.cells (pre ++ lineCells l v ++ post).toArray 111 (0, 0))) (hn : l'.now = l.now) (hm : l'.mark = l.mark) (hg : l'.Good)
    (ho : w.ownsRow 0 138 2 v' l'.over.length (overCells l'.over)) (ha : v'.ownBlock ≠ some L) :
    LineAt (w.setCell ⟨L, pre.length + 64, none⟩ v') L pre post l' v' := by
  have hl : l.now.length = 64 := by rw [← hn]; exact hg.len
  have h1 := seg_stored h 64 (by rw [lineCells_length hl]; omega) v'
  rw [lineCells_setOver hl] at h1
  have e : lineCells l' v' = lineCells l v' := by simp [lineCells, hn, hm]
  exact ⟨by rw [e]; exact h1, hg, owns_only ho (Only.setCell w ⟨L, pre.length + 64, none⟩ v') (fun g hg => by rw [hg] at ha; simp at ha ⊢; exact ha), ha⟩

set_option maxRecDepth 100000 in
theorem ln_store_new (w : World) (L : Nat) (pre post : List Value) (l : V.Ln) (v : Value) (a n : Nat) (h : LineAt w L pre post l v) (h8 : a % 8 = 0) (ha : a + 8 ≤ 64) (hn : n < 2 ^ 64) (hne : l.get a ≠ n) (hk : l.over.length ≤ 1000000000) :
    Calls Tryz.prog 63 #[.pointer (some ⟨L, pre.length, none⟩), .int .i64 (a : Int), .int .u64 (n : Int)] w (LnPost w L pre post v (l.store a n)) := by
  obtain ⟨i0, hi, hz0, hz1, hz2⟩ := info_parts info_change
  have HLD := Lib.hid (ln_load w L pre post l v a h h8 ha)
  have hgl := h.good.get_lt a
  have HPUT := Lib.hid (fun (W : World) (l : V.Ln) (v : Value) (h : LineAt W L pre post l v) => ln_put W L pre post l v a n h h8 ha hn)
  have hb : ((l.get a : Int) == (n : Int)) = false := by simp; omega
  have HL' : Hid ((⟨l.now, l.over ++ [(a, l.get a)], l.mark⟩ : V.Ln).Good) := by
    refine ⟨h.good.len, h.good.byte, fun c hc => ?_, by have := h.good.mark; simp; omega⟩
    rcases List.mem_append.1 hc with hc | hc
    · exact h.good.over c hc
    · obtain rfl := List.mem_singleton.1 hc
      exact ⟨h8, ha, hgl⟩
  have HS : Hid (l.store a n = ⟨M.pv l.now a n 8, l.over ++ [(a, l.get a)], l.mark⟩) := by
    show _ = _
    unfold V.Ln.store
    rw [if_neg hne]
  have HL := Lib.hid h
  have HOL := Lib.hid h.over
  have HFR := Lib.hid (h.free (pre.length + 64))
  have hlt := h.lt
  have HW := Lib.hid (fun (W : World) (v v' : Value) (h : W.heap[L]? = some (.cells (pre ++ lineCells l v ++ post).toArray 111 (0, 0))) (ho : W.ownsRow 0 138 2 v' (l.over ++ [(a, l.get a)]).length (overCells (l.over ++ [(a, l.get a)]))) (ha : v'.ownBlock ≠ some L) => LineAt.withOver (l' := ⟨l.now, l.over ++ [(a, l.get a)], l.mark⟩) h rfl rfl HL'.out ho ha)
  clear h hne
  generalize l.get a = x at *
  generalize hol : pre.length = o at *
  clear hol
  have hv := HL.out.own
  obtain ⟨A, c, rfl, hx1, hx2⟩ := owns_form hv
  clear hv hx1 hx2
  go_enter Tryz.func63, Tryz.ntmps63
  go_wp2_with fail
  refine HLD.out.mono ?_
  rintro e w' ⟨rfl, m, rfl⟩
  have hov := HOL.out
  have HOWN : Hid (((w.drewN m).alloc (.cells #[.int .i64 (a : Int), .int .u64 (x : Int)] 138)).ownsRow 0 138 2 (.slice A l.over.length c) l.over.length (overCells l.over)) := (show (w.drewN m).ownsRow 0 _ 2 _ _ _ from HL.out.own).alloc _
  have HC : Hid (∀ j u, (chCells (a, x))[j]? = some u → ((w.drewN m).alloc (.cells #[.int .i64 (a : Int), .int .u64 (x : Int)] 138)).cell? ((⟨w.heap.size, 0, none⟩ : Addr).add j) = some u) := by
    intro j u hj
    have hj2 : j < 2 := (List.getElem?_eq_some_iff.1 hj).1
    rw [Addr.add_lit, ← hj]
    have e := cell_of_row ((w.drewN m).alloc (.cells #[.int .i64 (a : Int), .int .u64 (x : Int)] 138)) w.heap.size (0 + j) _ _ _ (heap_alloc_new _ _)
    rw [e, Nat.zero_add]
    match j, hj2 with
    | 0, _ => rfl
    | 1, _ => rfl
  have HON : Hid (Only [] w ((w.drewN m).alloc (.cells #[.int .i64 (a : Int), .int .u64 (x : Int)] 138))) := ((Only.refl [] w).drewN m).alloc _
  go_wp2_with (at_builtin; refine wpList_append_own_at _ rfl (.tmp 17) (.tmp 21) 109 rfl 0 138 i0 _ 2 16 Tryz.underlying109 hi hz0 hz1 hz2 rfl (by decide) _ _ _ rfl HOWN.out ⟨w.heap.size, 0, none⟩ 1 1 (chCells (a, x)) rfl rfl HC.out (chCells_one (a, x)) (by unfold maxLen; omega) (by omega) (Nat.zero_le _) ?_)
  intro v' w1 hown' hgrow hnil hat
  have HAP : Hid ((Value.slice A l.over.length c).ownBlock ≠ some L) := HL.out.apart
  have hoL : Only (ownL (.slice A l.over.length c)) w w1 := (HON.out.mono (by simp)).grown hgrow (fun k hk => .inl (mem_ownL.2 hk))
  have hblk : w1.heap[L]? = w.heap[L]? := hoL.block L hlt (fun hm => HAP.out (mem_ownL.1 hm))
  have hcell1 : w1.cell? ⟨L, o + 64, none⟩ = some (.slice A l.over.length c) := (World.cell?_of_block (w := w) (a := ⟨L, o + 64, none⟩) hblk).trans HOL.out
  have hfree1 : w1.frozen? ⟨L, o + 64, none⟩ = false := (World.frozen?_of_block (w := w) (a := ⟨L, o + 64, none⟩) hblk).trans HFR.out
  obtain ⟨g, c', rfl, _⟩ := own_some hown' hnil
  have HG : Hid (∀ k ∈ ownL (.slice (some ⟨g, 0, none⟩) (l.over.length + 1) c'), k ∈ ownL (.slice A l.over.length c) ∨ w.heap.size ≤ k) := by
    intro k hk
    rw [mem_ownL] at hk ⊢
    rcases hat with e | e
    · exact .inl (e ▸ hk)
    · right
      rw [e] at hk
      simp at hk
      omega
  have hgL : g ≠ L := by
    intro e
    have h1 := HG.out g (mem_ownL.2 rfl)
    rw [e, mem_ownL] at h1
    exact h1.elim HAP.out (by omega)
  have hown2 : w1.ownsRow 0 138 2 (.slice (some ⟨g, 0, none⟩) (l.over.length + 1) c') (l.over ++ [(a, x)]).length (overCells (l.over ++ [(a, x)])) := by
    rw [overCells_append, List.length_append]
    simpa [overCells] using hown'
  have HLN := Lib.hid (HW.out w1 _ _ (hblk.trans HL.out.row) hown2 (by simp [Value.ownBlock, hgL]))
  have HO2 : Hid (Only (L :: ownL (.slice A l.over.length c)) w (w1.setCell ⟨L, o + 64, none⟩ (.slice (some ⟨g, 0, none⟩) (l.over.length + 1) c'))) :=
    (hoL.mono (by intro k hk; simp [hk])).trans' ((Only.setCell w1 ⟨L, o + 64, none⟩ _).mono (by simp))
  clear hown' hgrow hnil hat hoL hblk hown2 hov
  go_wp2_with fail
  refine (HPUT.out _ _ _ HLN.out).mono ?_
  rintro e w2 ⟨rfl, h1, h2⟩
  have H1 := Lib.hid h1; have H2 := Lib.hid h2
  clear h1 h2
  go_wp2
  go_end0
  refine ⟨rfl, _, ?_, HO2.out.trans' (H2.out.mono (by simp)), HG.out⟩
  rw [HS.out]
  exact H1.out

theorem ln_store (w : World) (L : Nat) (pre post : List Value) (l : V.Ln) (v : Value) (a n : Nat) (h : LineAt w L pre post l v) (h8 : a % 8 = 0) (ha : a + 8 ≤ 64) (hn : n < 2 ^ 64) (hk : l.over.length ≤ 1000000000) :
    Calls Tryz.prog 63 #[.pointer (some ⟨L, pre.length, none⟩), .int .i64 (a : Int), .int .u64 (n : Int)] w (LnPost w L pre post v (l.store a n)) := by
  by_cases hne : l.get a = n
  · have HLD := Lib.hid (ln_load w L pre post l v a h h8 ha)
    have HS : Hid (l.store a n = l) := by show _ = _; unfold V.Ln.store; rw [if_pos hne]
    have HL := Lib.hid h
    clear h
    have hb : ((n : Int) == (n : Int)) = true := by simp
    rw [hne] at HLD
    clear hne
    generalize hol : pre.length = o at *
    clear hol
    go_enter Tryz.func63, Tryz.ntmps63
    go_wp2_with fail
    refine HLD.out.mono ?_
    rintro e w' ⟨rfl, m, rfl⟩
    go_wp2
    go_end0
    exact ⟨rfl, v, by rw [HS.out]; exact HL.out.drewN m, (Only.refl _ _).drewN m, fun k hk => .inl hk⟩
  · exact ln_store_new w L pre post l v a n h h8 ha hn hne hk
end Go.Proofs.YtaceogpdjbikiaaGreatDoor
namespace Go.Proofs.YtaceogpdjbikiaaGreatDoor

open Go.RowKit

theorem run_clear2 (w : World) (ty : TypeId) (b o n c : Nat) (hn : 0 < n) (hc : ∀ j, j < n * 2 → (w.cell? ⟨b, o + j, none⟩).isSome = true) (hf : ∀ j, j < n * 2 → w.frozen? ⟨b, o + j, none⟩ = false) :
    (Builtin.clear_ #[109] ty #[.slice (some ⟨b, o, none⟩) n c]).run Tryz.prog w = .ok (.tuple #[]) (w.setCells b o (Builtin.zeroCells #[.int .i64 0, .int .u64 0] n).toList) := by
  obtain ⟨i0, hi, hz0, hz1, hz2⟩ := info_parts info_change
  have hl : (Builtin.zeroCells #[Value.int .i64 0, Value.int .u64 0] n).toList.length = n * 2 := by simp [Builtin.zeroCells]
  have hst := run_storeCells_cells (P := Tryz.prog) b o (Builtin.zeroCells #[Value.int .i64 0, Value.int .u64 0] n).toList 0 w (by rw [hl]; simpa using hc) (by rw [hl]; simpa using hf) (by
    intro v hv
    simp [Builtin.zeroCells] at hv
    obtain ⟨j, _, rfl⟩ := hv
    have h2 : j % 2 = 0 ∨ j % 2 = 1 := by omega
    rcases h2 with h2 | h2 <;> rw [h2] <;> rfl)
  simp only [Nat.add_zero] at hst
  obtain ⟨m, rfl⟩ : ∃ m, n = m + 1 := ⟨n - 1, by omega⟩
  simp [Builtin.clear_, run_underlying Tryz.underlying109, zeroValue, typeInfo, hi, hz0, hst, Value.cells]

/-- The first cells of a row, when those from k on are laid to its head and others behind them. -/
theorem owns_shift {w : World} {g : Nat} {cur : List Value} {len cap j : Nat} {xs : List (Nat × Nat)} (hg : w.heap[g]? = some (.cells cur.toArray 138 (0, 0))) (hs : cur.length = cap * 2) (hlen : xs.length = len) (hlc : len ≤ cap) (hcm : cap ≤ maxLen) (hj : j ≤ len) (zs : List Value) (hz : zs.length = j * 2) :
    ((w.setCells g 0 (overCells (xs.drop j))).setCells g ((len - j) * 2) zs).ownsRow 0 138 2 (.slice (some ⟨g, 0, none⟩) (len - j) cap) (len - j) (overCells (xs.drop j)) ∧
      Only [g] w ((w.setCells g 0 (overCells (xs.drop j))).setCells g ((len - j) * 2) zs) := by
  have hl : (overCells (xs.drop j)).length = (len - j) * 2 := by rw [overCells_length, List.length_drop, hlen]
  obtain ⟨h1, h2⟩ := setCells_row (overCells (xs.drop j)) 0 cur w hg (by omega)
  simp only [List.take_zero, List.nil_append, Nat.zero_add] at h1
  obtain ⟨h3, h4⟩ := setCells_row zs ((len - j) * 2) _ _ h1 (by rw [List.length_append, List.length_drop, hl]; omega)
  refine ⟨⟨hl, .inr ⟨g, cap, _, rfl, Nat.zero_le _, h3, by omega, hcm, ?_, ?_⟩⟩, h2.trans' h4⟩
  · simp only [List.size_toArray, List.length_append, List.length_take, List.length_drop, hl, hz]
    omega
  · rw [← hl, List.take_left, List.append_assoc, List.take_left]
set_option maxRecDepth 100000 in
theorem delete_ok (g cap len j : Nat) (xs : List (Nat × Nat)) (w : World) (h : w.ownsRow 0 138 2 (.slice (some ⟨g, 0, none⟩) len cap) len (overCells xs)) (hj0 : 0 < j) (hj : j ≤ len) (hlen : xs.length = len) (hm : len ≤ 1000000000) :
    Calls Tryz.prog 118 #[.slice (some ⟨g, 0, none⟩) len cap, .int .i64 0, .int .i64 (j : Int)] w fun e w' =>
      e = .returned (.slice (some ⟨g, 0, none⟩) (len - j) cap) ∧ w'.ownsRow 0 138 2 (.slice (some ⟨g, 0, none⟩) (len - j) cap) (len - j) (overCells (xs.drop j)) ∧ Only [g] w w' := by
  obtain ⟨i0, hi0, hz0, hz1, hz2⟩ := info_parts info_change
  have hxl := h.1
  rcases h.2 with ⟨e, _⟩ | ⟨g', cap', cur, e, _, hg, hlc, hcm, hcs, htk⟩
  · simp at e
  simp only [Value.slice.injEq, Option.some.injEq, Addr.mk.injEq, and_true, true_and] at e
  obtain ⟨rfl, rfl⟩ := e
  obtain ⟨news, hnews⟩ : ∃ news, news = overCells (xs.drop j) := ⟨_, rfl⟩
  have hnl : news.length = (len - j) * 2 := by rw [hnews, overCells_length, List.length_drop, hlen]
  have hgl : w.drew.heap[g]? = some (.cells cur.toList.toArray 138 (0, 0)) := by rw [heap_drew]; simpa using hg
  have hcell : ∀ k, k < cap * 2 → (w.drew.cell? ⟨g, k, none⟩).isSome = true ∧ w.drew.frozen? ⟨g, k, none⟩ = false := by
    intro k hk
    refine ⟨?_, frozen_of_row _ _ _ _ _ hgl⟩
    rw [cell_of_row _ _ _ _ _ _ hgl]
    simp [hcs, hk]
  obtain ⟨A, hA, hsrc⟩ : ∃ A : Addr, (if cap = j then some (⟨g, 0, none⟩ : Addr) else some ⟨g, j * 2, none⟩) = some A ∧ Hid (∀ t u, news[t]? = some u → w.drew.cell? (A.add t) = some u) := by
    by_cases hcj : cap = j
    · refine ⟨⟨g, 0, none⟩, by simp [hcj], fun t u hu => ?_⟩
      have := (List.getElem?_eq_some_iff.1 hu).1
      omega
    · refine ⟨⟨g, j * 2, none⟩, by simp [hcj], fun t u hu => ?_⟩
      rw [Addr.add_lit, cell_of_row _ _ _ _ _ _ hgl, List.getElem?_toArray]
      have ht : t < (len - j) * 2 := by have := (List.getElem?_eq_some_iff.1 hu).1; omega
      have h1 : (overCells xs)[j * 2 + t]? = some u := by
        rw [← hu, hnews, overCells_drop, List.getElem?_drop]
      rw [← htk, List.getElem?_take, if_pos (by omega)] at h1
      exact h1
  have s1 : Hid (news.length = (len - j) * 2) := hnl
  have s2 : Hid (∀ u ∈ news, u.oneCell' = true) := by rw [hnews]; exact overCells_one _
  have s3 : Hid (∀ t, t < news.length → (w.drew.cell? ⟨g, 0 + 0 * 2 + t, none⟩).isSome = true ∧ w.drew.frozen? ⟨g, 0 + 0 * 2 + t, none⟩ = false) := by
    intro t ht
    rw [hnl] at ht
    rw [show 0 + 0 * 2 + t = t by omega]
    exact hcell t (by omega)
  obtain ⟨W1, hW1⟩ : ∃ W1, W1 = w.drew.setCells g (0 + 0 * 2) news := ⟨_, rfl⟩
  have hW : Hid (W1 = w.drew.setCells g (0 + 0 * 2) news) := hW1
  have hrow1 := (setCells_row news 0 cur.toList w.drew hgl (by rw [hnl]; simp [hcs]; omega)).1
  have hcl : ∀ ty, (Builtin.clear_ #[109] ty #[.slice (some ⟨g, (len - j) * 2, none⟩) (len - (len - j)) (cap - (len - j))]).run Tryz.prog W1 = .ok (.tuple #[]) (W1.setCells g ((len - j) * 2) (Builtin.zeroCells #[.int .i64 0, .int .u64 0] (len - (len - j))).toList) := by
    intro ty
    have e0 : W1 = w.drew.setCells g 0 news := hW1
    refine run_clear2 W1 ty g _ _ _ (by omega) (fun k hk => ?_) (fun k hk => ?_)
    · rw [e0, cell_of_row _ _ _ _ _ _ hrow1, List.getElem?_toArray, List.getElem?_eq_getElem (by simp [hnl, hcs]; omega)]
      rfl
    · rw [e0]; exact frozen_of_row _ _ _ _ _ hrow1
  have HF := Lib.hid (owns_shift (w := w.drew) hgl (by simpa using hcs) hlen hlc hcm hj (Builtin.zeroCells #[.int .i64 0, .int .u64 0] (len - (len - j))).toList (by simp [Builtin.zeroCells]; omega))
  have HN : Hid (news = overCells (xs.drop j)) := hnews
  have hlc' := hlc
  unfold maxLen at hcm
  have hcj : j ≤ cap := by omega
  clear hW1 hrow1 hgl hcell hnews hnl hg hcs htk hxl h hlen
  go_enter Tryz.func118, Tryz.ntmps118
  go_wp2_with fail
  go_region_law (refine step_append_room rfl (.tmp 22) (.tmp 25) 109 rfl 138 i0 2 Tryz.underlying109 hi0 hz1 g 0 0 cap (by simp [Act.eval, Act.put]) A (len - j) (cap - j) news (by simp [Act.eval, Act.put]) s1.out hsrc.out s2.out (by omega) s3.out ?_; rw [← hW.out])
  go_wp2
  go_ret
  have h := HF.out
  rw [← HN.out] at h ⊢
  rw [show w.drew.setCells g 0 news = W1 from hW.out.symm] at h
  exact ⟨rfl, h.1, (Only.refl [g] w).drew.trans' h.2⟩

theorem LineAt.withMark {w : World} {L : Nat} {pre post : List Value} {l : V.Ln} {v : Value} (h : LineAt w L pre post l v) (m : Nat) (hm : m ≤ l.over.length) :
    LineAt (w.setCell ⟨L, pre.length + 65, none⟩ (.int .i64 (m : Int))) L pre post { now := l.now, over := l.over, mark := m } v := by
  have h1 := seg_stored h.row 65 (by rw [h.len]; omega) (.int .i64 (m : Int))
  rw [lineCells_setMark h.good.len v l.over m] at h1
  exact ⟨h1, ⟨h.good.len, h.good.byte, h.good.over, hm⟩, owns_only h.own (Only.setCell w ⟨L, pre.length + 65, none⟩ (.int .i64 (m : Int))) (fun g hg => by have := h.apart; rw [hg] at this; simp at this ⊢; exact this), h.apart⟩

/-- Another slice and another mark. -/
theorem LineAt.withBoth {w : World} {L : Nat} {pre post : List Value} {l : V.Ln} {v v' : Value} {o : List (Nat × Nat)} {m : Nat} (h : w.heap[L]? = some (.cells (pre ++ lineCells l v ++ post).toArray 111 (0, 0))) (hg : (⟨l.now, o, m⟩ : V.Ln).Good)
    (ho : w.ownsRow 0 138 2 v' o.length (overCells o)) (ha : v'.ownBlock ≠ some L) :
    LineAt ((w.setCell ⟨L, pre.length + 64, none⟩ v').setCell ⟨L, pre.length + 65, none⟩ (.int .i64 (m : Int))) L pre post ⟨l.now, o, m⟩ v' ∧
      Only [L] w ((w.setCell ⟨L, pre.length + 64, none⟩ v').setCell ⟨L, pre.length + 65, none⟩ (.int .i64 (m : Int))) := by
  have hl : l.now.length = 64 := hg.len
  have h1 := seg_stored h 64 (by rw [lineCells_length hl]; omega) v'
  rw [lineCells_setOver hl] at h1
  have h2 := seg_stored h1 65 (by rw [lineCells_length hl]; omega) (.int .i64 (m : Int))
  rw [lineCells_setMark hl v' o m] at h2
  have hO := (Only.setCell w ⟨L, pre.length + 64, none⟩ v').trans' (Only.setCell (w.setCell ⟨L, pre.length + 64, none⟩ v') ⟨L, pre.length + 65, none⟩ (.int .i64 (m : Int)))
  exact ⟨⟨h2, hg, owns_only ho hO (fun g hg => by rw [hg] at ha; simp at ha ⊢; exact ha), ha⟩, hO⟩

set_option maxRecDepth 100000 in
theorem ln_settle_some (w : World) (L : Nat) (pre post : List Value) (l : V.Ln) (v : Value) (h : LineAt w L pre post l v) (hm : 0 < l.mark) (hk : l.over.length ≤ 1000000000) :
    Calls Tryz.prog 112 #[.pointer (some ⟨L, pre.length, none⟩)] w (LnPost w L pre post v l.settle) := by
  obtain ⟨i0, hi, hz0, hz1, hz2⟩ := info_parts info_change
  have hgm := h.good.mark
  obtain ⟨g, cap, rfl, _⟩ := own_some h.own (fun e => by
    have h1 := h.own
    rw [e] at h1
    rcases h1.2 with ⟨_, h2⟩ | ⟨_, _, _, h2, _⟩
    · omega
    · simp at h2)
  have HG : Hid ((⟨l.now, l.over.drop l.mark, 0⟩ : V.Ln).Good) := ⟨h.good.len, h.good.byte, fun c hc => h.good.over c (List.mem_of_mem_drop hc), Nat.zero_le _⟩
  have hgL : g ≠ L := fun e => h.apart (by rw [e]; rfl)
  have HDEL := Lib.hid (fun (W : World) (ho : W.ownsRow 0 138 2 (.slice (some ⟨g, 0, none⟩) l.over.length cap) l.over.length (overCells l.over)) => delete_ok g cap l.over.length l.mark l.over W ho hm hgm rfl hk)
  have hover := h.over
  have hmark := h.mark
  have hfree := h.free (pre.length + 64)
  have HFR := Lib.hid (h.free (pre.length + 65))
  have hlt := h.lt
  have HL := Lib.hid h
  have HROW := Lib.hid h.row
  have HOWN := Lib.hid h.own
  clear h
  have HM : Hid (0 < (l.mark : Int)) := Int.natCast_pos.2 hm
  have hmi : (0 : Int) < (l.mark : Int) := HM.out
  generalize hol : pre.length = o at *
  have HOL := Lib.hid hol
  clear hol
  go_enter Tryz.func112, Tryz.ntmps112
  go_wp2_with fail
  go_region_with (go_at_call 118; refine (HDEL.out _ (by exact HOWN.out)).mono ?_; rintro e w1 ⟨rfl, h1, h2⟩; have hb : w1.heap[L]? = w.heap[L]? := h2.block L hlt (by simpa using fun e => hgL e.symm); have hover1 : w1.cell? ⟨L, o + 64, none⟩ = some (.slice (some ⟨g, 0, none⟩) l.over.length cap) := (World.cell?_of_block (w := w) (a := ⟨L, o + 64, none⟩) hb).trans hover; have hmark1 : w1.cell? ⟨L, o + 65, none⟩ = some (.int .i64 (l.mark : Int)) := (World.cell?_of_block (w := w) (a := ⟨L, o + 65, none⟩) hb).trans hmark; have hfree1 : w1.frozen? ⟨L, o + 64, none⟩ = false := (World.frozen?_of_block (w := w) (a := ⟨L, o + 64, none⟩) hb).trans hfree; have hfree65 : w1.frozen? ⟨L, o + 65, none⟩ = false := (World.frozen?_of_block (w := w) (a := ⟨L, o + 65, none⟩) hb).trans HFR.out; have H1 := Lib.hid h1; have H2 := Lib.hid h2; have HB := Lib.hid hb; clear h1 h2 hb)
  all_goals
    have HF : Hid (LineAt ((w1.setCell ⟨L, o + 64, none⟩ (.slice (some ⟨g, 0, none⟩) (l.over.length - l.mark) cap)).setCell ⟨L, o + 65, none⟩ (.int .i64 0)) L pre post l.settle (.slice (some ⟨g, 0, none⟩) (l.over.length - l.mark) cap) ∧
        Only [L] w1 ((w1.setCell ⟨L, o + 64, none⟩ (.slice (some ⟨g, 0, none⟩) (l.over.length - l.mark) cap)).setCell ⟨L, o + 65, none⟩ (.int .i64 0))) := by
      have h := LineAt.withBoth (m := 0) (o := l.over.drop l.mark) (HB.out.trans HROW.out) HG.out (by rw [List.length_drop]; exact H1.out) (by simp [Value.ownBlock, hgL])
      rw [HOL.out] at h
      exact h
    go_wp2
    go_end0
    refine ⟨rfl, _, HF.out.1, ?_, fun k hk => .inl hk⟩
    exact (((Only.refl _ w).drew.trans' (H2.out.mono (G := L :: ownL (.slice (some ⟨g, 0, none⟩) l.over.length cap)) (by simp [ownL, Value.ownBlock]))).trans' (HF.out.2.mono (by simp)))

theorem ln_settle (w : World) (L : Nat) (pre post : List Value) (l : V.Ln) (v : Value) (h : LineAt w L pre post l v) (hk : l.over.length ≤ 1000000000) :
    Calls Tryz.prog 112 #[.pointer (some ⟨L, pre.length, none⟩)] w (LnPost w L pre post v l.settle) := by
  by_cases hm : 0 < l.mark
  · exact ln_settle_some w L pre post l v h hm hk
  · have h0 : l.mark = 0 := by omega
    have hmark := h.mark
    have HS : Hid (l.settle = l) := by
      show _ = _
      obtain ⟨now, over, mark⟩ := l
      subst h0
      rfl
    have HL := Lib.hid h
    rw [h0] at hmark
    clear h h0 hm
    generalize hol : pre.length = o at *
    clear hol
    go_enter Tryz.func112, Tryz.ntmps112
    go_wp2
    go_end0
    exact ⟨rfl, v, by rw [HS.out]; exact HL.out, Only.refl _ _, fun k hk => .inl hk⟩
end Go.Proofs.YtaceogpdjbikiaaGreatDoor
namespace Go.Proofs.YtaceogpdjbikiaaGreatDoor

open Go.RowKit Go.Shelf
attribute [local go_sem] Oper.semAt_some

/-- The blocks of S lie as they lay. -/
def KeepB (S : List Nat) (W W' : World) : Prop := ∀ k ∈ S, W'.heap[k]? = W.heap[k]?
theorem KeepB.refl (S : List Nat) (W : World) : KeepB S W W := fun _ _ => rfl
theorem KeepB.trans {S : List Nat} {A B C : World} (h : KeepB S A B) (k : KeepB S B C) : KeepB S A C := fun j hj => (k j hj).trans (h j hj)
theorem KeepB.cell {S : List Nat} {W W' : World} (h : KeepB S W W') {b o : Nat} {v : Value} (hb : b ∈ S) (hc : W.cell? ⟨b, o, none⟩ = some v) : W'.cell? ⟨b, o, none⟩ = some v :=
  (World.cell?_of_block (w := W) (a := ⟨b, o, none⟩) (h b hb)).trans hc

/-- A change that may be: a place in a line, and a word. -/
abbrev Ch := { c : Nat × Nat // c.1 % 8 = 0 ∧ c.1 + 8 ≤ 64 ∧ c.2 < 2 ^ 64 }
def ch0 : Ch := ⟨(0, 0), by decide⟩
/-- A slice reads as changes. -/
def Chs (w : World) (A : Option Addr) (cs : List Ch) : Prop :=
  cs = [] ∨ ∃ g o, A = some ⟨g, o, none⟩ ∧ ∀ k c, cs[k]? = some c → w.cell? ⟨g, o + k * 2, none⟩ = some (.int .i64 (c.1.1 : Int)) ∧ w.cell? ⟨g, o + k * 2 + 1, none⟩ = some (.int .u64 (c.1.2 : Int))
theorem Chs.keep {S : List Nat} {w w' : World} {A : Option Addr} {cs : List Ch} (h : Chs w A cs) (hk : KeepB S w w') (hS : ∀ a, A = some a → a.block ∈ S) : Chs w' A cs := by
  rcases h with rfl | ⟨g, o, rfl, hc⟩
  · exact .inl rfl
  · exact .inr ⟨g, o, rfl, fun k c hk' => ⟨hk.cell (hS _ rfl) (hc k c hk').1, hk.cell (hS _ rfl) (hc k c hk').2⟩⟩

/-- What comes, round by round: the last one first. -/
def revs (cs : List Ch) (k : Nat) : List (Nat × Ch) := (List.range k).map fun j => (cs.length - 1 - j, cs.getD (cs.length - 1 - j) ch0)
theorem revs_succ (cs : List Ch) (k : Nat) : revs cs (k + 1) = revs cs k ++ [(cs.length - 1 - k, cs.getD (cs.length - 1 - k) ch0)] := by simp [revs, List.range_succ]
theorem revs_length (cs : List Ch) (k : Nat) : (revs cs k).length = k := by simp [revs]

set_option maxRecDepth 100000 in
set_option maxHeartbeats 2000000 in
theorem backward1_in (F : Fence) (n : Nat) (h56 : F.fn 107) (hro : F.round = none) (hn : 1 ≤ n) (l Bs : Nat) (A : Option Addr) (cap : Nat) (cs : List Ch) (S : List Nat)
    (hB : Bs ∈ S) (hS : ∀ a, A = some a → a.block ∈ S) (hlen : cs.length ≤ 1000000000) (J Jx : List (Nat × Ch) → World → Prop)
    (hY : ∀ pre x W, J pre W → pre.length < cs.length → YieldAt F (n - 1) Tryz.prog l #[.int .i64 (x.1 : Int), .agg #[.int .i64 (x.2.1.1 : Int), .int .u64 (x.2.1.2 : Int)]] W fun e W' =>
      (e = .returned (.bool true) ∧ J (pre ++ [x]) W' ∧ KeepB S W W') ∨ (e = .returned (.bool false) ∧ Jx (pre ++ [x]) W'))
    (W : World) (hBs : W.cell? ⟨Bs, 0, none⟩ = some (.slice A cs.length cap)) (hC : Chs W A cs) (h0 : J [] W) :
    CallsIn F n Tryz.prog 107 #[.func (.yield l) #[] #[], .pointer (some ⟨Bs, 0, none⟩)] W fun e W' => (∃ v, e = .returned v) ∧
      ((∃ ys, ys = revs cs cs.length ∧ J ys W') ∨ (∃ pre, True ∧ Jx pre W')) := by
  have HC := Lib.hid hC; clear hC
  have HR : Hid (∀ k, revs cs (k + 1) = revs cs k ++ [(cs.length - 1 - k, cs.getD (cs.length - 1 - k) ch0)]) := revs_succ cs
  have HG : Hid (∀ k, k < cs.length → cs[k]? = some (cs.getD k ch0)) := fun k hk => by rw [List.getD_eq_getElem?_getD, List.getElem?_eq_getElem hk]; rfl
  have HRL := Lib.hid (revs_length cs)
  refine callsIn_of_wp Tryz.func107 rfl h56 ?_ hro
  simp only [Tryz.ntmps107, List.size_toArray, List.length_cons, List.length_nil, Nat.reduceAdd, Nat.reduceSub, Array.replicate_succ, Array.replicate_zero, List.push_toArray, List.append_toArray, List.nil_append, List.cons_append]
  gi_wp2
  gi_loopw [3] (fun i wr => ∃ r : Nat, r ≤ cs.length ∧ i = .int .i64 ((r : Int) - 1) ∧ J (revs cs (cs.length - r)) wr ∧ KeepB S W wr)
    (fun i _ => (intOf i + 1).toNat)
  case atStart => exact ⟨cs.length, Nat.le_refl _, rfl, by rw [Nat.sub_self]; exact h0, KeepB.refl _ _⟩
  case round =>
    obtain ⟨r, hr, rfl, hJs, hk⟩ := hrel
    cases r with
    | zero =>
      rw [Nat.sub_zero] at hJs
      gi_wp2
      go_end0
      exact ⟨⟨_, rfl⟩, .inl ⟨_, rfl, hJs⟩⟩
    | succ t =>
      have e1 : (((t + 1 : Nat) : Int) - 1) = (t : Int) := by omega
      rw [e1]
      clear e1
      have HX := Lib.hid (HR.out (cs.length - (t + 1)))
      have HT : Hid (cs.length - 1 - (cs.length - (t + 1)) = t) := by show _ = _; omega
      have HT2 : Hid (cs.length - (t + 1) + 1 = cs.length - t) := by show _ = _; omega
      rw [HT.out, HT2.out] at HX
      have hcc := HG.out t (by omega)
      rcases HC.out.keep hk hS with h | ⟨g, o, rfl, hc⟩
      · rw [h] at hr; simp at hr
      obtain ⟨hc1, hc2⟩ := hc t _ hcc
      have hbs := hk.cell hB hBs
      have hK := Lib.hid hk
      obtain ⟨fn, tmps, assign, body, hy, hR⟩ := hY _ (t, cs.getD t ch0) wr hJs (by rw [HRL.out]; omega)
      dsimp only at hy
      clear hcc hc hk
      generalize cs.getD t ch0 = c at *
      gi_wp2
      refine hR.mono ?_
      rintro e W3 (⟨rfl, hJ3, hk3⟩ | ⟨rfl, hJx3⟩)
      · have HK3 := Lib.hid hk3
        clear hk3
        gi_wp2
        go_roundw
        case rel => exact ⟨t, by omega, rfl, by rw [HX.out]; exact hJ3, hK.out.trans HK3.out⟩
        case measure => simp [intOf]
      · gi_wp2
        refine bodyPost_ret (results_none rfl _ _ _) rfl ?_
        exact ⟨⟨_, rfl⟩, .inr ⟨_, trivial, hJx3⟩⟩

set_option maxHeartbeats 1000000 in
theorem backward_in (F : Fence) (n : Nat) (h53 : F.fn 88) (hro : F.round = none) (a : Option Addr) (len cap : Nat) (w : World) :
    CallsIn F n Tryz.prog 88 #[.slice a len cap] w fun e w' => e = .returned (.func (.func 107) #[] #[.pointer (some ⟨w.heap.size, 0, none⟩)]) ∧ w' = w.alloc (.cells #[.slice a len cap] 109) := by
  refine callsIn_of_wp Tryz.func88 rfl h53 ?_ hro
  simp only [Tryz.ntmps88, List.size_toArray, List.length_cons, List.length_nil, Nat.reduceAdd, Nat.reduceSub, Array.replicate_succ, Array.replicate_zero, List.push_toArray, List.append_toArray, List.nil_append, List.cons_append]
  gi_wp2
  go_ret
  exact ⟨rfl, rfl⟩

theorem backward_stops (F : Fence) (n : Nat) (h56 : F.fn 107) (hro : F.round = none) (hn : 1 ≤ n) (Bs : Nat) (A : Option Addr) (cap : Nat) (cs : List Ch) (S : List Nat)
    (hB : Bs ∈ S) (hS : ∀ a, A = some a → a.block ∈ S) (hlen : cs.length ≤ 1000000000) (w : World) (hlt : ∀ k ∈ S, k < w.heap.size) (hBs : w.cell? ⟨Bs, 0, none⟩ = some (.slice A cs.length cap)) (hC : Chs w A cs) :
    SeqStopsK F n Tryz.prog 107 #[.pointer (some ⟨Bs, 0, none⟩)] (fun x : Nat × Ch => #[Value.int .i64 (x.1 : Int), Value.agg #[.int .i64 (x.2.1.1 : Int), .int .u64 (x.2.1.2 : Int)]]) (KeepB S) (fun ys => ys = revs cs cs.length) (fun _ => True) cs.length w :=
  fun l J Jx W hW _ _ hY h0 => by
    have hk : KeepB S w W := fun k hk => hW.block k (hlt k hk)
    exact backward1_in F n h56 hro hn l Bs A cap cs S hB hS hlen J Jx hY W (hk.cell hB hBs) (hC.keep hk hS) h0
end Go.Proofs.YtaceogpdjbikiaaGreatDoor
namespace Go.Proofs.YtaceogpdjbikiaaGreatDoor

open Go.RowKit Go.Shelf
attribute [local go_sem] Oper.semAt_some

/-- Words put one by one. -/
def redo (b : List Int) (xs : List (Nat × Ch)) : List Int := xs.foldl (fun b x => M.pv b x.2.1.1 x.2.1.2 8) b
theorem redo_snoc (b : List Int) (xs : List (Nat × Ch)) (x : Nat × Ch) : redo b (xs ++ [x]) = M.pv (redo b xs) x.2.1.1 x.2.1.2 8 := by simp [redo]
theorem redo_length (b : List Int) (xs : List (Nat × Ch)) : (redo b xs).length = b.length := by
  induction xs generalizing b with
  | nil => rfl
  | cons x xs ih => rw [redo, List.foldl_cons, ← redo, ih, M.pv_length]
theorem redo_revs (b : List Int) (cs : List Ch) (k : Nat) (hk : k ≤ cs.length) : redo b (revs cs k) = V.undo b ((cs.map (·.1)).drop (cs.length - k)) := by
  induction k with
  | zero => rw [Nat.sub_zero, List.drop_of_length_le (by simp)]; rfl
  | succ k ih =>
    rw [revs_succ, redo_snoc, ih (by omega)]
    have hlt : cs.length - (k + 1) < (cs.map (·.1)).length := by rw [List.length_map]; omega
    rw [List.drop_eq_getElem_cons hlt, V.undo_cons, show cs.length - (k + 1) + 1 = cs.length - k by omega]
    have e : cs.length - 1 - k = cs.length - (k + 1) := by omega
    simp only [e, List.getElem_map, List.getD_eq_getElem?_getD]
    rw [List.getElem?_eq_getElem (by simpa using hlt)]
    rfl
theorem lift_ch : ∀ (l : List (Nat × Nat)), (∀ c ∈ l, c.1 % 8 = 0 ∧ c.1 + 8 ≤ 64 ∧ c.2 < 2 ^ 64) → ∃ l' : List Ch, l'.map (·.1) = l
  | [], _ => ⟨[], rfl⟩
  | c :: l, h => by
    obtain ⟨l', rfl⟩ := lift_ch l (fun c hc => h c (List.mem_cons_of_mem _ hc))
    exact ⟨⟨c, h c (by simp)⟩ :: l', rfl⟩
theorem chs_of_own {w : World} {g len cap : Nat} {xs : List (Nat × Nat)} (h : w.ownsRow 0 138 2 (.slice (some ⟨g, 0, none⟩) len cap) len (overCells xs)) (k : Nat) (cs : List Ch) (hcs : cs.map (·.1) = xs.drop k) :
    Chs w (some ⟨g, k * 2, none⟩) cs := by
  refine .inr ⟨g, k * 2, rfl, fun j c hj => ?_⟩
  have h1 : (xs.drop k)[j]? = some c.1 := by rw [← hcs, List.getElem?_map, hj]; rfl
  rw [List.getElem?_drop] at h1
  obtain ⟨h2, h3⟩ := overCells_get xs (k + j) c.1 h1
  have hc := h.cells (g := g) rfl
  have h4 := hc _ _ h2
  have h5 := hc _ _ h3
  rw [Addr.add_lit] at h4 h5
  rw [show 0 + (k + j) * 2 = k * 2 + j * 2 by omega] at h4
  rw [show 0 + ((k + j) * 2 + 1) = k * 2 + j * 2 + 1 by omega] at h5
  exact ⟨h4, h5⟩
theorem keepB_putObj {S : List Nat} {n : Nat} (hS : ∀ k ∈ S, k < n) (W : World) (l : Nat) (o' : Obj) (hl : n ≤ l) : KeepB S W (W.putObj l o') := fun k hk =>
  World.putObj_heap_other (fun e => by have := hS k hk; omega)

/-- What a round of the loop in back keeps: the line with words put back, the receiver's box, all other blocks. -/
structure BackI (w : World) (L : Nat) (pre post : List Value) (l : V.Ln) (v : Value) (B : Nat) (xs : List (Nat × Ch)) (W : World) : Prop where
  line : LineAt W L pre post ⟨redo l.now xs, l.over, l.mark⟩ v
  box : Boxed W B 100 (.pointer (some ⟨L, pre.length, none⟩))
  only : Only [L] w W
  big : w.heap.size + 2 ≤ W.heap.size
theorem backI_own (w : World) (L : Nat) (pre post : List Value) (l : V.Ln) (v : Value) (B B0 : Nat) (hB0 : w.heap.size ≤ B0) : OwnFrom B0 (BackI w L pre post l v B) := fun s X Y row hs hg hr => by
  have hne : ∀ k (o : Obj), X.heap[k]? = some o → o.isCells = true → some k ≠ row := fun k o hk ho e => by
    obtain ⟨o', ho', hc⟩ := (hr k e.symm).2
    rw [hk] at ho'; cases ho'; rw [ho] at hc; cases hc
  refine ⟨⟨(hg.block L hs.line.lt (hne L _ hs.line.row rfl)).trans hs.line.row, hs.line.good, ?_, hs.line.apart⟩, hs.box.kept hg (hne B _ hs.box rfl), hs.only.grown hg (fun k e => .inr (Nat.le_trans hB0 (hr k e).1)), Nat.le_trans hs.big hg.size⟩
  refine hs.line.own.kept hg ?_
  rcases hs.line.own.2 with ⟨rfl, _⟩ | ⟨g, cap, cur, e, _, hgb, _⟩
  · exact .inl rfl
  · subst e; exact .inr (hne g _ hgb rfl)
theorem BackI.alloc {w : World} {L : Nat} {pre post : List Value} {l : V.Ln} {v : Value} {B : Nat} {xs : List (Nat × Ch)} {W : World} (h : BackI w L pre post l v B xs W) (o : Obj) : BackI w L pre post l v B xs (W.alloc o) :=
  ⟨h.line.only (F := []) ((Only.refl _ W).alloc o) (by simp) (fun _ _ => by simp), h.box.alloc o, h.only.alloc o, by have := h.big; simp; omega⟩
theorem BackI.put {w : World} {L : Nat} {pre post : List Value} {l : V.Ln} {v : Value} {B : Nat} {xs : List (Nat × Ch)} {x : Nat × Ch} {W W' : World} (h : BackI w L pre post l v B xs W) (hB : B ≠ L)
    (hl : LineAt W' L pre post ⟨M.pv (redo l.now xs) x.2.1.1 x.2.1.2 8, l.over, l.mark⟩ v) (ho : Only [L] W W') : BackI w L pre post l v B (xs ++ [x]) W' :=
  ⟨by rw [redo_snoc]; exact hl, (ho.block B h.box.lt (by simpa using hB)).trans h.box, h.only.trans' ho, Nat.le_trans h.big ho.size⟩
theorem keepsFrom_only {L B : Nat} {W W' : World} (h : Only [L] W W') (hL : ∃ o : Obj, W.heap[L]? = some o ∧ o.isCells = true) : KeepsFrom B W W' :=
  ⟨h.size, fun k o _ hk ho => (h.block k (Array.getElem?_eq_some_iff.1 hk).1 (by
    intro e
    obtain rfl := List.mem_singleton.1 e
    obtain ⟨o', ho', hc⟩ := hL
    rw [hk] at ho'; cases ho'; rw [ho] at hc; cases hc)).trans hk⟩

set_option maxRecDepth 100000 in
set_option maxHeartbeats 4000000 in
theorem ln_back_some (w : World) (L : Nat) (pre post : List Value) (l : V.Ln) (g c k : Nat) (h : LineAt w L pre post l (.slice (some ⟨g, 0, none⟩) l.over.length c)) (hk : k ≤ l.over.length) (hlc : l.over.length ≤ c) (hcm : c ≤ maxLen) (hlen : l.over.length ≤ 1000000000) :
    Calls Tryz.prog 58 #[.pointer (some ⟨L, pre.length, none⟩), .int .i64 (k : Int)] w (LnPost w L pre post (.slice (some ⟨g, 0, none⟩) l.over.length c) (l.back k)) := by
  obtain ⟨cs, hcs⟩ := lift_ch (l.over.drop k) (fun c hc => h.good.over c (List.mem_of_mem_drop hc))
  have hcl : cs.length = l.over.length - k := by have := congrArg List.length hcs; simpa using this
  have hgw : g < w.heap.size := by
    rcases h.own.2 with ⟨e, _⟩ | ⟨g', _, _, e, _, hg, _⟩
    · simp at e
    · simp at e; rw [e.1]; exact (Array.getElem?_eq_some_iff.1 hg).1
  have hgL : g ≠ L := fun e => h.apart (by rw [e]; rfl)
  obtain ⟨A, hA, HCh, HAg⟩ : ∃ A : Option Addr, (if c = k then some (⟨g, 0, none⟩ : Addr) else some ⟨g, k * 2, none⟩) = A ∧ Hid (Chs w A cs) ∧ Hid (∀ a, A = some a → a.block = g) := by
    by_cases hck : c = k
    · refine ⟨some ⟨g, 0, none⟩, by simp [hck], .inl ?_, fun a e => by cases e; rfl⟩
      exact List.eq_nil_of_length_eq_zero (by omega)
    · exact ⟨some ⟨g, k * 2, none⟩, by simp [hck], chs_of_own h.own k cs hcs, fun a e => by cases e; rfl⟩
  have hover := h.over
  have HFR := Lib.hid (fun j => h.free j)
  have hlt := h.lt
  have hkc : k ≤ c := by omega
  have HL := Lib.hid h
  have HCS := Lib.hid hcs
  have HCL := Lib.hid hcl
  have HPUT := Lib.hid (fun (W : World) (l' : V.Ln) (v : Value) (x : Ch) (h : LineAt W L pre post l' v) => ln_put W L pre post l' v x.1.1 x.1.2 h x.2.1 x.2.2.1 x.2.2.2)
  have hcm2 := hcm
  clear hcm
  unfold maxLen at hcm2
  clear h hcs hcl
  generalize hol : pre.length = o at *
  have HOL := Lib.hid hol
  clear hol
  refine (callsIn_wide (n := 6)).1 ?_
  refine callsIn_of_wp_marks Tryz.func58 rfl trivial ?_ rfl
  simp only [Tryz.ntmps58, List.size_toArray, List.length_cons, List.length_nil, Nat.reduceAdd, Nat.reduceSub, Array.replicate_succ, Array.replicate_zero, List.push_toArray, List.append_toArray, List.nil_append, List.cons_append]
  have hbox := Boxed.new w 100 (.pointer (some ⟨L, o, none⟩))
  have hbc := hbox.cell
  gi_wp2_with (refine ⟨trivial, ?_⟩; gi_at_call 88; refine (backward_in Fence.wide _ trivial rfl _ _ _ _).mono ?_; rintro e w' ⟨rfl, rfl⟩)
  have bN := Boxed.new (w.alloc (.cells #[.pointer (some ⟨L, o, none⟩)] 100)) 109 (.slice A (l.over.length - k) (c - k))
  have bB := hbox.alloc (.cells #[.slice A (l.over.length - k) (c - k)] 109)
  rw [World.size_alloc] at bN
  have hO0 : Only [L] w ((w.alloc (.cells #[.pointer (some ⟨L, o, none⟩)] 100)).alloc (.cells #[.slice A (l.over.length - k) (c - k)] 109)) := ((Only.refl [L] w).alloc _).alloc _
  have hOe : Only [] w ((w.alloc (.cells #[.pointer (some ⟨L, o, none⟩)] 100)).alloc (.cells #[.slice A (l.over.length - k) (c - k)] 109)) := ((Only.refl [] w).alloc _).alloc _
  have hB0 : Below w.heap.size w ((w.alloc (.cells #[.pointer (some ⟨L, o, none⟩)] 100)).alloc (.cells #[.slice A (l.over.length - k) (c - k)] 109)) := ((Below.refl _ w).alloc (Nat.le_refl _) _).alloc (by simp) _
  have hsz : ((w.alloc (.cells #[.pointer (some ⟨L, o, none⟩)] 100)).alloc (.cells #[.slice A (l.over.length - k) (c - k)] 109)).heap.size = w.heap.size + 2 := by simp
  obtain ⟨W0, hW0⟩ : ∃ W0, (w.alloc (.cells #[.pointer (some ⟨L, o, none⟩)] 100)).alloc (.cells #[.slice A (l.over.length - k) (c - k)] 109) = W0 := ⟨_, rfl⟩
  rw [hW0] at bN bB hO0 hOe hB0 hsz ⊢
  clear hW0 hbox hbc
  have hkS : ∀ k ∈ [w.heap.size + 1, g], k < W0.heap.size := by
    intro k hk
    simp at hk
    omega
  have hCh0 : Chs W0 A cs := HCh.out.keep (S := [g]) (fun k hk => hB0.block k (by simp at hk; omega)) (fun a e => by rw [HAg.out a e]; simp)
  have hbN := bN.cell
  rw [← HCL.out] at hbN
  have hI0 : BackI w L pre post l (.slice (some ⟨g, 0, none⟩) l.over.length c) w.heap.size [] W0 := ⟨HL.out.only hOe (by simp) (fun _ _ => by simp), by rw [HOL.out]; exact bB, hO0, by omega⟩
  refine wpIn_rangeFunc_ownH rfl (by omega) (gf := 107) (lb := #[.pointer (some ⟨w.heap.size + 1, 0, none⟩)]) rfl trivial (enters_of Tryz.func107 (by kernel_rfl) rfl)
    (backward_stops Fence.wide _ trivial rfl (by omega) (w.heap.size + 1) A (c - k) cs [w.heap.size + 1, g] (by simp) (fun a e => by rw [HAg.out a e]; simp) (by rw [HCL.out]; omega) W0 hkS hbN hCh0) KeepB.trans (fun W l' o1 o' hl _ _ _ => keepB_putObj hkS W l' o' hl) (Below.refl _ _) (fun _ => rfl)
    (BackI w L pre post l (.slice (some ⟨g, 0, none⟩) l.over.length c) w.heap.size)
    (fun _ _ _ => False)
    (backI_own w L pre post l _ _ W0.heap.size (by omega))
    (fun _ _ _ _ _ hs _ _ => hs)
    hI0
    (fun x a' W => ∃ Bx, w.heap.size + 1 < Bx ∧ W.heap[Bx]? = some (.cells #[.int .i64 (x.2.1.1 : Int), .int .u64 (x.2.1.2 : Int)] 138 (0, 0)) ∧ a' = { tmps := #[.pointer (some ⟨L, o, none⟩), .int .i64 (k : Int), .pointer (some ⟨w.heap.size, 0, none⟩), undef, undef, .pointer (some ⟨Bx, 0, none⟩), .pointer (some ⟨L, o, none⟩), .pointer (some ⟨L, o, none⟩), .pointer (some ⟨L, o + 64, none⟩), .slice (some ⟨g, 0, none⟩) l.over.length c, .int .i64 (k : Int), .slice A (l.over.length - k) (c - k), .func (.func 107) #[] #[.pointer (some ⟨w.heap.size + 1, 0, none⟩)], .int .i64 (x.1 : Int), .agg #[.int .i64 (x.2.1.1 : Int), .int .u64 (x.2.1.2 : Int)], undef, undef, undef, undef, undef, undef, undef, undef, undef, undef, undef, undef], defers := [] })
    (fun x a' _ X Y row hs hg hr => by
      obtain ⟨Bx, h1, h2, h3⟩ := hs
      exact ⟨Bx, h1, (hg.block Bx (Array.getElem?_eq_some_iff.1 h2).1 (fun e => by obtain ⟨o', ho', hc⟩ := (hr Bx e.symm).2; rw [h2] at ho'; cases ho'; cases hc)).trans h2, h3⟩)
    ?assign ?body ?done ?stop
  case assign =>
    rintro l1 pre1 x W K hi hK
    gi_wp2
    have hbig := hi.big
    exact hK _ _ ((KeepsOthers.alloc _ _).from _) (fun k hk => Below.heap_alloc W _ k (by have := hkS k hk; omega)) (hi.alloc _) ⟨W.heap.size, by omega, heap_alloc_new W _, rfl⟩
  case body =>
    rintro l1 pre1 x a' W hl ⟨r, hr⟩ hi ⟨Bx, hBx, bX, rfl⟩ hlt1
    have cB := hi.box.cell
    rw [HOL.out] at cB
    have c0 : W.cell? ⟨Bx, 0, none⟩ = some (.int .i64 (x.2.1.1 : Int)) := cell_of_row W Bx 0 _ _ _ bX
    have c1 : W.cell? ⟨Bx, 1, none⟩ = some (.int .u64 (x.2.1.2 : Int)) := cell_of_row W Bx 1 _ _ _ bX
    have HI := Lib.hid hi
    clear bX hr hi
    gi_wp2_with (refine ⟨trivial, ?_⟩; gi_at_call 89; refine (CallsIn.inRound l1 (callsIn_wide.2 (HPUT.out _ _ _ x.2 HI.out.line))).mono ?_; rintro e w' ⟨rfl, h1, h2⟩; have H1 := Lib.hid h1; have H2 := Lib.hid h2; clear h1 h2)
    have hlW := HI.out.line.lt
    have hbig := HI.out.big
    exact ⟨keepsFrom_only H2.out ⟨_, HI.out.line.row, rfl⟩, fun k hk => H2.out.block k (by simp at hk; omega) (by simp at hk ⊢; omega), HI.out.put (by omega) H1.out H2.out⟩
  case done =>
    rintro D ys W hD rfl hi hK
    gi_wp2
    have cB := hi.box.cell
    have cO := hi.line.over
    have cM := hi.line.mark
    have fO := hi.line.free (pre.length + 64)
    have fM := hi.line.free (pre.length + 65)
    rw [HOL.out] at cB cO cM fO fM
    have hne : ¬ w.heap.size = L := by omega
    have hne2 : ¬ L = w.heap.size := by omega
    have HI := Lib.hid hi
    have HK := Lib.hid hK
    clear hi hK
    gi_region
    have HF : Hid (LineAt ((W.setCell ⟨L, o + 64, none⟩ (.slice none 0 0)).setCell ⟨L, o + 65, none⟩ (.int .i64 0)) L pre post (l.back k) (.slice none 0 0) ∧ Only [L] W ((W.setCell ⟨L, o + 64, none⟩ (.slice none 0 0)).setCell ⟨L, o + 65, none⟩ (.int .i64 0))) := by
      have h := LineAt.withBoth (o := []) (m := 0) (v' := .slice none 0 0) HI.out.line.row ⟨HI.out.line.good.len, HI.out.line.good.byte, fun _ hc => by simp at hc, Nat.le_refl _⟩ (World.ownsRow_nil W 0 _ 2) (by simp [Value.ownBlock])
      rw [HOL.out] at h
      have e : l.back k = ⟨redo l.now (revs cs cs.length), [], 0⟩ := by
        rw [redo_revs _ _ _ (Nat.le_refl _), Nat.sub_self, List.drop_zero, HCS.out]
        rfl
      rw [e]
      exact h
    have hDL : D ≠ L := fun e => by
      have h1 := HK.out
      rw [e, HI.out.line.row] at h1
      cases h1
    have hK' : (((W.setCell ⟨L, o + 64, none⟩ (.slice none 0 0)).setCell ⟨L, o + 65, none⟩ (.int .i64 0)).drew).heap[D]? = some (.deferred (some [])) := by
      refine (Below.heap_setCell _ _ _ _ hDL).trans ((Below.heap_setCell _ _ _ _ hDL).trans HK.out)
    refine ⟨by simp, .inl ⟨_, _, rfl, run_takeDeferred hK', ?_⟩⟩
    have hg := grownBy_putObj' (((W.setCell ⟨L, o + 64, none⟩ (.slice none 0 0)).setCell ⟨L, o + 65, none⟩ (.int .i64 0)).drew) D (.deferred none)
    refine ⟨.tuple #[], by simp [results, Tryz.f58, go_sem], rfl, .slice none 0 0, ?_, ?_, ?_⟩
    · exact (show LineAt (((W.setCell ⟨L, o + 64, none⟩ (.slice none 0 0)).setCell ⟨L, o + 65, none⟩ (.int .i64 0)).drew) L pre post (l.back k) (.slice none 0 0) from HF.out.1.drewN 1).only (F := [D]) ((Only.refl [D] _).grown hg (fun k e => .inl (by cases e; simp))) (by simpa using fun e => hDL e.symm) (fun g hg => by simp [Value.ownBlock] at hg)
    · exact (((HI.out.only.trans' HF.out.2).drew.mono (by simp)).grown hg (fun k e => .inr (by cases e; omega)))
    · intro k hk
      simp [ownL, Value.ownBlock] at hk
  case stop =>
    rintro D c' pre1 W _ _ h _
    exact h.elim

set_option maxRecDepth 100000 in
set_option maxHeartbeats 4000000 in
theorem ln_back_none (w : World) (L : Nat) (pre post : List Value) (l : V.Ln) (h : LineAt w L pre post l (.slice none 0 0)) (h0 : l.over = []) :
    Calls Tryz.prog 58 #[.pointer (some ⟨L, pre.length, none⟩), .int .i64 0] w (LnPost w L pre post (.slice none 0 0) (l.back 0)) := by
  have HCS : Hid (([] : List Ch).map (·.1) = l.over.drop 0) := by show _ = _; rw [h0]; rfl
  have hover := h.over
  have HFR := Lib.hid (fun j => h.free j)
  have hlt := h.lt
  have HL := Lib.hid h
  have HPUT := Lib.hid (fun (W : World) (l' : V.Ln) (v : Value) (x : Ch) (h : LineAt W L pre post l' v) => ln_put W L pre post l' v x.1.1 x.1.2 h x.2.1 x.2.2.1 x.2.2.2)
  clear h h0
  generalize hol : pre.length = o at *
  have HOL := Lib.hid hol
  clear hol
  refine (callsIn_wide (n := 6)).1 ?_
  refine callsIn_of_wp_marks Tryz.func58 rfl trivial ?_ rfl
  simp only [Tryz.ntmps58, List.size_toArray, List.length_cons, List.length_nil, Nat.reduceAdd, Nat.reduceSub, Array.replicate_succ, Array.replicate_zero, List.push_toArray, List.append_toArray, List.nil_append, List.cons_append]
  have hbox := Boxed.new w 100 (.pointer (some ⟨L, o, none⟩))
  have hbc := hbox.cell
  gi_wp2_with (refine ⟨trivial, ?_⟩; gi_at_call 88; refine (backward_in Fence.wide _ trivial rfl _ _ _ _).mono ?_; rintro e w' ⟨rfl, rfl⟩)
  have bN := Boxed.new (w.alloc (.cells #[.pointer (some ⟨L, o, none⟩)] 100)) 109 (.slice none 0 0)
  have bB := hbox.alloc (.cells #[.slice none 0 0] 109)
  rw [World.size_alloc] at bN
  have hO0 : Only [L] w ((w.alloc (.cells #[.pointer (some ⟨L, o, none⟩)] 100)).alloc (.cells #[.slice none 0 0] 109)) := ((Only.refl [L] w).alloc _).alloc _
  have hOe : Only [] w ((w.alloc (.cells #[.pointer (some ⟨L, o, none⟩)] 100)).alloc (.cells #[.slice none 0 0] 109)) := ((Only.refl [] w).alloc _).alloc _
  have hB0 : Below w.heap.size w ((w.alloc (.cells #[.pointer (some ⟨L, o, none⟩)] 100)).alloc (.cells #[.slice none 0 0] 109)) := ((Below.refl _ w).alloc (Nat.le_refl _) _).alloc (by simp) _
  have hsz : ((w.alloc (.cells #[.pointer (some ⟨L, o, none⟩)] 100)).alloc (.cells #[.slice none 0 0] 109)).heap.size = w.heap.size + 2 := by simp
  obtain ⟨W0, hW0⟩ : ∃ W0, (w.alloc (.cells #[.pointer (some ⟨L, o, none⟩)] 100)).alloc (.cells #[.slice none 0 0] 109) = W0 := ⟨_, rfl⟩
  rw [hW0] at bN bB hO0 hOe hB0 hsz ⊢
  clear hW0 hbox hbc
  have hkS : ∀ k ∈ [w.heap.size + 1], k < W0.heap.size := by
    intro k hk
    simp at hk
    omega
  have hCh0 : Chs W0 none ([] : List Ch) := .inl rfl
  have hbN := bN.cell
  have hI0 : BackI w L pre post l (.slice none 0 0) w.heap.size [] W0 := ⟨HL.out.only hOe (by simp) (fun _ _ => by simp), by rw [HOL.out]; exact bB, hO0, by omega⟩
  refine wpIn_rangeFunc_ownH rfl (by omega) (gf := 107) (lb := #[.pointer (some ⟨w.heap.size + 1, 0, none⟩)]) rfl trivial (enters_of Tryz.func107 (by kernel_rfl) rfl)
    (backward_stops Fence.wide _ trivial rfl (by omega) (w.heap.size + 1) none 0 [] [w.heap.size + 1] (by simp) (fun a e => by cases e) (by simp) W0 hkS hbN hCh0) KeepB.trans (fun W l' o1 o' hl _ _ _ => keepB_putObj hkS W l' o' hl) (Below.refl _ _) (fun _ => rfl)
    (BackI w L pre post l (.slice none 0 0) w.heap.size)
    (fun _ _ _ => False)
    (backI_own w L pre post l _ _ W0.heap.size (by omega))
    (fun _ _ _ _ _ hs _ _ => hs)
    hI0
    (fun x a' W => ∃ Bx, w.heap.size + 1 < Bx ∧ W.heap[Bx]? = some (.cells #[.int .i64 (x.2.1.1 : Int), .int .u64 (x.2.1.2 : Int)] 138 (0, 0)) ∧ a' = { tmps := #[.pointer (some ⟨L, o, none⟩), .int .i64 0, .pointer (some ⟨w.heap.size, 0, none⟩), undef, undef, .pointer (some ⟨Bx, 0, none⟩), .pointer (some ⟨L, o, none⟩), .pointer (some ⟨L, o, none⟩), .pointer (some ⟨L, o + 64, none⟩), .slice none 0 0, .int .i64 0, .slice none 0 0, .func (.func 107) #[] #[.pointer (some ⟨w.heap.size + 1, 0, none⟩)], .int .i64 (x.1 : Int), .agg #[.int .i64 (x.2.1.1 : Int), .int .u64 (x.2.1.2 : Int)], undef, undef, undef, undef, undef, undef, undef, undef, undef, undef, undef, undef], defers := [] })
    (fun x a' _ X Y row hs hg hr => by
      obtain ⟨Bx, h1, h2, h3⟩ := hs
      exact ⟨Bx, h1, (hg.block Bx (Array.getElem?_eq_some_iff.1 h2).1 (fun e => by obtain ⟨o', ho', hc⟩ := (hr Bx e.symm).2; rw [h2] at ho'; cases ho'; cases hc)).trans h2, h3⟩)
    ?assign ?body ?done ?stop
  case assign =>
    rintro l1 pre1 x W K hi hK
    gi_wp2
    have hbig := hi.big
    exact hK _ _ ((KeepsOthers.alloc _ _).from _) (fun k hk => Below.heap_alloc W _ k (by have := hkS k hk; omega)) (hi.alloc _) ⟨W.heap.size, by omega, heap_alloc_new W _, rfl⟩
  case body =>
    rintro l1 pre1 x a' W hl ⟨r, hr⟩ hi ⟨Bx, hBx, bX, rfl⟩ hlt1
    have cB := hi.box.cell
    rw [HOL.out] at cB
    have c0 : W.cell? ⟨Bx, 0, none⟩ = some (.int .i64 (x.2.1.1 : Int)) := cell_of_row W Bx 0 _ _ _ bX
    have c1 : W.cell? ⟨Bx, 1, none⟩ = some (.int .u64 (x.2.1.2 : Int)) := cell_of_row W Bx 1 _ _ _ bX
    have HI := Lib.hid hi
    clear bX hr hi
    gi_wp2_with (refine ⟨trivial, ?_⟩; gi_at_call 89; refine (CallsIn.inRound l1 (callsIn_wide.2 (HPUT.out _ _ _ x.2 HI.out.line))).mono ?_; rintro e w' ⟨rfl, h1, h2⟩; have H1 := Lib.hid h1; have H2 := Lib.hid h2; clear h1 h2)
    have hlW := HI.out.line.lt
    have hbig := HI.out.big
    exact ⟨keepsFrom_only H2.out ⟨_, HI.out.line.row, rfl⟩, fun k hk => H2.out.block k (by simp at hk; omega) (by simp at hk ⊢; omega), HI.out.put (by omega) H1.out H2.out⟩
  case done =>
    rintro D ys W hD rfl hi hK
    gi_wp2
    have cB := hi.box.cell
    have cO := hi.line.over
    have cM := hi.line.mark
    have fO := hi.line.free (pre.length + 64)
    have fM := hi.line.free (pre.length + 65)
    rw [HOL.out] at cB cO cM fO fM
    have hne : ¬ w.heap.size = L := by omega
    have hne2 : ¬ L = w.heap.size := by omega
    have HI := Lib.hid hi
    have HK := Lib.hid hK
    clear hi hK
    gi_region
    have HF : Hid (LineAt ((W.setCell ⟨L, o + 64, none⟩ (.slice none 0 0)).setCell ⟨L, o + 65, none⟩ (.int .i64 0)) L pre post (l.back 0) (.slice none 0 0) ∧ Only [L] W ((W.setCell ⟨L, o + 64, none⟩ (.slice none 0 0)).setCell ⟨L, o + 65, none⟩ (.int .i64 0))) := by
      have h := LineAt.withBoth (o := []) (m := 0) (v' := .slice none 0 0) HI.out.line.row ⟨HI.out.line.good.len, HI.out.line.good.byte, fun _ hc => by simp at hc, Nat.le_refl _⟩ (World.ownsRow_nil W 0 _ 2) (by simp [Value.ownBlock])
      rw [HOL.out] at h
      have e : l.back 0 = ⟨redo l.now (revs [] 0), [], 0⟩ := by
        rw [V.Ln.back, ← HCS.out]
        rfl
      rw [e]
      exact h
    have hDL : D ≠ L := fun e => by
      have h1 := HK.out
      rw [e, HI.out.line.row] at h1
      cases h1
    have hK' : (((W.setCell ⟨L, o + 64, none⟩ (.slice none 0 0)).setCell ⟨L, o + 65, none⟩ (.int .i64 0)).drew).heap[D]? = some (.deferred (some [])) := by
      refine (Below.heap_setCell _ _ _ _ hDL).trans ((Below.heap_setCell _ _ _ _ hDL).trans HK.out)
    refine ⟨by simp, .inl ⟨_, _, rfl, run_takeDeferred hK', ?_⟩⟩
    have hg := grownBy_putObj' (((W.setCell ⟨L, o + 64, none⟩ (.slice none 0 0)).setCell ⟨L, o + 65, none⟩ (.int .i64 0)).drew) D (.deferred none)
    refine ⟨.tuple #[], by simp [results, Tryz.f58, go_sem], rfl, .slice none 0 0, ?_, ?_, ?_⟩
    · exact (show LineAt (((W.setCell ⟨L, o + 64, none⟩ (.slice none 0 0)).setCell ⟨L, o + 65, none⟩ (.int .i64 0)).drew) L pre post (l.back 0) (.slice none 0 0) from HF.out.1.drewN 1).only (F := [D]) ((Only.refl [D] _).grown hg (fun k e => .inl (by cases e; simp))) (by simpa using fun e => hDL e.symm) (fun g hg => by simp [Value.ownBlock] at hg)
    · exact (((HI.out.only.trans' HF.out.2).drew.mono (by simp)).grown hg (fun k e => .inr (by cases e; omega)))
    · intro k hk
      simp [ownL, Value.ownBlock] at hk
  case stop =>
    rintro D c' pre1 W _ _ h _
    exact h.elim

/-- A line's back. -/
theorem ln_back (w : World) (L : Nat) (pre post : List Value) (l : V.Ln) (v : Value) (k : Nat) (h : LineAt w L pre post l v) (hk : k ≤ l.over.length) (hlen : l.over.length ≤ 1000000000) :
    Calls Tryz.prog 58 #[.pointer (some ⟨L, pre.length, none⟩), .int .i64 (k : Int)] w (LnPost w L pre post v (l.back k)) := by
  have ho := h.own
  rcases ho.2 with ⟨rfl, h0⟩ | ⟨g, cap, cur, rfl, _, _, h1, h2, _⟩
  · have e : l.over = [] := List.eq_nil_of_length_eq_zero h0
    obtain rfl : k = 0 := by omega
    exact ln_back_none w L pre post l h e
  · exact ln_back_some w L pre post l g cap k h hk h1 h2 hlen
end Go.Proofs.YtaceogpdjbikiaaGreatDoor
