
/- Plain mathematics of layer 3: lines with what their stores wrote over, and what a device's calls make of them. Nothing of the program. -/
import Derived.Test.YtmelmiookkeoaaaDoorMath

namespace Go.Proofs.YtmelmiookkeoaaaDoor.V

open Go.Proofs.YtmelmiookkeoaaaDoor

/-- A line: its bytes now, the words that stores wrote over (place, word), its mark. -/
structure Ln where
  now : List Int
  over : List (Nat × Nat)
  mark : Nat
structure Ln.Good (l : Ln) : Prop where
  len : l.now.length = 64
  byte : ∀ z ∈ l.now, 0 ≤ z ∧ z ≤ 255
  over : ∀ c ∈ l.over, c.1 % 8 = 0 ∧ c.1 + 8 ≤ 64 ∧ c.2 < 2 ^ 64
  mark : l.mark ≤ l.over.length
/-- The word at a place (said by cases, so that nothing reckons it by unfolding). -/
def Ln.get (l : Ln) (a : Nat) : Nat := match l.now with
  | [] => M.gv [] a 8
  | z :: zs => M.gv (z :: zs) a 8
theorem Ln.get_eq (l : Ln) (a : Nat) : l.get a = M.gv l.now a 8 := by
  unfold Ln.get
  split <;> simp_all
def Ln.store (l : Ln) (a n : Nat) : Ln := if l.get a = n then l else { now := M.pv l.now a n 8, over := l.over ++ [(a, l.get a)], mark := l.mark }
def Ln.flush (l : Ln) : Ln := { now := l.now, over := l.over, mark := l.over.length }
def Ln.settle (l : Ln) : Ln := { now := l.now, over := l.over.drop l.mark, mark := 0 }
/-- Bytes with the words put back, the last one first. -/
def undo (b : List Int) (cs : List (Nat × Nat)) : List Int := cs.foldr (fun c b => M.pv b c.1 c.2 8) b
def Ln.back (l : Ln) (to : Nat) : Ln := { now := undo l.now (l.over.drop to), over := [], mark := 0 }
def zeroLn : Ln := { now := List.replicate 64 0, over := [], mark := 0 }

theorem undo_cons (b : List Int) (c : Nat × Nat) (cs : List (Nat × Nat)) : undo b (c :: cs) = M.pv (undo b cs) c.1 c.2 8 := rfl
theorem undo_snoc (b : List Int) (c : Nat × Nat) (cs : List (Nat × Nat)) : undo b (cs ++ [c]) = undo (M.pv b c.1 c.2 8) cs := by simp [undo]
theorem undo_length (b : List Int) (cs : List (Nat × Nat)) : (undo b cs).length = b.length := by
  induction cs with
  | nil => rfl
  | cons c cs ih => rw [undo_cons, M.pv_length, ih]
theorem undo_range {b : List Int} (h : ∀ z ∈ b, 0 ≤ z ∧ z ≤ 255) (cs : List (Nat × Nat)) : ∀ z ∈ undo b cs, 0 ≤ z ∧ z ≤ 255 := by
  induction cs with
  | nil => exact h
  | cons c cs ih => exact M.pv_range ih _ _ _
theorem Ln.Good.get_lt {l : Ln} (h : l.Good) (a : Nat) : l.get a < 2 ^ 64 := by
  have := M.gv_lt h.byte a 8
  rw [Ln.get_eq]
  omega
theorem zeroLn_good : zeroLn.Good := ⟨by simp [zeroLn], fun z hz => by simp [zeroLn] at hz; omega, fun c hc => by simp [zeroLn] at hc, by simp [zeroLn]⟩
theorem Ln.Good.store {l : Ln} (h : l.Good) {a n : Nat} (ha : a % 8 = 0) (ha2 : a + 8 ≤ 64) : (l.store a n).Good := by
  unfold Ln.store
  split
  · exact h
  · refine ⟨by rw [M.pv_length]; exact h.len, M.pv_range h.byte _ _ _, fun c hc => ?_, by have := h.mark; simp; omega⟩
    rcases List.mem_append.1 hc with hc | hc
    · exact h.over c hc
    · obtain rfl := List.mem_singleton.1 hc
      exact ⟨ha, ha2, h.get_lt a⟩
theorem Ln.Good.flush {l : Ln} (h : l.Good) : l.flush.Good := ⟨h.len, h.byte, h.over, Nat.le_refl _⟩
theorem Ln.Good.settle {l : Ln} (h : l.Good) : l.settle.Good := ⟨h.len, h.byte, fun c hc => h.over c (List.mem_of_mem_drop hc), Nat.zero_le _⟩
theorem Ln.Good.back {l : Ln} (h : l.Good) (to : Nat) : (l.back to).Good := ⟨by rw [Ln.back, undo_length]; exact h.len, undo_range h.byte _, fun c hc => by simp [Ln.back] at hc, Nat.zero_le _⟩
theorem Ln.over_store (l : Ln) (a n : Nat) : (l.store a n).over.length ≤ l.over.length + 1 := by
  unfold Ln.store
  split <;> simp

/-- A device: its lines; behind how many more it is down (-1: never, 0: it is); how many steps were done. -/
structure Dv where
  lines : List Ln
  left : Int
  steps : Nat
structure Dv.Good (d : Dv) : Prop where
  lines : ∀ l ∈ d.lines, l.Good
  some : 1 ≤ d.lines.length
  most : d.lines.length ≤ 1024
  left : -1 ≤ d.left ∧ d.left ≤ 1000000000
  over : ∀ l ∈ d.lines, l.over.length ≤ d.steps
/-- What is wrong with it, or with a place of so many bytes: the error's number. -/
def Dv.state (d : Dv) : Int := if d.left = 0 then 12 else 0
def Dv.err (d : Dv) (off size : Int) : Int := if d.left = 0 then 12 else if 0 ≤ off ∧ off < 64 * (d.lines.length : Int) ∧ off % size = 0 then 0 else 4
def Dv.done (d : Dv) : Dv := { lines := d.lines, left := if 0 < d.left then d.left - 1 else d.left, steps := d.steps + 1 }
def Dv.line (d : Dv) (i : Nat) (f : Ln → Ln) : Dv := { lines := d.lines.modify i f, left := d.left, steps := d.steps }
def Dv.at (d : Dv) (i : Nat) : Ln := d.lines[i]?.getD zeroLn
def Dv.load (d : Dv) (off : Int) : Nat := if d.err off 8 = 0 then (d.at (off.toNat / 64)).get (off.toNat % 64) else 0
def Dv.store (d : Dv) (off : Int) (n : Nat) : Dv := if d.err off 8 = 0 then (d.line (off.toNat / 64) (·.store (off.toNat % 64) n)).done else d
def Dv.flush (d : Dv) (off : Int) : Dv := if d.err off 1 = 0 then (d.line (off.toNat / 64) Ln.flush).done else d
def Dv.settle (d : Dv) : Dv := { lines := d.lines.map Ln.settle, left := d.left, steps := d.steps }
def Dv.fence (d : Dv) : Dv := if d.left = 0 then d else d.settle.done
def Dv.stop (d : Dv) (after : Int) : Dv := if d.left = 0 then d else { lines := d.lines, left := max after 0, steps := d.steps }
/-- Each line with one of its contents: the next pick, where there is a choice. -/
def crashL : List Ln → List Int → List Ln
  | [], _ => []
  | l :: ls, ps => if l.over.length = 0 then l.back 0 :: crashL ls ps else
    match ps with
    | [] => l.back 0 :: crashL ls []
    | p :: ps => l.back (p.toNat % (l.over.length + 1)) :: crashL ls ps
def Dv.crash (d : Dv) (ps : List Int) : Dv := { lines := crashL d.lines ps, left := -1, steps := d.steps }
def Dv.may (d : Dv) (i : Int) : Nat := if 0 ≤ i ∧ i < (d.lines.length : Int) then (d.at i.toNat).over.length + 1 else 0
def Dv.image (d : Dv) : List Int := d.lines.flatMap (·.now)

theorem crashL_length (ls : List Ln) (ps : List Int) : (crashL ls ps).length = ls.length := by
  induction ls generalizing ps with
  | nil => rfl
  | cons l ls ih =>
    unfold crashL
    split
    · simp [ih]
    · split <;> simp [ih]
theorem crashL_mem {ls : List Ln} {ps : List Int} {m : Ln} (h : m ∈ crashL ls ps) : ∃ l ∈ ls, ∃ k, k ≤ l.over.length ∧ m = l.back k := by
  induction ls generalizing ps with
  | nil => simp [crashL] at h
  | cons l ls ih =>
    unfold crashL at h
    split at h
    · rcases List.mem_cons.1 h with rfl | h
      · exact ⟨l, by simp, 0, Nat.zero_le _, rfl⟩
      · obtain ⟨l', h1, h2⟩ := ih h; exact ⟨l', by simp [h1], h2⟩
    · split at h
      · rcases List.mem_cons.1 h with rfl | h
        · exact ⟨l, by simp, 0, Nat.zero_le _, rfl⟩
        · obtain ⟨l', h1, h2⟩ := ih h; exact ⟨l', by simp [h1], h2⟩
      · rcases List.mem_cons.1 h with rfl | h
        · exact ⟨l, by simp, _, Nat.lt_succ_iff.1 (Nat.mod_lt _ (by omega)), rfl⟩
        · obtain ⟨l', h1, h2⟩ := ih h; exact ⟨l', by simp [h1], h2⟩
theorem mem_modify {ls : List Ln} {i : Nat} {f : Ln → Ln} {m : Ln} (h : m ∈ ls.modify i f) : ∃ l ∈ ls, m = l ∨ m = f l := by
  obtain ⟨j, hj, rfl⟩ := List.mem_iff_getElem.1 h
  rw [List.getElem_modify]
  split
  · exact ⟨_, List.getElem_mem (by simpa using hj), .inr rfl⟩
  · exact ⟨_, List.getElem_mem (by simpa using hj), .inl rfl⟩
theorem Dv.Good.done {d : Dv} (h : d.Good) : d.done.Good := by
  refine ⟨h.lines, h.some, h.most, ?_, fun l hl => Nat.le_succ_of_le (h.over l hl)⟩
  have := h.left
  unfold Dv.done
  dsimp only
  split <;> omega
/-- A step that changes one line. -/
theorem Dv.Good.step {d : Dv} (h : d.Good) (i : Nat) (f : Ln → Ln) (hf : ∀ l : Ln, l.Good → (f l).Good) (ho : ∀ l : Ln, (f l).over.length ≤ l.over.length + 1) : (d.line i f).done.Good := by
  refine ⟨fun l hl => ?_, by simpa [Dv.line, Dv.done] using h.some, by simpa [Dv.line, Dv.done] using h.most, ?_, fun l hl => ?_⟩
  · obtain ⟨l', h1, rfl | rfl⟩ := mem_modify hl
    · exact h.lines _ h1
    · exact hf _ (h.lines _ h1)
  · exact (Dv.Good.done (d := { lines := d.lines, left := d.left, steps := d.steps }) h).left
  · show l.over.length ≤ d.steps + 1
    obtain ⟨l', h1, rfl | rfl⟩ := mem_modify hl
    · exact Nat.le_succ_of_le (h.over _ h1)
    · exact Nat.le_trans (ho _) (Nat.succ_le_succ (h.over _ h1))
theorem err_zero {d : Dv} {off size : Int} (h : d.err off size = 0) : d.left ≠ 0 ∧ 0 ≤ off ∧ off < 64 * (d.lines.length : Int) ∧ off % size = 0 := by
  unfold Dv.err at h
  by_cases a : d.left = 0
  · rw [if_pos a] at h; omega
  · rw [if_neg a] at h
    by_cases b : 0 ≤ off ∧ off < 64 * (d.lines.length : Int) ∧ off % size = 0
    · exact ⟨a, b⟩
    · rw [if_neg b] at h; omega
theorem Dv.store_ok {d : Dv} {off : Int} (n : Nat) (e : d.err off 8 = 0) : d.store off n = (d.line (off.toNat / 64) (·.store (off.toNat % 64) n)).done := if_pos e
theorem Dv.store_no {d : Dv} {off : Int} (n : Nat) (e : ¬ d.err off 8 = 0) : d.store off n = d := if_neg e
theorem Dv.flush_ok {d : Dv} {off : Int} (e : d.err off 1 = 0) : d.flush off = (d.line (off.toNat / 64) Ln.flush).done := if_pos e
theorem Dv.flush_no {d : Dv} {off : Int} (e : ¬ d.err off 1 = 0) : d.flush off = d := if_neg e
theorem place_in {off : Int} (_h0 : 0 ≤ off) (h2 : off % 8 = 0) : off.toNat % 64 % 8 = 0 ∧ off.toNat % 64 + 8 ≤ 64 := by omega
theorem Dv.Good.store {d : Dv} (h : d.Good) (off : Int) (n : Nat) : (d.store off n).Good := by
  by_cases e : d.err off 8 = 0
  · rw [Dv.store_ok n e]
    have h1 := err_zero e
    have h2 := place_in h1.2.1 h1.2.2.2
    exact h.step _ _ (fun l hl => hl.store h2.1 h2.2) (fun l => l.over_store _ _)
  · rw [Dv.store_no n e]
    exact h
theorem Dv.Good.flush {d : Dv} (h : d.Good) (off : Int) : (d.flush off).Good := by
  by_cases e : d.err off 1 = 0
  · rw [Dv.flush_ok e]
    exact h.step _ _ (fun l hl => hl.flush) (fun l => Nat.le_succ _)
  · rw [Dv.flush_no e]
    exact h
theorem Dv.Good.settle {d : Dv} (h : d.Good) : d.settle.Good := by
  refine ⟨fun l hl => ?_, by simpa [Dv.settle] using h.some, by simpa [Dv.settle] using h.most, h.left, fun l hl => ?_⟩
  · obtain ⟨l', h1, rfl⟩ := List.mem_map.1 hl
    exact (h.lines _ h1).settle
  · obtain ⟨l', h1, rfl⟩ := List.mem_map.1 hl
    have := h.over _ h1
    simp only [Ln.settle, List.length_drop, Dv.settle]
    omega
theorem Dv.Good.fence {d : Dv} (h : d.Good) : d.fence.Good := by
  unfold Dv.fence
  split
  · exact h
  · exact h.settle.done
theorem Dv.Good.stop {d : Dv} (h : d.Good) (k : Int) (hk : k ≤ 1000000000) : (d.stop k).Good := by
  unfold Dv.stop
  split
  · exact h
  · exact ⟨h.lines, h.some, h.most, by dsimp only; omega, h.over⟩
theorem Dv.Good.crash {d : Dv} (h : d.Good) (ps : List Int) : (d.crash ps).Good := by
  refine ⟨fun l hl => ?_, by simpa [Dv.crash, crashL_length] using h.some, by simpa [Dv.crash, crashL_length] using h.most, by simp [Dv.crash], fun l hl => ?_⟩
  · obtain ⟨l', h1, k, _, rfl⟩ := crashL_mem hl
    exact (h.lines _ h1).back _
  · obtain ⟨l', h1, k, _, rfl⟩ := crashL_mem hl
    exact Nat.zero_le _
def newDv (n : Nat) : Dv := { lines := List.replicate n zeroLn, left := -1, steps := 0 }
theorem newDv_good {n : Nat} (h1 : 1 ≤ n) (h2 : n ≤ 1024) : (newDv n).Good :=
  ⟨fun l hl => by obtain ⟨_, rfl⟩ := List.mem_replicate.1 hl; exact zeroLn_good, by simpa [newDv] using h1, by simpa [newDv] using h2, by simp [newDv], fun l hl => by obtain ⟨_, rfl⟩ := List.mem_replicate.1 hl; simp [zeroLn, newDv]⟩
theorem Dv.Good.at {d : Dv} (h : d.Good) (i : Nat) : (d.at i).Good := by
  unfold Dv.at
  cases hi : d.lines[i]? with
  | none => exact zeroLn_good
  | some l => exact h.lines l (List.mem_of_getElem? hi)
theorem image_length {d : Dv} (h : ∀ l ∈ d.lines, l.Good) : d.image.length = 64 * d.lines.length := by
  obtain ⟨ls, left, steps⟩ := d
  simp only [Dv.image] at *
  induction ls with
  | nil => rfl
  | cons l ls ih =>
    simp only [List.flatMap_cons, List.length_append, List.length_cons]
    rw [ih (fun l hl => h l (List.mem_cons_of_mem _ hl)), (h l (by simp)).len]
    omega
theorem image_range {d : Dv} (h : ∀ l ∈ d.lines, l.Good) : ∀ z ∈ d.image, 0 ≤ z ∧ z ≤ 255 := by
  intro z hz
  obtain ⟨l, hl, hz⟩ := List.mem_flatMap.1 hz
  exact (h l hl).byte z hz
end Go.Proofs.YtmelmiookkeoaaaDoor.V
