
/- A device in memory: its head, its lines, what their stores wrote over, each in blocks apart. -/
import Derived.Test.YtmelmiookkeoaaaDoorNvLf

namespace Go.Proofs.YtmelmiookkeoaaaDoor

open Go.RowKit

def devRow (ps : List (V.Ln × Value)) : List Value := ps.flatMap fun p => lineCells p.1 p.2
def apartV (p q : V.Ln × Value) : Prop := ∀ g, p.2.ownBlock = some g → q.2.ownBlock ≠ some g
structure DevAt (w : World) (D L : Nat) (ps : List (V.Ln × Value)) (left : Int) (steps : Nat) : Prop where
  head : w.heap[D]? = some (.cells #[.slice (some ⟨L, 0, none⟩) ps.length ps.length, .int .i64 left, .int .i64 (steps : Int)] 65 (0, 0))
  row : w.heap[L]? = some (.cells (devRow ps).toArray 77 (0, 0))
  own : ∀ p ∈ ps, w.ownsRow 0 85 2 p.2 p.1.over.length (overCells p.1.over)
  good : ∀ p ∈ ps, p.1.Good
  ne : D ≠ L
  off : ∀ p ∈ ps, p.2.ownBlock ≠ some D ∧ p.2.ownBlock ≠ some L
  pair : ps.Pairwise apartV
def foot (D L : Nat) (ps : List (V.Ln × Value)) : List Nat := D :: L :: ps.flatMap fun p => ownL p.2
theorem mem_foot {D L : Nat} {ps : List (V.Ln × Value)} {k : Nat} : k ∈ foot D L ps ↔ k = D ∨ k = L ∨ ∃ p ∈ ps, p.2.ownBlock = some k := by
  simp only [foot, List.mem_cons, List.mem_flatMap, mem_ownL]
theorem devRow_append (a b : List (V.Ln × Value)) : devRow (a ++ b) = devRow a ++ devRow b := by simp [devRow]
theorem devRow_cons (p : V.Ln × Value) (b : List (V.Ln × Value)) : devRow (p :: b) = lineCells p.1 p.2 ++ devRow b := by simp [devRow]
theorem devRow_length {ps : List (V.Ln × Value)} (h : ∀ p ∈ ps, p.1.Good) : (devRow ps).length = 66 * ps.length := by
  induction ps with
  | nil => rfl
  | cons p ps ih =>
    rw [devRow_cons, List.length_append, lineCells_length (h p (by simp)).len, ih (fun q hq => h q (List.mem_cons_of_mem _ hq)), List.length_cons]
    omega
theorem owns_lt {w : World} {base e size n : Nat} {v : Value} {xs : List Value} (h : w.ownsRow base e size v n xs) {g : Nat} (hg : v.ownBlock = some g) : g < w.heap.size := (h.lt g hg).2

section

variable {w : World} {D L : Nat} {ps : List (V.Ln × Value)} {left : Int} {steps : Nat}

theorem DevAt.lt (h : DevAt w D L ps left steps) : ∀ k ∈ foot D L ps, k < w.heap.size := by
  intro k hk
  rcases mem_foot.1 hk with rfl | rfl | ⟨p, hp, hb⟩
  · exact (Array.getElem?_eq_some_iff.1 h.head).1
  · exact (Array.getElem?_eq_some_iff.1 h.row).1
  · exact owns_lt (h.own p hp) hb
theorem DevAt.ltD (h : DevAt w D L ps left steps) : D < w.heap.size := (Array.getElem?_eq_some_iff.1 h.head).1
theorem DevAt.ltL (h : DevAt w D L ps left steps) : L < w.heap.size := (Array.getElem?_eq_some_iff.1 h.row).1
/-- What touches no block of it keeps it. -/
theorem DevAt.only {w' : World} {F : List Nat} (h : DevAt w D L ps left steps) (ho : Only F w w') (hF : ∀ k ∈ F, k ∉ foot D L ps) : DevAt w' D L ps left steps := by
  have hk : ∀ k ∈ foot D L ps, w'.heap[k]? = w.heap[k]? := fun k hk => ho.block k (h.lt k hk) (fun hf => hF k hf hk)
  exact ⟨(hk D (mem_foot.2 (.inl rfl))).trans h.head, (hk L (mem_foot.2 (.inr (.inl rfl)))).trans h.row, fun p hp => owns_only (h.own p hp) ho (fun g hg hf => hF g hf (mem_foot.2 (.inr (.inr ⟨p, hp, hg⟩)))), h.good, h.ne, h.off, h.pair⟩
theorem DevAt.drewN (h : DevAt w D L ps left steps) (n : Nat) : DevAt (w.drewN n) D L ps left steps := ⟨h.head, h.row, h.own, h.good, h.ne, h.off, h.pair⟩
theorem DevAt.c0 (h : DevAt w D L ps left steps) : w.cell? ⟨D, 0, none⟩ = some (.slice (some ⟨L, 0, none⟩) ps.length ps.length) := cell_of_row w D 0 _ _ _ h.head
theorem DevAt.c1 (h : DevAt w D L ps left steps) : w.cell? ⟨D, 1, none⟩ = some (.int .i64 left) := cell_of_row w D 1 _ _ _ h.head
theorem DevAt.c2 (h : DevAt w D L ps left steps) : w.cell? ⟨D, 2, none⟩ = some (.int .i64 (steps : Int)) := cell_of_row w D 2 _ _ _ h.head
theorem DevAt.fr (h : DevAt w D L ps left steps) (j : Nat) : w.frozen? ⟨D, j, none⟩ = false := frozen_of_row w D j _ _ h.head
theorem DevAt.line {a b : List (V.Ln × Value)} {p : V.Ln × Value} (h : DevAt w D L (a ++ p :: b) left steps) : LineAt w L (devRow a) (devRow b) p.1 p.2 :=
  ⟨by rw [h.row, devRow_append, devRow_cons, List.append_assoc], h.good p (by simp), h.own p (by simp), (h.off p (by simp)).2⟩
theorem DevAt.pre {a b : List (V.Ln × Value)} (h : DevAt w D L (a ++ b) left steps) : (devRow a).length = 66 * a.length := devRow_length (fun p hp => h.good p (List.mem_append_left _ hp))
/-- A call on one line. -/
theorem DevAt.step {w' : World} {a b : List (V.Ln × Value)} {p : V.Ln × Value} {l' : V.Ln} {v' : Value} (h : DevAt w D L (a ++ p :: b) left steps)
    (hl : LineAt w' L (devRow a) (devRow b) l' v') (ho : Only (L :: ownL p.2) w w') (hv : ∀ k ∈ ownL v', k ∈ ownL p.2 ∨ w.heap.size ≤ k) :
    DevAt w' D L (a ++ (l', v') :: b) left steps ∧ Only (foot D L (a ++ p :: b)) w w' ∧ (∀ k ∈ foot D L (a ++ (l', v') :: b), k ∈ foot D L (a ++ p :: b) ∨ w.heap.size ≤ k) := by
  have hp : p ∈ a ++ p :: b := by simp
  have hoth : ∀ q, (q ∈ a ∨ q ∈ b) → q ∈ a ++ p :: b := fun q hq => by rcases hq with hq | hq <;> simp [hq]
  have hpw := h.pair
  rw [List.pairwise_append, List.pairwise_cons] at hpw
  obtain ⟨pa, ⟨pp, pb⟩, pab⟩ := hpw
  have hqp : ∀ q, (q ∈ a ∨ q ∈ b) → ∀ g, q.2.ownBlock = some g → p.2.ownBlock ≠ some g := by
    intro q hq g hg
    rcases hq with hq | hq
    · exact pab q hq p (by simp) g hg
    · exact fun e => pp q hq g e hg
  have hnew : ∀ q, (q ∈ a ∨ q ∈ b) → ∀ g, q.2.ownBlock = some g → v'.ownBlock ≠ some g := by
    intro q hq g hg e
    rcases hv g (mem_ownL.2 e) with h1 | h1
    · exact hqp q hq g hg (mem_ownL.1 h1)
    · have := owns_lt (h.own q (hoth q hq)) hg; omega
  have hD : D ∉ L :: ownL p.2 := by
    intro hm
    rcases List.mem_cons.1 hm with e | e
    · exact h.ne e
    · exact (h.off p hp).1 (mem_ownL.1 e)
  have hkeep : ∀ q, (q ∈ a ∨ q ∈ b) → ∀ g, q.2.ownBlock = some g → g ∉ L :: ownL p.2 := by
    intro q hq g hg hm
    rcases List.mem_cons.1 hm with e | e
    · exact (h.off q (hoth q hq)).2 (e ▸ hg)
    · exact hqp q hq g hg (mem_ownL.1 e)
  refine ⟨⟨?_, ?_, ?_, ?_, h.ne, ?_, ?_⟩, ho.mono ?_, ?_⟩
  · rw [ho.block D h.ltD hD, h.head]
    simp
  · rw [hl.row, devRow_append, devRow_cons, List.append_assoc]
  · intro q hq
    rcases List.mem_append.1 hq with hq | hq
    · exact owns_only (h.own q (hoth q (.inl hq))) ho (hkeep q (.inl hq))
    · rcases List.mem_cons.1 hq with rfl | hq
      · exact hl.own
      · exact owns_only (h.own q (hoth q (.inr hq))) ho (hkeep q (.inr hq))
  · intro q hq
    rcases List.mem_append.1 hq with hq | hq
    · exact h.good q (hoth q (.inl hq))
    · rcases List.mem_cons.1 hq with rfl | hq
      · exact hl.good
      · exact h.good q (hoth q (.inr hq))
  · intro q hq
    rcases List.mem_append.1 hq with hq | hq
    · exact h.off q (hoth q (.inl hq))
    · rcases List.mem_cons.1 hq with rfl | hq
      · refine ⟨fun e => ?_, hl.apart⟩
        rcases hv D (mem_ownL.2 e) with h1 | h1
        · exact (h.off p hp).1 (mem_ownL.1 h1)
        · have := h.ltD; omega
      · exact h.off q (hoth q (.inr hq))
  · rw [List.pairwise_append, List.pairwise_cons]
    refine ⟨pa, ⟨fun q hq g hg e => hnew q (.inr hq) g e hg, pb⟩, fun q hq r hr => ?_⟩
    rcases List.mem_cons.1 hr with rfl | hr
    · exact fun g hg => hnew q (.inl hq) g hg
    · exact pab q hq r (List.mem_cons_of_mem _ hr)
  · intro k hk
    rw [mem_foot]
    rcases List.mem_cons.1 hk with e | e
    · exact .inr (.inl e)
    · exact .inr (.inr ⟨p, hp, mem_ownL.1 e⟩)
  · intro k hk
    rcases mem_foot.1 hk with e | e | ⟨q, hq, e⟩
    · exact .inl (mem_foot.2 (.inl e))
    · exact .inl (mem_foot.2 (.inr (.inl e)))
    · rcases List.mem_append.1 hq with hq | hq
      · exact .inl (mem_foot.2 (.inr (.inr ⟨q, hoth q (.inl hq), e⟩)))
      · rcases List.mem_cons.1 hq with rfl | hq
        · rcases hv k (mem_ownL.2 e) with h1 | h1
          · exact .inl (mem_foot.2 (.inr (.inr ⟨p, hp, mem_ownL.1 h1⟩)))
          · exact .inr h1
        · exact .inl (mem_foot.2 (.inr (.inr ⟨q, hoth q (.inr hq), e⟩)))
/-- Another head. -/
theorem DevAt.reset {w' : World} (h : DevAt w D L ps left steps) (left' : Int) (steps' : Nat) (ho : Only [D] w w')
    (hh : w'.heap[D]? = some (.cells #[.slice (some ⟨L, 0, none⟩) ps.length ps.length, .int .i64 left', .int .i64 (steps' : Int)] 65 (0, 0))) : DevAt w' D L ps left' steps' := by
  refine ⟨hh, (ho.block L h.ltL (by simpa using fun e => h.ne e.symm)).trans h.row, fun p hp => owns_only (h.own p hp) ho (fun g hg => ?_), h.good, h.ne, h.off, h.pair⟩
  intro e
  obtain rfl := List.mem_singleton.1 e
  exact (h.off p hp).1 hg
end

/-- A device as a value: what it is by the mathematics, and its blocks. -/
def Dev (w : World) (v : Value) (d : V.Dv) (F : List Nat) : Prop :=
  ∃ D L ps, v = .pointer (some ⟨D, 0, none⟩) ∧ F = foot D L ps ∧ d.lines = ps.map (·.1) ∧ DevAt w D L ps d.left d.steps ∧ d.Good
/-- What a call that changes a device leaves. -/
def DevStep (w : World) (v : Value) (d' : V.Dv) (F : List Nat) (w' : World) : Prop :=
  ∃ F', Dev w' v d' F' ∧ Only F w w' ∧ ∀ k ∈ F', k ∈ F ∨ w.heap.size ≤ k
theorem Dev.good {w : World} {v : Value} {d : V.Dv} {F : List Nat} (h : Dev w v d F) : d.Good := by
  obtain ⟨_, _, _, _, _, _, _, hg⟩ := h; exact hg
theorem Dev.drewN {w : World} {v : Value} {d : V.Dv} {F : List Nat} (h : Dev w v d F) (n : Nat) : Dev (w.drewN n) v d F := by
  obtain ⟨D, L, ps, h1, h2, h3, h4, h5⟩ := h
  exact ⟨D, L, ps, h1, h2, h3, h4.drewN n, h5⟩
theorem Dev.lt {w : World} {v : Value} {d : V.Dv} {F : List Nat} (h : Dev w v d F) : ∀ k ∈ F, k < w.heap.size := by
  obtain ⟨D, L, ps, h1, rfl, h3, h4, h5⟩ := h
  exact h4.lt
theorem Dev.only {w w' : World} {v : Value} {d : V.Dv} {F G : List Nat} (h : Dev w v d F) (ho : Only G w w') (hG : ∀ k ∈ G, k ∉ F) : Dev w' v d F := by
  obtain ⟨D, L, ps, h1, rfl, h3, h4, h5⟩ := h
  exact ⟨D, L, ps, h1, rfl, h3, h4.only ho hG, h5⟩
theorem DevStep.same {w : World} {v : Value} {d : V.Dv} {F : List Nat} (h : Dev w v d F) (n : Nat) : DevStep w v d F (w.drewN n) := ⟨F, h.drewN n, (Only.refl _ _).drewN n, fun _ hk => .inl hk⟩
theorem DevStep.trans {w w1 w2 : World} {v : Value} {d d' : V.Dv} {F : List Nat} (h : DevStep w v d F w1) (hk : ∀ F1, Dev w1 v d F1 → DevStep w1 v d' F1 w2) : DevStep w v d' F w2 := by
  obtain ⟨F1, h1, h2, h3⟩ := h
  obtain ⟨F2, k1, k2, k3⟩ := hk F1 h1
  refine ⟨F2, k1, h2.trans k2 h3, fun k hk => ?_⟩
  rcases k3 k hk with e | e
  · exact h3 k e
  · exact .inr (Nat.le_trans h2.size e)
end Go.Proofs.YtmelmiookkeoaaaDoor
