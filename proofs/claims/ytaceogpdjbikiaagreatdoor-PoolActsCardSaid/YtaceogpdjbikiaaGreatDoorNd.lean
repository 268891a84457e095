/- NvDa: A device in memory: its head, its lines, what their stores wrote over, each in blocks apart.
NvDb: Contracts of a device's Size, state, place, lineOf and done.
NvDc: Contracts of a device's Load, Store, Flush, Stop, May, Steps.
NvDd: Contracts of a device's Fence and Image.
NvDe: Contract of a device's Image: all bytes, in new memory.
NvDf: Contract of a device's Crash.
NvDg: Contract of nvm.New; a device that no call made.
NvDh: A device of the call's own: the contracts in one form; the statements' own 'alive' and 'heavy' and 'does'.
Str: Bytes as strings. Nothing of the program's text. -/
import Derived.Test.YtaceogpdjbikiaaGreatDoorNv
import Derived.Handy
import Derived.WalkLawsBesides
import Derived.Deep.RegionLaw
import Derived.Deep.QuietTactic
import Derived.BigQuiet
import Derived.Laws.BytesArg
namespace Go.Proofs.YtaceogpdjbikiaaGreatDoor

open Go.RowKit

def devRow (ps : List (V.Ln × Value)) : List Value := ps.flatMap fun p => lineCells p.1 p.2
def apartV (p q : V.Ln × Value) : Prop := ∀ g, p.2.ownBlock = some g → q.2.ownBlock ≠ some g
structure DevAt (w : World) (D L : Nat) (ps : List (V.Ln × Value)) (left : Int) (steps : Nat) : Prop where
  head : w.heap[D]? = some (.cells #[.slice (some ⟨L, 0, none⟩) ps.length ps.length, .int .i64 left, .int .i64 (steps : Int)] 107 (0, 0))
  row : w.heap[L]? = some (.cells (devRow ps).toArray 111 (0, 0))
  own : ∀ p ∈ ps, w.ownsRow 0 138 2 p.2 p.1.over.length (overCells p.1.over)
  good : ∀ p ∈ ps, p.1.Good
  ne : D ≠ L
  off : ∀ p ∈ ps, p.2.ownBlock ≠ some D ∧ p.2.ownBlock ≠ some L
  pair : ps.Pairwise apartV
def foot (D L : Nat) (ps : List (V.Ln × Value)) : List Nat := D :: L :: ps.flatMap fun p => ownL p.2
theorem mem_foot {D L : Nat} {ps : List (V.Ln × Value)} {k : Nat} : k ∈ foot D L ps ↔ k = D ∨ k = L ∨ ∃ p ∈ ps, p.2.ownBlock = some k := by
  simp only [foot, List.mem_cons, List.mem_flatMap, mem_ownL]
theorem devRow_append (a b : List (V.Ln × Value)) : devRow (a ++ b) = devRow a ++ devRow b := by simp [devRow]
theorem devRow_cons (p : V.Ln × Value) (b : List (V.Ln × Value)) : devRow (p :: b) = lineCells p.1 p.2 ++ devRow b := by simp [devRow]
theorem devRow_length {ps : List (V.Ln × Value)} (h : ∀ p ∈ ps, p.1.Good) : (devRow ps).length = 66 * ps.length := by
  induction ps with
  | nil => rfl
  | cons p ps ih =>
    rw [devRow_cons, List.length_append, lineCells_length (h p (by simp)).len, ih (fun q hq => h q (List.mem_cons_of_mem _ hq)), List.length_cons]
    omega
theorem owns_lt {w : World} {base e size n : Nat} {v : Value} {xs : List Value} (h : w.ownsRow base e size v n xs) {g : Nat} (hg : v.ownBlock = some g) : g < w.heap.size := (h.lt g hg).2

section

variable {w : World} {D L : Nat} {ps : List (V.Ln × Value)} {left : Int} {steps : Nat}

theorem DevAt.lt (h : DevAt w D L ps left steps) : ∀ k ∈ foot D L ps, k < w.heap.size := by
  intro k hk
  rcases mem_foot.1 hk with rfl | rfl | ⟨p, hp, hb⟩
  · exact (Array.getElem?_eq_some_iff.1 h.head).1
  · exact (Array.getElem?_eq_some_iff.1 h.row).1
  · exact owns_lt (h.own p hp) hb
theorem DevAt.ltD (h : DevAt w D L ps left steps) : D < w.heap.size := (Array.getElem?_eq_some_iff.1 h.head).1
theorem DevAt.ltL (h : DevAt w D L ps left steps) : L < w.heap.size := (Array.getElem?_eq_some_iff.1 h.row).1
/-- What touches no block of it keeps it. -/
theorem DevAt.only {w' : World} {F : List Nat} (h : DevAt w D L ps left steps) (ho : Only F w w') (hF : ∀ k ∈ F, k ∉ foot D L ps) : DevAt w' D L ps left steps := by
  have hk : ∀ k ∈ foot D L ps, w'.heap[k]? = w.heap[k]? := fun k hk => ho.block k (h.lt k hk) (fun hf => hF k hf hk)
  exact ⟨(hk D (mem_foot.2 (.inl rfl))).trans h.head, (hk L (mem_foot.2 (.inr (.inl rfl)))).trans h.row, fun p hp => owns_only (h.own p hp) ho (fun g hg hf => hF g hf (mem_foot.2 (.inr (.inr ⟨p, hp, hg⟩)))), h.good, h.ne, h.off, h.pair⟩
theorem DevAt.drewN (h : DevAt w D L ps left steps) (n : Nat) : DevAt (w.drewN n) D L ps left steps := ⟨h.head, h.row, h.own, h.good, h.ne, h.off, h.pair⟩
theorem DevAt.c0 (h : DevAt w D L ps left steps) : w.cell? ⟨D, 0, none⟩ = some (.slice (some ⟨L, 0, none⟩) ps.length ps.length) := cell_of_row w D 0 _ _ _ h.head
theorem DevAt.c1 (h : DevAt w D L ps left steps) : w.cell? ⟨D, 1, none⟩ = some (.int .i64 left) := cell_of_row w D 1 _ _ _ h.head
theorem DevAt.c2 (h : DevAt w D L ps left steps) : w.cell? ⟨D, 2, none⟩ = some (.int .i64 (steps : Int)) := cell_of_row w D 2 _ _ _ h.head
theorem DevAt.fr (h : DevAt w D L ps left steps) (j : Nat) : w.frozen? ⟨D, j, none⟩ = false := frozen_of_row w D j _ _ h.head
theorem DevAt.line {a b : List (V.Ln × Value)} {p : V.Ln × Value} (h : DevAt w D L (a ++ p :: b) left steps) : LineAt w L (devRow a) (devRow b) p.1 p.2 :=
  ⟨by rw [h.row, devRow_append, devRow_cons, List.append_assoc], h.good p (by simp), h.own p (by simp), (h.off p (by simp)).2⟩
theorem DevAt.pre {a b : List (V.Ln × Value)} (h : DevAt w D L (a ++ b) left steps) : (devRow a).length = 66 * a.length := devRow_length (fun p hp => h.good p (List.mem_append_left _ hp))
/-- A call on one line. -/
theorem DevAt.step {w' : World} {a b : List (V.Ln × Value)} {p : V.Ln × Value} {l' : V.Ln} {v' : Value} (h : DevAt w D L (a ++ p :: b) left steps)
    (hl : LineAt w' L (devRow a) (devRow b) l' v') (ho : Only (L :: ownL p.2) w w') (hv : ∀ k ∈ ownL v', k ∈ ownL p.2 ∨ w.heap.size ≤ k) :
    DevAt w' D L (a ++ (l', v') :: b) left steps ∧ Only (foot D L (a ++ p :: b)) w w' ∧ (∀ k ∈ foot D L (a ++ (l', v') :: b), k ∈ foot D L (a ++ p :: b) ∨ w.heap.size ≤ k) := by
  have hp : p ∈ a ++ p :: b := by simp
  have hoth : ∀ q, (q ∈ a ∨ q ∈ b) → q ∈ a ++ p :: b := fun q hq => by rcases hq with hq | hq <;> simp [hq]
  have hpw := h.pair
  rw [List.pairwise_append, List.pairwise_cons] at hpw
  obtain ⟨pa, ⟨pp, pb⟩, pab⟩ := hpw
  have hqp : ∀ q, (q ∈ a ∨ q ∈ b) → ∀ g, q.2.ownBlock = some g → p.2.ownBlock ≠ some g := by
    intro q hq g hg
    rcases hq with hq | hq
    · exact pab q hq p (by simp) g hg
    · exact fun e => pp q hq g e hg
  have hnew : ∀ q, (q ∈ a ∨ q ∈ b) → ∀ g, q.2.ownBlock = some g → v'.ownBlock ≠ some g := by
    intro q hq g hg e
    rcases hv g (mem_ownL.2 e) with h1 | h1
    · exact hqp q hq g hg (mem_ownL.1 h1)
    · have := owns_lt (h.own q (hoth q hq)) hg; omega
  have hD : D ∉ L :: ownL p.2 := by
    intro hm
    rcases List.mem_cons.1 hm with e | e
    · exact h.ne e
    · exact (h.off p hp).1 (mem_ownL.1 e)
  have hkeep : ∀ q, (q ∈ a ∨ q ∈ b) → ∀ g, q.2.ownBlock = some g → g ∉ L :: ownL p.2 := by
    intro q hq g hg hm
    rcases List.mem_cons.1 hm with e | e
    · exact (h.off q (hoth q hq)).2 (e ▸ hg)
    · exact hqp q hq g hg (mem_ownL.1 e)
  refine ⟨⟨?_, ?_, ?_, ?_, h.ne, ?_, ?_⟩, ho.mono ?_, ?_⟩
  · rw [ho.block D h.ltD hD, h.head]
    simp
  · rw [hl.row, devRow_append, devRow_cons, List.append_assoc]
  · intro q hq
    rcases List.mem_append.1 hq with hq | hq
    · exact owns_only (h.own q (hoth q (.inl hq))) ho (hkeep q (.inl hq))
    · rcases List.mem_cons.1 hq with rfl | hq
      · exact hl.own
      · exact owns_only (h.own q (hoth q (.inr hq))) ho (hkeep q (.inr hq))
  · intro q hq
    rcases List.mem_append.1 hq with hq | hq
    · exact h.good q (hoth q (.inl hq))
    · rcases List.mem_cons.1 hq with rfl | hq
      · exact hl.good
      · exact h.good q (hoth q (.inr hq))
  · intro q hq
    rcases List.mem_append.1 hq with hq | hq
    · exact h.off q (hoth q (.inl hq))
    · rcases List.mem_cons.1 hq with rfl | hq
      · refine ⟨fun e => ?_, hl.apart⟩
        rcases hv D (mem_ownL.2 e) with h1 | h1
        · exact (h.off p hp).1 (mem_ownL.1 h1)
        · have := h.ltD; omega
      · exact h.off q (hoth q (.inr hq))
  · rw [List.pairwise_append, List.pairwise_cons]
    refine ⟨pa, ⟨fun q hq g hg e => hnew q (.inr hq) g e hg, pb⟩, fun q hq r hr => ?_⟩
    rcases List.mem_cons.1 hr with rfl | hr
    · exact fun g hg => hnew q (.inl hq) g hg
    · exact pab q hq r (List.mem_cons_of_mem _ hr)
  · intro k hk
    rw [mem_foot]
    rcases List.mem_cons.1 hk with e | e
    · exact .inr (.inl e)
    · exact .inr (.inr ⟨p, hp, mem_ownL.1 e⟩)
  · intro k hk
    rcases mem_foot.1 hk with e | e | ⟨q, hq, e⟩
    · exact .inl (mem_foot.2 (.inl e))
    · exact .inl (mem_foot.2 (.inr (.inl e)))
    · rcases List.mem_append.1 hq with hq | hq
      · exact .inl (mem_foot.2 (.inr (.inr ⟨q, hoth q (.inl hq), e⟩)))
      · rcases List.mem_cons.1 hq with rfl | hq
        · rcases hv k (mem_ownL.2 e) with h1 | h1
          · exact .inl (mem_foot.2 (.inr (.inr ⟨p, hp, mem_ownL.1 h1⟩)))
          · exact .inr h1
        · exact .inl (mem_foot.2 (.inr (.inr ⟨q, hoth q (.inr hq), e⟩)))
/-- Another head. -/
theorem DevAt.reset {w' : World} (h : DevAt w D L ps left steps) (left' : Int) (steps' : Nat) (ho : Only [D] w w')
    (hh : w'.heap[D]? = some (.cells #[.slice (some ⟨L, 0, none⟩) ps.length ps.length, .int .i64 left', .int .i64 (steps' : Int)] 107 (0, 0))) : DevAt w' D L ps left' steps' := by
  refine ⟨hh, (ho.block L h.ltL (by simpa using fun e => h.ne e.symm)).trans h.row, fun p hp => owns_only (h.own p hp) ho (fun g hg => ?_), h.good, h.ne, h.off, h.pair⟩
  intro e
  obtain rfl := List.mem_singleton.1 e
  exact (h.off p hp).1 hg
end

/-- A device as a value: what it is by the mathematics, and its blocks. -/
def Dev (w : World) (v : Value) (d : V.Dv) (F : List Nat) : Prop :=
  ∃ D L ps, v = .pointer (some ⟨D, 0, none⟩) ∧ F = foot D L ps ∧ d.lines = ps.map (·.1) ∧ DevAt w D L ps d.left d.steps ∧ d.Good
/-- What a call that changes a device leaves. -/
def DevStep (w : World) (v : Value) (d' : V.Dv) (F : List Nat) (w' : World) : Prop :=
  ∃ F', Dev w' v d' F' ∧ Only F w w' ∧ ∀ k ∈ F', k ∈ F ∨ w.heap.size ≤ k
theorem Dev.good {w : World} {v : Value} {d : V.Dv} {F : List Nat} (h : Dev w v d F) : d.Good := by
  obtain ⟨_, _, _, _, _, _, _, hg⟩ := h; exact hg
theorem Dev.drewN {w : World} {v : Value} {d : V.Dv} {F : List Nat} (h : Dev w v d F) (n : Nat) : Dev (w.drewN n) v d F := by
  obtain ⟨D, L, ps, h1, h2, h3, h4, h5⟩ := h
  exact ⟨D, L, ps, h1, h2, h3, h4.drewN n, h5⟩
theorem Dev.lt {w : World} {v : Value} {d : V.Dv} {F : List Nat} (h : Dev w v d F) : ∀ k ∈ F, k < w.heap.size := by
  obtain ⟨D, L, ps, h1, rfl, h3, h4, h5⟩ := h
  exact h4.lt
theorem Dev.only {w w' : World} {v : Value} {d : V.Dv} {F G : List Nat} (h : Dev w v d F) (ho : Only G w w') (hG : ∀ k ∈ G, k ∉ F) : Dev w' v d F := by
  obtain ⟨D, L, ps, h1, rfl, h3, h4, h5⟩ := h
  exact ⟨D, L, ps, h1, rfl, h3, h4.only ho hG, h5⟩
theorem DevStep.same {w : World} {v : Value} {d : V.Dv} {F : List Nat} (h : Dev w v d F) (n : Nat) : DevStep w v d F (w.drewN n) := ⟨F, h.drewN n, (Only.refl _ _).drewN n, fun _ hk => .inl hk⟩
theorem DevStep.trans {w w1 w2 : World} {v : Value} {d d' : V.Dv} {F : List Nat} (h : DevStep w v d F w1) (hk : ∀ F1, Dev w1 v d F1 → DevStep w1 v d' F1 w2) : DevStep w v d' F w2 := by
  obtain ⟨F1, h1, h2, h3⟩ := h
  obtain ⟨F2, k1, k2, k3⟩ := hk F1 h1
  refine ⟨F2, k1, h2.trans k2 h3, fun k hk => ?_⟩
  rcases k3 k hk with e | e
  · exact h3 k e
  · exact .inr (Nat.le_trans h2.size e)
end Go.Proofs.YtaceogpdjbikiaaGreatDoor
namespace Go.Proofs.YtaceogpdjbikiaaGreatDoor

open Go.RowKit

section

variable {w : World} {D L : Nat} {ps : List (V.Ln × Value)} {left : Int} {steps : Nat}

theorem dv_size (h : DevAt w D L ps left steps) (hn : ps.length ≤ 1024) :
    Calls Tryz.prog 66 #[.pointer (some ⟨D, 0, none⟩)] w fun e w' => e = .returned (.int .i64 (64 * ps.length : Nat)) ∧ w = w' := by
  have c0 := h.c0
  clear h
  go_enter Tryz.func66, Tryz.ntmps66
  go_wp2
  go_ret
  exact ⟨ret_int (by omega), rfl⟩

theorem dv_state (h : DevAt w D L ps left steps) (hn0 : 1 ≤ ps.length) (hn : ps.length ≤ 1024) :
    Calls Tryz.prog 56 #[.pointer (some ⟨D, 0, none⟩)] w fun e w' => e = .returned (.int .i64 (if left = 0 then 12 else 0)) ∧ w = w' := by
  have HS := Lib.hid (dv_size h hn)
  have c1 := h.c1
  have hne : (((64 * ps.length : Nat) : Int) == 0) = false := beq_eq_false_iff_ne.2 (by omega)
  clear h
  generalize 64 * ps.length = s at *
  by_cases hl : left = 0
  · rw [if_pos hl]
    subst hl
    go_enter Tryz.func56, Tryz.ntmps56
    go_wp2_with fail
    refine HS.out.mono ?_
    rintro e w' ⟨rfl, rfl⟩
    go_wp2
    go_ret
    exact ⟨rfl, rfl⟩
  · rw [if_neg hl]
    have hl2 : (left == 0) = false := by simp [hl]
    go_enter Tryz.func56, Tryz.ntmps56
    go_wp2_with fail
    refine HS.out.mono ?_
    rintro e w' ⟨rfl, rfl⟩
    go_wp2
    go_ret
    exact ⟨rfl, rfl⟩

theorem dv_place_in (h : DevAt w D L ps left steps) (hn0 : 1 ≤ ps.length) (hn : ps.length ≤ 1024) (off size : Int) (hoff : -9223372036854775808 ≤ off ∧ off ≤ 9223372036854775807) (hs : size = 1 ∨ size = 8) (hl : left ≠ 0) :
    Calls Tryz.prog 53 #[.pointer (some ⟨D, 0, none⟩), .int .i64 off, .int .i64 size] w fun e w' => e = .returned (.int .i64 (if 0 ≤ off ∧ off < 64 * (ps.length : Int) ∧ off % size = 0 then 0 else 4)) ∧ w = w' := by
  have HT := Lib.hid (dv_state h hn0 hn)
  rw [if_neg hl] at HT
  have HS := Lib.hid (dv_size h hn)
  clear h hl
  have hz : ((64 * ps.length : Nat) : Int) = 64 * (ps.length : Int) := by omega
  rw [← hz]
  have hsm : 64 * ps.length ≤ 65536 := by omega
  clear hn hn0 hz
  generalize 64 * ps.length = s at *
  rcases hs with rfl | rfl
  · by_cases h0 : 0 ≤ off
    · by_cases h1 : off < (s : Int)
      · rw [if_pos ⟨h0, h1, by omega⟩]
        go_enter Tryz.func53, Tryz.ntmps53
        go_wp2_with fail
        refine HT.out.mono ?_
        rintro e w' ⟨rfl, rfl⟩
        go_wp2_with fail
        refine HS.out.mono ?_
        rintro e w' ⟨rfl, rfl⟩
        go_wp2
        go_ret
        exact ⟨rfl, rfl⟩
      · rw [if_neg (by omega)]
        go_enter Tryz.func53, Tryz.ntmps53
        go_wp2_with fail
        refine HT.out.mono ?_
        rintro e w' ⟨rfl, rfl⟩
        go_wp2_with fail
        refine HS.out.mono ?_
        rintro e w' ⟨rfl, rfl⟩
        go_wp2
        go_ret
        exact ⟨rfl, rfl⟩
    · rw [if_neg (by omega)]
      go_enter Tryz.func53, Tryz.ntmps53
      go_wp2_with fail
      refine HT.out.mono ?_
      rintro e w' ⟨rfl, rfl⟩
      go_wp2
      go_ret
      exact ⟨rfl, rfl⟩
  · by_cases h0 : 0 ≤ off
    · by_cases h1 : off < (s : Int)
      · by_cases h8 : off % 8 = 0
        · rw [if_pos ⟨h0, h1, h8⟩]
          have H8 := Lib.hid h8
          clear h8
          go_enter Tryz.func53, Tryz.ntmps53
          go_wp2_with fail
          refine HT.out.mono ?_
          rintro e w' ⟨rfl, rfl⟩
          have hb : ((off % 8) != 0) = false := by simpa using H8.out
          go_wp2_with fail
          refine HS.out.mono ?_
          rintro e w' ⟨rfl, rfl⟩
          go_wp2
          go_ret
          exact ⟨rfl, rfl⟩
        · rw [if_neg (by omega)]
          have hb : ((off % 8) != 0) = true := by simpa using h8
          go_enter Tryz.func53, Tryz.ntmps53
          go_wp2_with fail
          refine HT.out.mono ?_
          rintro e w' ⟨rfl, rfl⟩
          go_wp2_with fail
          refine HS.out.mono ?_
          rintro e w' ⟨rfl, rfl⟩
          go_wp2
          go_ret
          exact ⟨rfl, rfl⟩
      · rw [if_neg (by omega)]
        go_enter Tryz.func53, Tryz.ntmps53
        go_wp2_with fail
        refine HT.out.mono ?_
        rintro e w' ⟨rfl, rfl⟩
        go_wp2_with fail
        refine HS.out.mono ?_
        rintro e w' ⟨rfl, rfl⟩
        go_wp2
        go_ret
        exact ⟨rfl, rfl⟩
    · rw [if_neg (by omega)]
      go_enter Tryz.func53, Tryz.ntmps53
      go_wp2_with fail
      refine HT.out.mono ?_
      rintro e w' ⟨rfl, rfl⟩
      go_wp2
      go_ret
      exact ⟨rfl, rfl⟩

theorem dv_place (h : DevAt w D L ps left steps) (hn0 : 1 ≤ ps.length) (hn : ps.length ≤ 1024) (off size : Int) (hoff : -9223372036854775808 ≤ off ∧ off ≤ 9223372036854775807) (hs : size = 1 ∨ size = 8) :
    Calls Tryz.prog 53 #[.pointer (some ⟨D, 0, none⟩), .int .i64 off, .int .i64 size] w fun e w' => e = .returned (.int .i64 (if left = 0 then 12 else if 0 ≤ off ∧ off < 64 * (ps.length : Int) ∧ off % size = 0 then 0 else 4)) ∧ w = w' := by
  by_cases hl : left = 0
  · rw [if_pos hl]
    have HT := Lib.hid (dv_state h hn0 hn)
    rw [if_pos hl] at HT
    clear h hl
    go_enter Tryz.func53, Tryz.ntmps53
    go_wp2_with fail
    refine HT.out.mono ?_
    rintro e w' ⟨rfl, rfl⟩
    go_wp2
    go_ret
    exact ⟨rfl, rfl⟩
  · rw [if_neg hl]
    exact dv_place_in h hn0 hn off size hoff hs hl

theorem dv_lineOf (h : DevAt w D L ps left steps) (hn : ps.length ≤ 1024) (t : Nat) (ht : t < 64 * ps.length) :
    Calls Tryz.prog 54 #[.pointer (some ⟨D, 0, none⟩), .int .i64 (t : Int)] w fun e w' => e = .returned (.pointer (some ⟨L, 66 * (t / 64), none⟩)) ∧ w = w' := by
  have c0 := h.c0
  clear h
  have hq : ((t : Int) / 64) = ((t / 64 : Nat) : Int) := rfl
  have hq2 : t / 64 < ps.length := by omega
  have hq3 : 66 * (t / 64) = t / 64 * 66 := Nat.mul_comm _ _
  rw [hq3]
  clear hq3
  generalize t / 64 = q at *
  have ht2 : t ≤ 65536 := by omega
  generalize ps.length = n at *
  clear ht
  go_enter Tryz.func54, Tryz.ntmps54
  go_wp2
  go_ret
  exact ⟨rfl, rfl⟩

/-- done: a step more, perhaps the last one. -/
theorem dv_done (h : DevAt w D L ps left steps) (hl : -1 ≤ left ∧ left ≤ 1000000000) (hs : steps ≤ 1000000000) :
    Calls Tryz.prog 64 #[.pointer (some ⟨D, 0, none⟩)] w fun e w' => e = .returned (.int .i64 0) ∧ DevAt w' D L ps (if 0 < left then left - 1 else left) (steps + 1) ∧ Only [D] w w' := by
  have c1 := h.c1
  have c2 := h.c2
  have f1 := h.fr 1
  have f2 := h.fr 2
  have HH := Lib.hid h
  by_cases hp : 0 < left
  · rw [if_pos hp]
    clear h
    have hb : decide ((0 : Int) < left) = true := by simpa using hp
    go_enter Tryz.func64, Tryz.ntmps64
    go_wp2
    go_ret
    have hO := (Only.setCell w ⟨D, 2, none⟩ (.int .i64 ((steps : Int) + 1))).trans' (Only.setCell (w.setCell ⟨D, 2, none⟩ (.int .i64 ((steps : Int) + 1))) ⟨D, 1, none⟩ (.int .i64 (left - 1)))
    refine ⟨rfl, HH.out.reset _ _ hO ?_, hO⟩
    have h1 := heap_setCell_same w D 2 _ _ (.int .i64 ((steps : Int) + 1)) HH.out.head
    rw [heap_setCell_same _ D 1 _ _ _ h1]
    rfl
  · rw [if_neg hp]
    clear h
    have hb : decide ((0 : Int) < left) = false := by simpa using hp
    go_enter Tryz.func64, Tryz.ntmps64
    go_wp2
    go_ret
    have hO := Only.setCell w ⟨D, 2, none⟩ (.int .i64 ((steps : Int) + 1))
    refine ⟨rfl, HH.out.reset _ _ hO ?_, hO⟩
    have h1 := heap_setCell_same w D 2 _ _ (.int .i64 ((steps : Int) + 1)) HH.out.head
    rw [h1]
    rfl
end

end Go.Proofs.YtaceogpdjbikiaaGreatDoor
namespace Go.Proofs.YtaceogpdjbikiaaGreatDoor

open Go.RowKit

theorem split_at {α : Type} (ps : List α) (i : Nat) (hi : i < ps.length) : ∃ a p b, ps = a ++ p :: b ∧ a.length = i :=
  ⟨ps.take i, ps[i], ps.drop (i + 1), by rw [← List.drop_eq_getElem_cons hi, List.take_append_drop], by rw [List.length_take]; omega⟩
theorem modify_mid (a b : List V.Ln) (l : V.Ln) (f : V.Ln → V.Ln) : (a ++ l :: b).modify a.length f = a ++ f l :: b := by
  induction a with
  | nil => rfl
  | cons x a ih => simp [ih]
theorem modify_split (a b : List (V.Ln × Value)) (p : V.Ln × Value) (f : V.Ln → V.Ln) (v' : Value) : ((a ++ p :: b).map (·.1)).modify a.length f = (a ++ (f p.1, v') :: b).map (·.1) := by
  have h := modify_mid (a.map (·.1)) (b.map (·.1)) p.1 f
  rw [List.length_map] at h
  simpa using h
theorem at_split {d : V.Dv} {a b : List (V.Ln × Value)} {p : V.Ln × Value} (h : d.lines = (a ++ p :: b).map (·.1)) : d.at a.length = p.1 := by
  rw [V.Dv.at, h, List.getElem?_map, List.getElem?_append_right (Nat.le_refl _)]
  simp

abbrev I64 (x : Int) : Prop := -9223372036854775808 ≤ x ∧ x ≤ 9223372036854775807
section

variable {w : World} {v : Value} {d : V.Dv} {F : List Nat}

theorem dev_place (D L : Nat) (ps : List (V.Ln × Value)) (hl : d.lines = ps.map (·.1)) (h : DevAt w D L ps d.left d.steps) (hg : d.Good) (off size : Int) (hoff : I64 off) (hs : size = 1 ∨ size = 8) :
    Calls Tryz.prog 53 #[.pointer (some ⟨D, 0, none⟩), .int .i64 off, .int .i64 size] w fun e w' => e = .returned (.int .i64 (d.err off size)) ∧ w = w' := by
  have e : d.lines.length = ps.length := by rw [hl, List.length_map]
  have h1 := hg.some
  have h2 := hg.most
  have := dv_place h (by omega) (by omega) off size hoff hs
  rw [← e] at this
  exact this
/-- A device, open at a place that is right. -/
theorem Dev.open (h : Dev w v d F) {off size : Int} (he : d.err off size = 0) : ∃ D L a p b t, v = .pointer (some ⟨D, 0, none⟩) ∧ F = foot D L (a ++ p :: b) ∧ d.lines = (a ++ p :: b).map (·.1) ∧ DevAt w D L (a ++ p :: b) d.left d.steps ∧
    off = ((t : Nat) : Int) ∧ a.length = t / 64 ∧ t < 64 * (a ++ p :: b).length ∧ (a ++ p :: b).length ≤ 1024 ∧ (devRow a).length = 66 * (t / 64) ∧ d.at (t / 64) = p.1 ∧ d.left ≠ 0 ∧ p.1.over.length ≤ d.steps ∧ off % size = 0 := by
  obtain ⟨D, L, ps, h1, h2, h3, h4, h5⟩ := h
  obtain ⟨k1, k2, k3, k4⟩ := V.err_zero he
  obtain ⟨t, rfl⟩ := Int.eq_ofNat_of_zero_le k2
  have hlen : d.lines.length = ps.length := by rw [h3, List.length_map]
  obtain ⟨a, p, b, rfl, ha⟩ := split_at ps (t / 64) (by omega)
  have hm := h5.most
  refine ⟨D, L, a, p, b, t, h1, h2, h3, h4, rfl, ha, by omega, by omega, by rw [h4.pre, ha], by rw [← ha]; exact at_split h3, k1, h5.over p.1 (by rw [h3]; simp), k4⟩

theorem dev_load (h : Dev w v d F) (off : Int) (hoff : I64 off) :
    Calls Tryz.prog 21 #[v, .int .i64 off] w fun e w' => e = .returned (.tuple #[.int .u64 (d.load off : Nat), .int .i64 (d.err off 8)]) ∧ ∃ m, w' = w.drewN m := by
  by_cases he : d.err off 8 = 0
  · have hg := h.good
    obtain ⟨D, L, a, p, b, t, rfl, rfl, h3, h4, rfl, ha, ht, hn, hpre, hat, hl, ho, h8⟩ := h.open he
    have HP := Lib.hid (dev_place D L _ h3 h4 hg _ 8 hoff (.inr rfl))
    have HLO := Lib.hid (dv_lineOf h4 hn t ht)
    have HLL := Lib.hid (fun (W : World) (h : LineAt W L (devRow a) (devRow b) p.1 p.2) => ln_load W L (devRow a) (devRow b) p.1 p.2 (t % 64) h (by omega) (by omega))
    rw [hpre] at HLL
    have HLA := Lib.hid h4.line
    have HV : Hid (d.load (t : Int) = p.1.get (t % 64)) := by
      show _ = _
      rw [V.Dv.load, if_pos he, Int.toNat_natCast, hat]
    rw [he] at HP ⊢
    have HE := Lib.hid he
    have hm : ((t : Int) % 64) = ((t % 64 : Nat) : Int) := rfl
    have hm2 : t % 64 < 64 := Nat.mod_lt _ (by decide)
    have ht6 : t ≤ 65536 := by omega
    clear he hg h3 h4 h hpre hat ho h8 ha hl
    generalize t % 64 = r at *
    generalize 66 * (t / 64) = o at *
    clear ht hn
    go_enter Tryz.func21, Tryz.ntmps21
    go_wp2_with fail
    refine HP.out.mono ?_
    rintro e w' ⟨rfl, rfl⟩
    go_wp2_with fail
    refine HLO.out.mono ?_
    rintro e w' ⟨rfl, rfl⟩
    go_wp2_with fail
    refine (HLL.out _ HLA.out).mono ?_
    rintro e w' ⟨rfl, m, rfl⟩
    go_wp2
    go_ret2
    exact ⟨by rw [HV.out]; rfl, _, rfl⟩
  · have HV : Hid (d.load off = 0) := by show _ = _; rw [V.Dv.load, if_neg he]
    obtain ⟨D, L, ps, rfl, rfl, h3, h4, hg⟩ := h
    have HP := Lib.hid (dev_place D L _ h3 h4 hg _ 8 hoff (.inr rfl))
    clear h3 h4 hg
    have hb : (d.err off 8 != 0) = true := by simpa using he
    generalize d.err off 8 = c at *
    clear he
    go_enter Tryz.func21, Tryz.ntmps21
    go_wp2_with fail
    refine HP.out.mono ?_
    rintro e w' ⟨rfl, rfl⟩
    go_wp2
    go_ret2
    exact ⟨by rw [HV.out]; rfl, nodraw _⟩

/-- What a call on the line of a place leaves of a device. -/
theorem dev_stepped {D L : Nat} {a b : List (V.Ln × Value)} {p : V.Ln × Value} {w1 : World} {l' : V.Ln} {e : Ending} (_h3 : d.lines = (a ++ p :: b).map (·.1)) (h4 : DevAt w D L (a ++ p :: b) d.left d.steps)
    (hp : LnPost w L (devRow a) (devRow b) p.2 l' e w1) : ∃ v', e = .returned (.tuple #[]) ∧ DevAt w1 D L (a ++ (l', v') :: b) d.left d.steps ∧ Only (foot D L (a ++ p :: b)) w w1 ∧ (∀ k ∈ foot D L (a ++ (l', v') :: b), k ∈ foot D L (a ++ p :: b) ∨ w.heap.size ≤ k) := by
  obtain ⟨he, v', k1, k2, k3⟩ := hp
  obtain ⟨j1, j2, j3⟩ := h4.step k1 k2 k3
  exact ⟨v', he, j1, j2, j3⟩

theorem dev_store (h : Dev w v d F) (off : Int) (hoff : I64 off) (n : Nat) (hn : n < 2 ^ 64) (hs : d.steps ≤ 1000000000) :
    Calls Tryz.prog 25 #[v, .int .i64 off, .int .u64 (n : Int)] w fun e w' => e = .returned (.int .i64 (d.err off 8)) ∧ DevStep w v (d.store off n) F w' := by
  by_cases he : d.err off 8 = 0
  · have hg := h.good
    have hgs := h.good.store off n
    have hll := hg.left
    obtain ⟨D, L, a, p, b, t, rfl, rfl, h3, h4, rfl, ha, ht, hn1, hpre, hat, hl, ho, h8⟩ := h.open he
    have HP := Lib.hid (dev_place D L _ h3 h4 hg _ 8 hoff (.inr rfl))
    have HLO := Lib.hid (dv_lineOf h4 hn1 t ht)
    have HLL := Lib.hid (ln_store w L (devRow a) (devRow b) p.1 p.2 (t % 64) n h4.line (by omega) (by omega) hn (by omega))
    rw [hpre] at HLL
    have HV : Hid (∀ v' w', DevAt w' D L (a ++ (p.1.store (t % 64) n, v') :: b) (if 0 < d.left then d.left - 1 else d.left) (d.steps + 1) → Dev w' (.pointer (some ⟨D, 0, none⟩)) (d.store (t : Int) n) (foot D L (a ++ (p.1.store (t % 64) n, v') :: b))) := by
      intro v' w' hd
      refine ⟨D, L, _, rfl, rfl, ?_, ?_, hgs⟩
      · rw [V.Dv.store_ok n he, Int.toNat_natCast]
        show (d.lines.modify (t / 64) _) = _
        rw [h3, ← ha]
        exact modify_split a b p _ v'
      · rw [V.Dv.store_ok n he]
        exact hd
    rw [he] at HP ⊢
    have H3 := Lib.hid h3
    have H4 := Lib.hid h4
    have hm : ((t : Int) % 64) = ((t % 64 : Nat) : Int) := rfl
    have hm2 : t % 64 < 64 := Nat.mod_lt _ (by decide)
    have ht6 : t ≤ 65536 := by omega
    clear he hg h3 h4 h hpre hat ho h8 ha hl hgs
    generalize t % 64 = r at *
    generalize 66 * (t / 64) = o at *
    clear ht hn1
    go_enter Tryz.func25, Tryz.ntmps25
    go_wp2_with fail
    refine HP.out.mono ?_
    rintro e w' ⟨rfl, rfl⟩
    go_wp2_with fail
    refine HLO.out.mono ?_
    rintro e w' ⟨rfl, rfl⟩
    go_wp2_with fail
    refine HLL.out.mono ?_
    intro e w1 hp
    obtain ⟨v', rfl, j1, j2, j3⟩ := dev_stepped H3.out H4.out hp
    have HD := Lib.hid (dv_done j1 hll hs)
    have J2 := Lib.hid j2; have J3 := Lib.hid j3
    clear hp j1 j2 j3
    go_wp2_with fail
    refine HD.out.mono ?_
    rintro e w2 ⟨rfl, k1, k2⟩
    have K1 := Lib.hid k1; have K2 := Lib.hid k2
    clear k1 k2
    go_wp2
    go_ret
    refine ⟨rfl, _, HV.out v' w2 K1.out, J2.out.trans' (K2.out.mono (fun k hk => ?_)), J3.out⟩
    rw [List.mem_singleton.1 hk]
    exact mem_foot.2 (.inl rfl)
  · have HV : Hid (d.store off n = d) := V.Dv.store_no n he
    have HD := Lib.hid h
    obtain ⟨D, L, ps, rfl, rfl, h3, h4, hg⟩ := h
    have HP := Lib.hid (dev_place D L _ h3 h4 hg _ 8 hoff (.inr rfl))
    clear h3 h4 hg
    have hb : (d.err off 8 != 0) = true := by simpa using he
    generalize d.err off 8 = c at *
    clear he
    go_enter Tryz.func25, Tryz.ntmps25
    go_wp2_with fail
    refine HP.out.mono ?_
    rintro e w' ⟨rfl, rfl⟩
    go_wp2
    go_ret
    exact ⟨rfl, by rw [HV.out]; exact DevStep.same HD.out 0⟩

theorem dev_flush (h : Dev w v d F) (off : Int) (hoff : I64 off) (hs : d.steps ≤ 1000000000) :
    Calls Tryz.prog 111 #[v, .int .i64 off] w fun e w' => e = .returned (.int .i64 (d.err off 1)) ∧ DevStep w v (d.flush off) F w' := by
  by_cases he : d.err off 1 = 0
  · have hg := h.good
    have hgs := h.good.flush off
    have hll := hg.left
    obtain ⟨D, L, a, p, b, t, rfl, rfl, h3, h4, rfl, ha, ht, hn1, hpre, hat, hl, ho, h8⟩ := h.open he
    have HP := Lib.hid (dev_place D L _ h3 h4 hg _ 1 hoff (.inl rfl))
    have HLO := Lib.hid (dv_lineOf h4 hn1 t ht)
    have HLL := Lib.hid (ln_flush w L (devRow a) (devRow b) p.1 p.2 h4.line)
    rw [hpre] at HLL
    have HV : Hid (∀ v' w', DevAt w' D L (a ++ (p.1.flush, v') :: b) (if 0 < d.left then d.left - 1 else d.left) (d.steps + 1) → Dev w' (.pointer (some ⟨D, 0, none⟩)) (d.flush (t : Int)) (foot D L (a ++ (p.1.flush, v') :: b))) := by
      intro v' w' hd
      refine ⟨D, L, _, rfl, rfl, ?_, ?_, hgs⟩
      · rw [V.Dv.flush_ok he, Int.toNat_natCast]
        show (d.lines.modify (t / 64) _) = _
        rw [h3, ← ha]
        exact modify_split a b p _ v'
      · rw [V.Dv.flush_ok he]
        exact hd
    rw [he] at HP ⊢
    have H3 := Lib.hid h3
    have H4 := Lib.hid h4
    have ht6 : t ≤ 65536 := by omega
    clear he hg h3 h4 h hpre hat ho h8 ha hl hgs
    generalize 66 * (t / 64) = o at *
    clear ht hn1
    go_enter Tryz.func111, Tryz.ntmps111
    go_wp2_with fail
    refine HP.out.mono ?_
    rintro e w' ⟨rfl, rfl⟩
    go_wp2_with fail
    refine HLO.out.mono ?_
    rintro e w' ⟨rfl, rfl⟩
    go_wp2_with fail
    refine HLL.out.mono ?_
    rintro e w1 ⟨rfl, hp1, hp2⟩
    obtain ⟨v', _, j1, j2, j3⟩ := dev_stepped H3.out H4.out (e := .returned (.tuple #[])) ⟨rfl, p.2, hp1, hp2.mono (by simp), fun k hk => .inl hk⟩
    have HD := Lib.hid (dv_done j1 hll hs)
    have J2 := Lib.hid j2; have J3 := Lib.hid j3
    clear hp1 hp2 j1 j2 j3
    go_wp2_with fail
    refine HD.out.mono ?_
    rintro e w2 ⟨rfl, k1, k2⟩
    have K1 := Lib.hid k1; have K2 := Lib.hid k2
    clear k1 k2
    go_wp2
    go_ret
    refine ⟨rfl, _, HV.out v' w2 K1.out, J2.out.trans' (K2.out.mono (fun k hk => ?_)), J3.out⟩
    rw [List.mem_singleton.1 hk]
    exact mem_foot.2 (.inl rfl)
  · have HV : Hid (d.flush off = d) := V.Dv.flush_no he
    have HD := Lib.hid h
    obtain ⟨D, L, ps, rfl, rfl, h3, h4, hg⟩ := h
    have HP := Lib.hid (dev_place D L _ h3 h4 hg _ 1 hoff (.inl rfl))
    clear h3 h4 hg
    have hb : (d.err off 1 != 0) = true := by simpa using he
    generalize d.err off 1 = c at *
    clear he
    go_enter Tryz.func111, Tryz.ntmps111
    go_wp2_with fail
    refine HP.out.mono ?_
    rintro e w' ⟨rfl, rfl⟩
    go_wp2
    go_ret
    exact ⟨rfl, by rw [HV.out]; exact DevStep.same HD.out 0⟩


theorem dev_size (h : Dev w v d F) : Calls Tryz.prog 66 #[v] w fun e w' => e = .returned (.int .i64 (64 * d.lines.length : Nat)) ∧ w = w' := by
  obtain ⟨D, L, ps, rfl, rfl, h3, h4, hg⟩ := h
  have e : d.lines.length = ps.length := by rw [h3, List.length_map]
  have h2 := hg.most
  rw [e] at h2 ⊢
  exact dv_size h4 h2

theorem dev_state (h : Dev w v d F) : Calls Tryz.prog 56 #[v] w fun e w' => e = .returned (.int .i64 d.state) ∧ w = w' := by
  obtain ⟨D, L, ps, rfl, rfl, h3, h4, hg⟩ := h
  have e : d.lines.length = ps.length := by rw [h3, List.length_map]
  have h1 := hg.some
  have h2 := hg.most
  rw [e] at h1 h2
  exact dv_state h4 h1 h2



end

end Go.Proofs.YtaceogpdjbikiaaGreatDoor
namespace Go.Proofs.YtaceogpdjbikiaaGreatDoor

open Go.RowKit

def mapUpto (f : V.Ln → V.Ln) (ls : List V.Ln) (j : Nat) : List V.Ln := (ls.take j).map f ++ ls.drop j
theorem mapUpto_zero (f : V.Ln → V.Ln) (ls : List V.Ln) : mapUpto f ls 0 = ls := by simp [mapUpto]
theorem mapUpto_all (f : V.Ln → V.Ln) (ls : List V.Ln) : mapUpto f ls ls.length = ls.map f := by simp [mapUpto]
theorem mapUpto_step {f : V.Ln → V.Ln} {ls A B : List V.Ln} {l : V.Ln} {j : Nat} (hj : j < ls.length) (h : mapUpto f ls j = A ++ l :: B) (hA : A.length = j) : mapUpto f ls (j + 1) = A ++ f l :: B ∧ l ∈ ls := by
  have hl : ((ls.take j).map f).length = A.length := by simp; omega
  obtain ⟨h1, h2⟩ := List.append_inj h hl
  rw [List.drop_eq_getElem_cons hj, List.cons.injEq] at h2
  obtain ⟨h3, h4⟩ := h2
  refine ⟨?_, by rw [← h3]; exact List.getElem_mem hj⟩
  rw [mapUpto, List.take_succ_eq_append_getElem hj, List.map_append, h1, h4, List.map_cons, List.map_nil, h3, List.append_assoc]
  rfl

/-- A device in the middle of a call that goes from line to line. -/
def Mid (w : World) (D L : Nat) (F : List Nat) (ls : List V.Ln) (left : Int) (steps : Nat) (wr : World) : Prop :=
  ∃ ps, ls = ps.map (·.1) ∧ DevAt wr D L ps left steps ∧ Only F w wr ∧ ∀ k ∈ foot D L ps, k ∈ F ∨ w.heap.size ≤ k
theorem Mid.at {w : World} {D L : Nat} {F : List Nat} {ls : List V.Ln} {left : Int} {steps : Nat} {wr : World} (h : Mid w D L F ls left steps wr) {j : Nat} (hj : j < ls.length) :
    ∃ (a : List (V.Ln × Value)) (p : V.Ln × Value) (b : List (V.Ln × Value)), ls = (a.map (·.1)) ++ p.1 :: (b.map (·.1)) ∧ a.length = j ∧ (devRow a).length = 66 * j ∧ LineAt wr L (devRow a) (devRow b) p.1 p.2 ∧ wr.cell? ⟨D, 0, none⟩ = some (.slice (some ⟨L, 0, none⟩) ls.length ls.length) ∧
      ∀ (w1 : World) (l' : V.Ln) (e : Ending), LnPost wr L (devRow a) (devRow b) p.2 l' e w1 → e = .returned (.tuple #[]) ∧ Mid w D L F ((a.map (·.1)) ++ l' :: (b.map (·.1))) left steps w1 := by
  obtain ⟨ps, rfl, h2, h3, h4⟩ := h
  rw [List.length_map] at hj
  obtain ⟨a, p, b, rfl, ha⟩ := split_at ps j hj
  refine ⟨a, p, b, by simp, ha, by rw [h2.pre, ha], h2.line, by rw [h2.c0]; simp, fun w1 l' e hp => ?_⟩
  obtain ⟨he, v', k1, k2, k3⟩ := hp
  obtain ⟨j1, j2, j3⟩ := h2.step k1 k2 k3
  refine ⟨he, a ++ (l', v') :: b, by simp, j1, h3.trans j2 h4, fun k hk => ?_⟩
  rcases j3 k hk with e | e
  · exact h4 k e
  · exact .inr (Nat.le_trans h3.size e)

section

variable {w : World} {v : Value} {d : V.Dv} {F : List Nat}

theorem dev_fence (h : Dev w v d F) (hs : d.steps ≤ 1000000000) :
    Calls Tryz.prog 98 #[v] w fun e w' => e = .returned (.int .i64 d.state) ∧ DevStep w v d.fence F w' := by
  have HT := Lib.hid (dev_state h)
  have HG := Lib.hid h.good.fence
  have HD := Lib.hid h
  by_cases hl : d.left = 0
  · have HV : Hid (d.fence = d) := by show _ = _; rw [V.Dv.fence, if_pos hl]
    have HST : Hid (d.state = 12) := by show _ = _; rw [V.Dv.state, if_pos hl]
    rw [HST.out] at HT ⊢
    clear h hl
    go_enter Tryz.func98, Tryz.ntmps98
    go_wp2_with fail
    refine HT.out.mono ?_
    rintro e w' ⟨rfl, rfl⟩
    go_wp2
    go_ret
    exact ⟨rfl, by rw [HV.out]; exact DevStep.same HD.out 0⟩
  · have HV : Hid (d.fence = d.settle.done) := by show _ = _; rw [V.Dv.fence, if_neg hl]
    have HST : Hid (d.state = 0) := by show _ = _; rw [V.Dv.state, if_neg hl]
    rw [HST.out] at HT ⊢
    have hm := h.good.most
    have hll := h.good.left
    have HO := Lib.hid h.good.over
    obtain ⟨D, L, ps, rfl, rfl, h3, h4, hg⟩ := h
    have hM : Mid w D L (foot D L ps) d.lines d.left d.steps w := ⟨ps, h3, h4, Only.refl _ _, fun k hk => .inl hk⟩
    have e : d.lines.length = ps.length := by rw [h3, List.length_map]
    have c0 := h4.c0
    rw [← e] at c0
    have HM := Lib.hid hM
    have HLL : Hid (∀ (W : World) (pre post : List Value) (l : V.Ln) (v : Value) (o : Nat), LineAt W L pre post l v → pre.length = o → l ∈ d.lines → Calls Tryz.prog 112 #[.pointer (some ⟨L, o, none⟩)] W (LnPost W L pre post v l.settle)) := by
      rintro W pre post l v _ h rfl hm
      exact ln_settle W L pre post l v h (Nat.le_trans (HO.out l hm) hs)
    have HST : Hid (∀ j A B (l : V.Ln), j < d.lines.length → mapUpto V.Ln.settle d.lines j = A ++ l :: B → A.length = j → mapUpto V.Ln.settle d.lines (j + 1) = A ++ l.settle :: B ∧ l ∈ d.lines) := fun j A B l hj h1 h2 => mapUpto_step hj h1 h2
    have HZ := Lib.hid (mapUpto_zero V.Ln.settle d.lines)
    have HA := Lib.hid (mapUpto_all V.Ln.settle d.lines)
    have HLEN : Hid (∀ j, (mapUpto V.Ln.settle d.lines j).length = d.lines.length) := fun j => by simp [mapUpto]; omega
    have HFIN : Hid (∀ w1 w2 ps2, d.lines.map V.Ln.settle = ps2.map (·.1) → DevAt w2 D L ps2 (if 0 < d.left then d.left - 1 else d.left) (d.steps + 1) → Only (foot D L ps) w w1 → Only [D] w1 w2 → (∀ k ∈ foot D L ps2, k ∈ foot D L ps ∨ w.heap.size ≤ k) → DevStep w (.pointer (some ⟨D, 0, none⟩)) d.fence (foot D L ps) w2) := by
      intro w1 w2 ps2 e1 e2 e3 e4 e5
      refine ⟨_, ⟨D, L, ps2, rfl, rfl, ?_, ?_, HG.out⟩, e3.trans' (e4.mono (fun k hk => ?_)), e5⟩
      · rw [HV.out]; exact e1
      · rw [HV.out]; exact e2
      · rw [List.mem_singleton.1 hk]; exact mem_foot.2 (.inl rfl)
    clear h3 h4 hg hl hM e
    generalize hn : d.lines.length = n at *
    have HN := Lib.hid hn
    clear hn
    go_enter Tryz.func98, Tryz.ntmps98
    go_wp2_with fail
    refine HT.out.mono ?_
    rintro e w' ⟨rfl, rfl⟩
    go_wp2_with fail
    go_loopw [4, 15] (fun _ x wr => ∃ j : Nat, j ≤ n ∧ x = .int .i64 j ∧ Mid w D L (foot D L ps) (mapUpto V.Ln.settle d.lines j) d.left d.steps wr) (fun _ x _ => n - (intOf x).toNat)
    case atStart => exact ⟨0, by omega, rfl, by rw [HZ.out]; exact HM.out⟩
    case round =>
      obtain ⟨j, hj, rfl, hmid⟩ := hrel
      by_cases hlt : j < n
      · obtain ⟨a, p, b, e1, e2, e3, hline, c0', hk⟩ := hmid.at (j := j) (by rw [HLEN.out]; exact hlt)
        rw [HLEN.out] at c0'
        obtain ⟨e4, e5⟩ := HST.out j _ _ _ hlt e1 (by rw [List.length_map]; exact e2)
        have HC := Lib.hid (HLL.out wr _ _ _ _ (j * 66) hline (by rw [e3]; omega) e5)
        have HK := Lib.hid hk
        have HE := Lib.hid e4
        clear e1 e2 e3 e4 e5 hline hk hmid
        go_wp2_with fail
        refine HC.out.mono ?_
        intro e w1 hp
        obtain ⟨rfl, hm1⟩ := HK.out w1 _ e hp
        have HM1 := Lib.hid hm1
        clear hp hm1
        go_wp2
        go_roundw
        case rel => exact ⟨j + 1, by omega, by go_num, by rw [HE.out]; exact HM1.out⟩
        case measure => simp [intOf]; omega
      · obtain rfl : j = n := by omega
        obtain ⟨ps2, e1, e2, e3, e4⟩ := hmid
        have HD := Lib.hid (dv_done e2 hll hs)
        have E1 : Hid (d.lines.map V.Ln.settle = ps2.map (·.1)) := by show _ = _; rw [← e1, ← HA.out]
        have E3 := Lib.hid e3; have E4 := Lib.hid e4
        clear e1 e2 e3 e4
        go_wp2_with fail
        refine HD.out.mono ?_
        rintro e w2 ⟨rfl, k1, k2⟩
        have K1 := Lib.hid k1; have K2 := Lib.hid k2
        clear k1 k2
        go_wp2
        go_ret
        exact ⟨rfl, HFIN.out _ w2 ps2 E1.out K1.out E3.out K2.out E4.out⟩
end

end Go.Proofs.YtaceogpdjbikiaaGreatDoor
namespace Go.Proofs.YtaceogpdjbikiaaGreatDoor

open Go.RowKit

/-- A block that is known whole reads as its numbers. -/
theorem isBytes_block' {w : World} {g : Nat} {zs : List Int} {t : TypeId} {fr : Nat × Nat} (h : w.heap[g]? = some (.cells (zs.map (Value.int .u8)).toArray t fr)) (hz : ∀ z ∈ zs, 0 ≤ z ∧ z ≤ 255) (hm : zs.length ≤ maxLen) :
    IsBytes w (.slice (some ⟨g, 0, none⟩) zs.length zs.length) zs := by
  refine ⟨_, _, rfl, Nat.le_refl _, hm, .inr ⟨g, 0, rfl, fun i hi => ?_⟩, fun z h => wf_byte (hz z h)⟩
  simp [World.cell?, h, hi]
/-- What a call leaves that hands back bytes in new memory. -/
def NewBytes (w : World) (zs : List Int) (e : Ending) (w' : World) : Prop :=
  ∃ g, e = .returned (.slice (some ⟨g, 0, none⟩) zs.length zs.length) ∧ w.heap.size ≤ g ∧ IsBytes w' (.slice (some ⟨g, 0, none⟩) zs.length zs.length) zs ∧ Below w.heap.size w w'

/-- The first lines' bytes, and zeros. -/
def imgUpto (ls : List V.Ln) (j : Nat) : List Int := (ls.take j).flatMap (·.now) ++ List.replicate (64 * (ls.length - j)) 0
theorem take_flat_length {ls : List V.Ln} (h : ∀ l ∈ ls, l.Good) (j : Nat) (hj : j ≤ ls.length) : ((ls.take j).flatMap (·.now)).length = 64 * j := by
  have h1 := V.image_length (d := { lines := ls.take j, left := 0, steps := 0 }) (fun l hl => h l (List.mem_of_mem_take hl))
  simp only [V.Dv.image, List.length_take] at h1
  rw [h1]; omega
theorem imgUpto_length {ls : List V.Ln} (h : ∀ l ∈ ls, l.Good) (j : Nat) (hj : j ≤ ls.length) : (imgUpto ls j).length = 64 * ls.length := by
  rw [imgUpto, List.length_append, take_flat_length h j hj, List.length_replicate]; omega
theorem imgUpto_zero (ls : List V.Ln) : imgUpto ls 0 = List.replicate (64 * ls.length) 0 := by simp [imgUpto]
theorem imgUpto_all (ls : List V.Ln) : imgUpto ls ls.length = ls.flatMap (·.now) := by simp [imgUpto]
theorem imgUpto_step {ls : List V.Ln} (h : ∀ l ∈ ls, l.Good) (j : Nat) (hj : j < ls.length) (l : V.Ln) (hl : ls[j]? = some l) :
    splice ((imgUpto ls j).map (Value.int .u8)) (64 * j) (l.now.map (Value.int .u8)) = (imgUpto ls (j + 1)).map (Value.int .u8) := by
  have hlen := take_flat_length h j (by omega)
  have hl2 : ls[j] = l := by rw [List.getElem?_eq_getElem hj] at hl; exact Option.some.inj hl
  have h64 : l.now.length = 64 := (h l (by rw [← hl2]; exact List.getElem_mem hj)).len
  rw [splice, imgUpto, imgUpto, List.take_succ_eq_append_getElem hj, hl2, List.flatMap_append, List.map_append, List.map_append, List.map_append]
  have h1 : ((ls.take j).flatMap (·.now) |>.map (Value.int .u8)).length = 64 * j := by rw [List.length_map, hlen]
  rw [List.take_append_of_le_length (by omega), List.take_of_length_le (by omega), List.drop_append, List.drop_of_length_le (by rw [h1]; omega), List.nil_append, h1, List.length_map, h64, List.map_replicate, List.drop_replicate, List.map_replicate]
  simp only [List.flatMap_cons, List.flatMap_nil, List.append_nil, List.append_assoc]
  rw [show 64 * (ls.length - j) - (64 * j + 64 - 64 * j) = 64 * (ls.length - (j + 1)) by omega]

section

variable {w : World} {v : Value} {d : V.Dv} {F : List Nat}


end

end Go.Proofs.YtaceogpdjbikiaaGreatDoor
namespace Go.Proofs.YtaceogpdjbikiaaGreatDoor

open Go.RowKit

theorem IsInts.only {k : IntKind} {w w' : World} {F : List Nat} {A : Option Addr} {len cap : Nat} {zs : List Int} (h : IsInts k w (.slice A len cap) zs) (ho : Only F w w') (hF : zs ≠ [] → ∀ a, A = some a → a.block ∉ F) : IsInts k w' (.slice A len cap) zs := by
  obtain ⟨a, c, e, h2, h3, h4, h5⟩ := h
  simp only [Value.slice.injEq] at e
  obtain ⟨rfl, rfl, rfl⟩ := e
  refine ⟨A, cap, rfl, h2, h3, ?_, h5⟩
  rcases h4 with rfl | ⟨b, o, rfl, hc⟩
  · exact .inl rfl
  · refine .inr ⟨b, o, rfl, fun i hi => ?_⟩
    exact (World.cell?_of_block (w := w) (a := ⟨b, o + i, none⟩) (ho.block b (World.block_lt_of_cell? w _ (hc i hi)) (hF (by intro e; subst e; simp at hi) _ rfl))).trans (hc i hi)
theorem IsInts.len' {k : IntKind} {w : World} {a : Option Addr} {len cap : Nat} {zs : List Int} (h : IsInts k w (.slice a len cap) zs) : zs.length = len ∧ len ≤ cap ∧ cap ≤ maxLen := by
  obtain ⟨a', cap', e, h1, h2, h3, h4⟩ := h
  simp only [Value.slice.injEq] at e
  obtain ⟨rfl, rfl, rfl⟩ := e
  exact ⟨rfl, h1, h2⟩
/-- Picks, the first one taken. -/
theorem picks_tail {w : World} {A : Option Addr} {len cap : Nat} {z : Int} {zs : List Int} (h : IsBytes w (.slice A len cap) (z :: zs)) :
    ∃ g o, A = some ⟨g, o, none⟩ ∧ len = zs.length + 1 ∧ len ≤ cap ∧ cap ≤ maxLen ∧ w.cell? ⟨g, o, none⟩ = some (.int .u8 z) ∧ 0 ≤ z ∧ z ≤ 255 ∧
      ∃ A', (if cap = 1 then some (⟨g, o, none⟩ : Addr) else some ⟨g, o + 1, none⟩) = A' ∧ IsBytes w (.slice A' (len - 1) (cap - 1)) zs ∧ ∀ a, A' = some a → a.block = g := by
  obtain ⟨a, c, e, h2, h3, h4, h5⟩ := h
  simp only [Value.slice.injEq, List.length_cons] at e
  obtain ⟨rfl, rfl, rfl⟩ := e
  simp only [List.length_cons] at h2
  have hr := byte_range h5 z (by simp)
  rcases h4 with h4 | ⟨b, o, rfl, hc⟩
  · cases h4
  · refine ⟨b, o, rfl, rfl, h2, h3, hc 0 (by simp), hr.1, hr.2, ?_⟩
    by_cases hcap : cap = 1
    · have hz : zs = [] := List.eq_nil_of_length_eq_zero (by omega)
      subst hz
      refine ⟨some ⟨b, o, none⟩, by simp [hcap], ⟨_, _, rfl, by simp, by omega, .inl rfl, fun _ hz => by cases hz⟩, fun a e => by cases e; rfl⟩
    · refine ⟨some ⟨b, o + 1, none⟩, by simp [hcap], ⟨_, _, rfl, by omega, by omega, .inr ⟨b, o + 1, rfl, fun i hi => ?_⟩, fun y hy => h5 y (List.mem_cons_of_mem _ hy)⟩, fun a e => by cases e; rfl⟩
      have := hc (i + 1) (by simp; omega)
      rw [show o + 1 + i = o + (i + 1) by omega, this]
      rfl

theorem crash_cons0 {l : V.Ln} (h : l.over.length = 0) (B : List V.Ln) (zs : List Int) : V.crashL (l :: B) zs = l.back 0 :: V.crashL B zs := by
  conv => lhs; unfold V.crashL
  rw [if_pos h]
theorem crash_consN {l : V.Ln} (h : ¬ l.over.length = 0) (B : List V.Ln) : V.crashL (l :: B) [] = l.back 0 :: V.crashL B [] := by
  conv => lhs; unfold V.crashL
  rw [if_neg h]
theorem crash_consP {l : V.Ln} (h : ¬ l.over.length = 0) (B : List V.Ln) (z : Int) (zs : List Int) : V.crashL (l :: B) (z :: zs) = l.back (z.toNat % (l.over.length + 1)) :: V.crashL B zs := by
  conv => lhs; unfold V.crashL
  rw [if_neg h]
theorem drop_split {ls done A B : List V.Ln} {l : V.Ln} {j : Nat} (hj : j < ls.length) (hd : done.length = j) (h : done ++ ls.drop j = A ++ l :: B) (hA : A.length = j) : done = A ∧ ls.drop j = l :: B ∧ ls.drop (j + 1) = B ∧ l ∈ ls := by
  obtain ⟨h1, h2⟩ := List.append_inj h (by omega)
  have h3 := h2
  rw [List.drop_eq_getElem_cons hj, List.cons.injEq] at h3
  exact ⟨h1, h2, h3.2, by rw [← h3.1]; exact List.getElem_mem hj⟩

theorem LnPost.of_drewN {w : World} {L : Nat} {pre post : List Value} {v : Value} {l' : V.Ln} {e : Ending} {w' : World} {m : Nat} (h : LnPost (w.drewN m) L pre post v l' e w') : LnPost w L pre post v l' e w' := by
  obtain ⟨a, v', b, c, d⟩ := h
  exact ⟨a, v', b, ⟨c.os, c.tape, c.output, c.size, c.block⟩, d⟩
/-- Where a Crash is behind j lines: what is left of the picks, what is left to do. -/
def CrashRel (w : World) (D L : Nat) (F : List Nat) (ls : List V.Ln) (steps : Nat) (zs : List Int) (j : Nat) (pv : Value) (wr : World) : Prop :=
  ∃ A len cap done zs', pv = .slice A len cap ∧ IsBytes w (.slice A len cap) zs' ∧ (zs' ≠ [] → ∀ a, A = some a → a.block ∉ F) ∧ V.crashL ls zs = done ++ V.crashL (ls.drop j) zs' ∧ done.length = j ∧ Mid w D L F (done ++ ls.drop j) (-1) steps wr

section

variable {w : World} {v : Value} {d : V.Dv} {F : List Nat}

set_option maxRecDepth 100000 in
theorem dev_crash (h : Dev w v d F) (A : Option Addr) (len cap : Nat) (zs : List Int) (hp : IsBytes w (.slice A len cap) zs) (hF : zs ≠ [] → ∀ a, A = some a → a.block ∉ F) (hs : d.steps ≤ 1000000000) :
    Calls Tryz.prog 22 #[v, .slice A len cap] w fun e w' => e = .returned (.tuple #[]) ∧ DevStep w v (d.crash zs) F w' := by
  have HT := Lib.hid (dev_state h)
  have HG := Lib.hid (h.good.crash zs)
  have hst : (d.state == 1) = false := by
    rw [V.Dv.state]
    by_cases hl : d.left = 0
    · rw [if_pos hl]; rfl
    · rw [if_neg hl]; rfl
  have hm := h.good.most
  have HO := Lib.hid h.good.over
  obtain ⟨D, L, ps, rfl, rfl, h3, h4, hg⟩ := h
  have e : d.lines.length = ps.length := by rw [h3, List.length_map]
  have c1 := h4.c1
  have f1 := h4.fr 1
  have c0 := h4.c0
  rw [← e] at c0
  have HM : Hid (Mid w D L (foot D L ps) d.lines (-1) d.steps (w.setCell ⟨D, 1, none⟩ (.int .i64 (-1)))) := by
    have hO := Only.setCell w ⟨D, 1, none⟩ (.int .i64 (-1))
    have h1 := heap_setCell_same w D 1 _ _ (.int .i64 (-1)) h4.head
    refine ⟨ps, h3, h4.reset (-1) d.steps hO (by rw [h1]; rfl), hO.mono (fun j hj => ?_), fun k hk => .inl hk⟩
    rw [List.mem_singleton.1 hj]; exact mem_foot.2 (.inl rfl)
  have HLL : Hid (∀ (W : World) (pre post : List Value) (l : V.Ln) (v : Value) (o k : Nat), LineAt W L pre post l v → pre.length = o → l ∈ d.lines → k ≤ l.over.length → Calls Tryz.prog 58 #[.pointer (some ⟨L, o, none⟩), .int .i64 (k : Int)] W (LnPost W L pre post v (l.back k))) := by
    rintro W pre post l v _ k h rfl hm hk
    exact ln_back W L pre post l v k h hk (Nat.le_trans (HO.out l hm) hs)
  have HCO : Hid (∀ (W : World) (o : Nat) (A : Option Addr) (m c : Nat), W.cell? ⟨L, o + 64, none⟩ = some (.slice A m c) → m ≤ 1000000000 → Calls Tryz.prog 57 #[.pointer (some ⟨L, o, none⟩)] W fun e w' => e = .returned (.int .i64 ((m + 1 : Nat) : Int)) ∧ W = w') := fun W o A m c h1 h2 => ln_contents W L o A m c h1 h2
  have HFIN : Hid (∀ pv w1, CrashRel w D L (foot D L ps) d.lines d.steps zs d.lines.length pv w1 → DevStep w (.pointer (some ⟨D, 0, none⟩)) (d.crash zs) (foot D L ps) w1) := by
    rintro pv w1 ⟨_, _, _, done, zs', _, _, _, h1, h2, ps2, e1, e2, e3, e4⟩
    rw [List.drop_length] at h1 e1
    rw [V.crashL, List.append_nil] at h1
    rw [List.append_nil] at e1
    exact ⟨_, ⟨D, L, ps2, rfl, rfl, by rw [← e1, ← h1]; rfl, e2, HG.out⟩, e3, e4⟩
  have HR0 : Hid (CrashRel w D L (foot D L ps) d.lines d.steps zs 0 (.slice A len cap) (w.setCell ⟨D, 1, none⟩ (.int .i64 (-1)))) := ⟨A, len, cap, [], zs, rfl, hp, hF, by simp, rfl, by simpa using HM.out⟩
  clear h3 h4 hg e hp hF HM
  generalize hn : d.lines.length = n at *
  have HN := Lib.hid hn
  clear hn
  go_enter Tryz.func22, Tryz.ntmps22
  go_wp2_with fail
  refine HT.out.mono ?_
  rintro e w' ⟨rfl, rfl⟩
  go_wp2_with fail
  go_loopw [1, 4, 5, 6, 18] (fun pv _ _ _ x wr => ∃ j : Nat, j ≤ n ∧ x = .int .i64 j ∧ CrashRel w D L (foot D L ps) d.lines d.steps zs j pv wr) (fun _ _ _ _ x _ => n - (intOf x).toNat)
  case atStart => exact ⟨0, by omega, rfl, HR0.out⟩
  case round =>
    obtain ⟨j, hj, rfl, A', len', cap', done, zs', rfl, hb, hblk, hcr, hdl, hmid⟩ := hrel
    by_cases hlt : j < n
    · obtain ⟨a, p, b, e1, e2, e3, hline, c0', hk⟩ := hmid.at (j := j) (by rw [List.length_append, List.length_drop, HN.out]; omega)
      have hll : (done ++ d.lines.drop j).length = n := by rw [List.length_append, List.length_drop, HN.out]; omega
      rw [hll] at c0'
      obtain ⟨k1, k2, k3, k4⟩ := drop_split (by rw [HN.out]; exact hlt) hdl e1 (by rw [List.length_map]; exact e2)
      have hbw : Only (foot D L ps) w wr := by obtain ⟨_, _, _, h, _⟩ := hmid; exact h
      have HBR := Lib.hid (IsInts.only hb hbw hblk)
      have hov := hline.over
      obtain ⟨Av, cv, hv, _⟩ := owns_form hline.own
      rw [hv, e3] at hov
      have hol := HO.out p.1 k4
      have HBK : Hid (∀ (m k : Nat) (q : Int), k ≤ p.1.over.length → q = (k : Int) → Calls Tryz.prog 58 #[.pointer (some ⟨L, j * 66, none⟩), .int .i64 q] (wr.drewN m) (LnPost wr L (devRow a) (devRow b) p.2 (p.1.back k))) := by
        rintro m k q hk rfl
        exact (HLL.out (wr.drewN m) _ _ _ _ (j * 66) k (hline.drewN m) (by rw [e3]; omega) k4 hk).mono (fun e w1 h => h.of_drewN)
      have HC := Lib.hid (fun (W : World) h => HCO.out W (j * 66) Av p.1.over.length cv h (by omega))
      have HT : Hid (66 * j = j * 66) := Nat.mul_comm _ _
      rw [HT.out] at hov
      have HK := Lib.hid hk
      have HNX : Hid (∀ l' w1 A2 len2 cap2 zs2 e, IsBytes w (.slice A2 len2 cap2) zs2 → (zs2 ≠ [] → ∀ a, A2 = some a → a.block ∉ foot D L ps) → V.crashL (p.1 :: b.map (·.1)) zs' = l' :: V.crashL (b.map (·.1)) zs2 → LnPost wr L (devRow a) (devRow b) p.2 l' e w1 → CrashRel w D L (foot D L ps) d.lines d.steps zs (j + 1) (.slice A2 len2 cap2) w1) := by
        intro l' w1 A2 len2 cap2 zs2 e i1 i2 i3 i4
        refine ⟨A2, len2, cap2, done ++ [l'], zs2, rfl, i1, i2, ?_, by simp [hdl], ?_⟩
        · rw [hcr, k2, i3, k3, List.append_assoc]; rfl
        · have := (HK.out w1 l' e i4).2
          rw [k3, List.append_assoc, k1]
          exact this
      have HB := Lib.hid hb
      have HBL := Lib.hid hblk
      clear e1 e2 e3 k1 k2 k3 k4 hline hk hmid hbw hblk hb hcr hdl hll hv
      have hn1 : j + 1 ≤ n := by omega
      by_cases h0 : p.1.over.length = 0
      · have HN0 := Lib.hid (fun w1 e => HNX.out (p.1.back 0) w1 A' len' cap' zs' e HB.out HBL.out (crash_cons0 h0 _ _))
        have HB0 := Lib.hid (HBK.out 0 0 0 (Nat.zero_le _) rfl)
        rw [h0] at HC
        simp only [Nat.zero_add, Int.natCast_one] at HC
        rw [h0] at hov
        clear h0 hol HBK HNX HBR
        go_wp2_with fail
        refine (HC.out _ hov).mono ?_
        rintro e w' ⟨rfl, rfl⟩
        go_wp2_with fail
        refine (HC.out _ hov).mono ?_
        rintro e w' ⟨rfl, rfl⟩
        go_wp2_with fail
        refine HB0.out.mono ?_
        intro e w1 hp
        have HR := Lib.hid (HN0.out w1 e hp)
        obtain ⟨rfl, _⟩ := hp
        go_wp2
        go_roundw
        case rel => exact ⟨j + 1, hn1, by go_num, HR.out⟩
        case measure => simp [intOf]; omega
      · have HM0 := Lib.hid h0
        obtain ⟨c, hc⟩ : ∃ c : Nat, c = p.1.over.length + 1 := ⟨_, rfl⟩
        have HCC := Lib.hid hc
        rw [← hc] at HC
        have hc2 : 2 ≤ c := by omega
        have hc9 : c ≤ 1000000001 := by omega
        clear h0 hol hc
        obtain ⟨hz1, hz2, hz3⟩ := HBR.out.len'
        cases zs' with
        | nil =>
          have HN0 := Lib.hid (fun w1 e => HNX.out (p.1.back 0) w1 A' len' cap' [] e HB.out HBL.out (crash_consN HM0.out _))
          have HB0 := Lib.hid (HBK.out 0 0 0 (Nat.zero_le _) rfl)
          simp only [List.length_nil] at hz1
          subst hz1
          clear HBK HNX HBR HB HBL
          go_wp2_with fail
          refine (HC.out _ hov).mono ?_
          rintro e w' ⟨rfl, rfl⟩
          go_wp2_with fail
          refine (HC.out _ hov).mono ?_
          rintro e w' ⟨rfl, rfl⟩
          go_wp2_with fail
          refine HB0.out.mono ?_
          intro e w1 hp
          have HR := Lib.hid (HN0.out w1 e hp)
          obtain ⟨rfl, _⟩ := hp
          go_wp2
          go_roundw
          case rel => exact ⟨j + 1, hn1, by go_num, HR.out⟩
          case measure => simp [intOf]; omega
        | cons z zs2 =>
          obtain ⟨g, o, rfl, hlen, hlc, hcm, _, hr0, hr1, A2, hA2, hT2, hg2⟩ := picks_tail HB.out
          obtain ⟨g', o', e, _, _, _, hcell, _⟩ := picks_tail HBR.out
          simp only [Option.some.injEq, Addr.mk.injEq, and_true] at e
          obtain ⟨rfl, rfl⟩ := e
          obtain ⟨k, rfl⟩ := Int.eq_ofNat_of_zero_le hr0
          have HN0 := Lib.hid (fun w1 e => HNX.out (p.1.back (k % c)) w1 A2 (len' - 1) (cap' - 1) zs2 e hT2 (fun _ a e => by rw [hg2 a e]; exact HBL.out (by simp) _ rfl) (by rw [crash_consP HM0.out, HCC.out]; rfl))
          have HB0 := Lib.hid (fun m => HBK.out m (k % c) ((k % c : Nat) : Int) (by have := Nat.mod_lt k (show 0 < c by omega); have := HCC.out; omega) rfl)
          have hmod : ((k : Int) % (c : Int)) = ((k % c : Nat) : Int) := rfl
          have hmod2 : IntKind.i64.wrap ((k : Int).tmod (c : Int)) = ((k % c : Nat) : Int) := by
            rw [Int.tmod_eq_emod_of_nonneg (by omega), IntWalk.i64_in _ (by have := Nat.mod_lt k (show 0 < c by omega); omega)]; rfl
          have hl0 : (0 : Int) < (len' : Int) := by omega
          have hl1 : (1 : Int) ≤ (len' : Int) := by omega
          have hl2 : 1 ≤ len' := by omega
          have hl3 : 0 < len' := by omega
          have hc0 : 1 ≤ cap' := by omega
          have HLE : Hid (len' - 1 = zs2.length) := by show _ = _; omega
          unfold maxLen at hcm
          clear HBK HNX HBR HB HBL hT2 hg2 hz1 hlen
          generalize k % c = r at *
          go_wp2_with fail
          refine (HC.out _ hov).mono ?_
          rintro e w' ⟨rfl, rfl⟩
          go_wp2_with fail
          go_quiet (fail)
          go_wp2_with fail
          refine (HC.out _ (by exact hov)).mono ?_
          rintro e w' ⟨rfl, rfl⟩
          go_wp2_with fail
          refine (HB0.out _).mono ?_
          intro e w1 hp
          have HR := Lib.hid (HN0.out w1 e hp)
          obtain ⟨rfl, _⟩ := hp
          go_wp2
          go_roundw
          case rel => exact ⟨j + 1, hn1, by go_num, by have h := HR.out; rw [HLE.out] at h; exact h⟩
          case measure => simp [intOf]; omega
    · obtain rfl : j = n := by omega
      have HR := Lib.hid (HFIN.out (.slice A' len' cap') wr ⟨A', len', cap', done, zs', rfl, hb, hblk, hcr, hdl, hmid⟩)
      clear hb hblk hcr hdl hmid
      go_wp2
      go_end0
      exact ⟨rfl, HR.out⟩
end

end Go.Proofs.YtaceogpdjbikiaaGreatDoor
namespace Go.Proofs.YtaceogpdjbikiaaGreatDoor

open Go.RowKit

def zeroLine : List Value := lineCells V.zeroLn (.slice none 0 0)
def zLine : Array Value := Array.replicate 64 (Value.int .u8 0) ++ #[Value.slice none 0 0, Value.int .i64 0]
theorem info_line : (Tryz.prog.info? 111).map (fun i => (i.zero, i.size, i.bytes)) = some (some (.agg zLine), 66, 96) := by kernel_rfl
theorem zLine_list : zLine.toList = zeroLine := by
  simp [zLine, zeroLine, lineCells, V.zeroLn]
theorem zLine_size : zLine.size = 66 := by simp [zLine]

theorem madeCells_succ (z : Array Value) (n : Nat) : (madeCells z ((n + 1) * z.size)).toList = (madeCells z (n * z.size)).toList ++ z.toList := by
  simp only [madeCells, Array.toList_map, Array.toList_range]
  rw [Nat.succ_mul, List.range_add, List.map_append, List.map_map]
  congr 1
  apply List.ext_getElem
  · simp
  · intro i h1 h2
    have hi : i < z.size := by simpa using h2
    simp only [List.getElem_map, List.getElem_range, Function.comp_apply, Array.getElem_toList]
    rw [Nat.add_comm, Nat.add_mul_mod_self_right, Nat.mod_eq_of_lt hi]
    exact getElem!_pos z i hi
theorem made_devRow (z : Array Value) (hz : z.toList = zeroLine) (n : Nat) : (madeCells z (n * z.size)).toList = devRow (List.replicate n (V.zeroLn, .slice none 0 0)) := by
  induction n with
  | zero => simp [madeCells, devRow]
  | succ n ih =>
    rw [madeCells_succ, ih, hz, List.replicate_succ', devRow_append]
    simp [devRow, zeroLine]
theorem heap_of_made {w : World} {base e size : Nat} {g n : Nat} {xs : List Value} (h : w.ownsRow base e size (.slice (some ⟨g, 0, none⟩) n n) n xs) :
    w.heap[g]? = some (.cells xs.toArray e (0, 0)) := by
  rcases h.2 with ⟨h', _⟩ | ⟨g', cap', cur, h', _, hg, h1, h2, h3, h4⟩
  · simp at h'
  · simp only [Value.slice.injEq, Option.some.injEq, Addr.mk.injEq, and_true, true_and] at h'
    obtain ⟨rfl, rfl⟩ := h'
    rw [hg, ← h4, List.take_of_length_le (by simp [h3])]

/-- What New leaves: a device in new memory. -/
def NewDev (w : World) (d : V.Dv) (e : Ending) (w' : World) : Prop :=
  ∃ v F, e = .returned v ∧ Dev w' v d F ∧ Below w.heap.size w w' ∧ ∀ k ∈ F, w.heap.size ≤ k

set_option maxRecDepth 100000 in
theorem dev_new (n : Nat) (h1 : 1 ≤ n) (h2 : n ≤ 1024) (w : World) : Calls Tryz.prog 27 #[.int .i64 (n : Int)] w (NewDev w (V.newDv n)) := by
  obtain ⟨i0, hi, hz0, hz1, hz2⟩ := info_parts info_line
  have hg0 := V.newDv_good h1 h2
  have HG := Lib.hid hg0
  clear hg0
  go_enter Tryz.func27, Tryz.ntmps27
  go_wp2_with (at_make; refine wpList_make_full _ rfl _ _ 105 rfl w.heap.size 111 i0 _ 66 Tryz.underlying105 hi hz0 hz1 .i64 .i64 n n n rfl rfl rfl rfl (by rw [hz2]; omega) (by unfold maxLen; omega) (by simp) ?_)
  intro w1 hown hgr
  have hrow := heap_of_made hown
  rw [show n * 66 = n * zLine.size by rw [zLine_size], made_devRow zLine zLine_list n] at hrow
  have HB : Hid (Below w.heap.size w w1) := (Below.refl _ _).grown hgr (Nat.le_refl _) (fun k hk => by cases hk)
  have HR := Lib.hid hrow
  have hlt : w.heap.size < w1.heap.size := (Array.getElem?_eq_some_iff.1 hrow).1
  have HLT := Lib.hid hlt
  clear hown hgr hrow hlt
  go_wp2
  go_ret
  have hrow2 : (w1.alloc (.cells #[.slice (some ⟨w.heap.size, 0, none⟩) n n, .int .i64 (-1), .int .i64 0] 107)).heap[w.heap.size]? = some (.cells (devRow (List.replicate n (V.zeroLn, .slice none 0 0))).toArray 111 (0, 0)) := (Below.heap_alloc _ _ _ HLT.out).trans HR.out
  have hmem : ∀ p ∈ List.replicate n (V.zeroLn, Value.slice none 0 0), p = (V.zeroLn, Value.slice none 0 0) := fun p hp => List.eq_of_mem_replicate hp
  refine ⟨_, _, rfl, ⟨w1.heap.size, w.heap.size, List.replicate n (V.zeroLn, .slice none 0 0), rfl, rfl, by simp [V.newDv], ?_, HG.out⟩, HB.out.alloc (by have := HLT.out; omega) _, ?_⟩
  · refine ⟨?_, hrow2, fun p hp => ?_, fun p hp => ?_, by have := HLT.out; omega, fun p hp => ?_, ?_⟩
    · rw [heap_alloc_new]
      simp [V.newDv]
    · rw [hmem p hp]
      exact World.ownsRow_nil _ 0 _ 2
    · rw [hmem p hp]
      exact V.zeroLn_good
    · rw [hmem p hp]
      simp [Value.ownBlock]
    · rw [List.pairwise_replicate]
      right
      intro g hg
      simp [Value.ownBlock] at hg
  · intro k hk
    rcases mem_foot.1 hk with rfl | rfl | ⟨p, hp, hb⟩
    · have := HLT.out; omega
    · exact Nat.le_refl _
    · rw [hmem p hp] at hb
      simp [Value.ownBlock] at hb
theorem dev_new_no (n : Int) (hn : I64 n) (h : ¬ (1 ≤ n ∧ n ≤ 1024)) (w : World) : Calls Tryz.prog 27 #[.int .i64 n] w fun e w' => e = .returned (.pointer none) ∧ w = w' := by
  by_cases h1 : n < 1
  · go_enter Tryz.func27, Tryz.ntmps27
    go_wp2
    go_ret
    exact ⟨rfl, rfl⟩
  · have h2 : 1 ≤ n := by omega
    have h3 : 1024 < n := by omega
    go_enter Tryz.func27, Tryz.ntmps27
    go_wp2
    go_ret
    exact ⟨rfl, rfl⟩

/-- A device that no call made: nil, or of no lines. -/
def NoDev (w : World) (v : Value) : Prop := v = .pointer none ∨ ∃ D, v = .pointer (some ⟨D, 0, none⟩) ∧ w.heap[D]? = some (.cells #[.slice none 0 0, .int .i64 0, .int .i64 0] 107 (0, 0))
theorem NoDev.drewN {w : World} {v : Value} (h : NoDev w v) (n : Nat) : NoDev (w.drewN n) v := h
theorem no_size {w : World} {v : Value} (h : NoDev w v) : Calls Tryz.prog 66 #[v] w fun e w' => e = .returned (.int .i64 0) ∧ w = w' := by
  rcases h with rfl | ⟨D, rfl, hD⟩
  · go_enter Tryz.func66, Tryz.ntmps66
    go_wp2
    go_ret
    exact ⟨rfl, rfl⟩
  · have c0 := cell_of_row w D 0 _ _ _ hD
    have c0' : w.cell? ⟨D, 0, none⟩ = some (.slice none 0 0) := c0
    clear c0 hD
    go_enter Tryz.func66, Tryz.ntmps66
    go_wp2
    go_ret
    exact ⟨rfl, rfl⟩

theorem no_state {w : World} {v : Value} (h : NoDev w v) : Calls Tryz.prog 56 #[v] w fun e w' => e = .returned (.int .i64 1) ∧ w = w' := by
  have HS := Lib.hid (no_size h)
  clear h
  go_enter Tryz.func56, Tryz.ntmps56
  go_wp2_with fail
  refine HS.out.mono ?_
  rintro e w' ⟨rfl, rfl⟩
  go_wp2
  go_ret
  exact ⟨rfl, rfl⟩
theorem no_place {w : World} {v : Value} (h : NoDev w v) (off size : Int) : Calls Tryz.prog 53 #[v, .int .i64 off, .int .i64 size] w fun e w' => e = .returned (.int .i64 1) ∧ w = w' := by
  have HS := Lib.hid (no_state h)
  clear h
  go_enter Tryz.func53, Tryz.ntmps53
  go_wp2_with fail
  refine HS.out.mono ?_
  rintro e w' ⟨rfl, rfl⟩
  go_wp2
  go_ret
  exact ⟨rfl, rfl⟩
theorem no_load {w : World} {v : Value} (h : NoDev w v) (off : Int) : Calls Tryz.prog 21 #[v, .int .i64 off] w fun e w' => e = .returned (.tuple #[.int .u64 0, .int .i64 1]) ∧ w = w' := by
  have HS := Lib.hid (no_place h off 8)
  clear h
  go_enter Tryz.func21, Tryz.ntmps21
  go_wp2_with fail
  refine HS.out.mono ?_
  rintro e w' ⟨rfl, rfl⟩
  go_wp2
  go_ret2
  exact ⟨rfl, rfl⟩
theorem no_store {w : World} {v : Value} (h : NoDev w v) (off n : Int) : Calls Tryz.prog 25 #[v, .int .i64 off, .int .u64 n] w fun e w' => e = .returned (.int .i64 1) ∧ w = w' := by
  have HS := Lib.hid (no_place h off 8)
  clear h
  go_enter Tryz.func25, Tryz.ntmps25
  go_wp2_with fail
  refine HS.out.mono ?_
  rintro e w' ⟨rfl, rfl⟩
  go_wp2
  go_ret
  exact ⟨rfl, rfl⟩
theorem no_flush {w : World} {v : Value} (h : NoDev w v) (off : Int) : Calls Tryz.prog 111 #[v, .int .i64 off] w fun e w' => e = .returned (.int .i64 1) ∧ w = w' := by
  have HS := Lib.hid (no_place h off 1)
  clear h
  go_enter Tryz.func111, Tryz.ntmps111
  go_wp2_with fail
  refine HS.out.mono ?_
  rintro e w' ⟨rfl, rfl⟩
  go_wp2
  go_ret
  exact ⟨rfl, rfl⟩
theorem no_fence {w : World} {v : Value} (h : NoDev w v) : Calls Tryz.prog 98 #[v] w fun e w' => e = .returned (.int .i64 1) ∧ w = w' := by
  have HS := Lib.hid (no_state h)
  clear h
  go_enter Tryz.func98, Tryz.ntmps98
  go_wp2_with fail
  refine HS.out.mono ?_
  rintro e w' ⟨rfl, rfl⟩
  go_wp2
  go_ret
  exact ⟨rfl, rfl⟩

theorem no_crash {w : World} {v : Value} (h : NoDev w v) (p : Value) : Calls Tryz.prog 22 #[v, p] w fun e w' => e = .returned (.tuple #[]) ∧ w = w' := by
  have HS := Lib.hid (no_state h)
  clear h
  go_enter Tryz.func22, Tryz.ntmps22
  go_wp2_with fail
  refine HS.out.mono ?_
  rintro e w' ⟨rfl, rfl⟩
  go_wp2
  refine bodyPost_ret (results_none rfl _ _ _) rfl ?_
  exact ⟨rfl, rfl⟩


end Go.Proofs.YtaceogpdjbikiaaGreatDoor
namespace Go.Proofs.YtaceogpdjbikiaaGreatDoor

open Go.RowKit

/-- A device in blocks that the call itself made; what was there ahead of the call is as it was. -/
def DevIn (w0 : World) (v : Value) (d : V.Dv) (wr : World) : Prop := ∃ F, Dev wr v d F ∧ (∀ k ∈ F, w0.heap.size ≤ k) ∧ Below w0.heap.size w0 wr
section

variable {w0 wr : World} {v : Value} {d : V.Dv}

theorem DevIn.below (h : DevIn w0 v d wr) : Below w0.heap.size w0 wr := by obtain ⟨F, h1, h2, h3⟩ := h; exact h3
theorem DevIn.good (h : DevIn w0 v d wr) : d.Good := by obtain ⟨F, h1, h2, h3⟩ := h; exact h1.good
theorem DevIn.drewN (h : DevIn w0 v d wr) (n : Nat) : DevIn w0 v d (wr.drewN n) := by obtain ⟨F, h1, h2, h3⟩ := h; exact ⟨F, h1.drewN n, h2, below_drewN' h3 n⟩
theorem DevIn.step {F : List Nat} {d' : V.Dv} {w1 : World} (h2 : ∀ k ∈ F, w0.heap.size ≤ k) (h3 : Below w0.heap.size w0 wr) (hs : DevStep wr v d' F w1) : DevIn w0 v d' w1 := by
  obtain ⟨F', k1, k2, k3⟩ := hs
  refine ⟨F', k1, fun k hk => ?_, h3.trans (k2.below h3.size h2)⟩
  rcases k3 k hk with e | e
  · exact h2 k e
  · exact Nat.le_trans h3.size e
/-- What makes memory alone keeps it. -/
theorem DevIn.newer {w1 : World} (h : DevIn w0 v d wr) (hb : Below wr.heap.size wr w1) : DevIn w0 v d w1 := by
  obtain ⟨F, h1, h2, h3⟩ := h
  exact ⟨F, h1.only (Only.of_below (F := []) hb) (fun k hk => by simp at hk), h2, h3.trans (hb.mono h3.size)⟩
theorem DevIn.alloc (h : DevIn w0 v d wr) (o : Obj) : DevIn w0 v d (wr.alloc o) := h.newer ((Below.refl _ _).alloc (Nat.le_refl _) o)
theorem in_load (h : DevIn w0 v d wr) (off : Int) (hoff : I64 off) :
    Calls Tryz.prog 21 #[v, .int .i64 off] wr fun e w' => e = .returned (.tuple #[.int .u64 (d.load off : Nat), .int .i64 (d.err off 8)]) ∧ ∃ m, w' = wr.drewN m := by
  obtain ⟨F, h1, h2, h3⟩ := h; exact dev_load h1 off hoff
theorem in_store (h : DevIn w0 v d wr) (off : Int) (hoff : I64 off) (n : Nat) (hn : n < 2 ^ 64) (hs : d.steps ≤ 1000000000) :
    Calls Tryz.prog 25 #[v, .int .i64 off, .int .u64 (n : Int)] wr fun e w' => e = .returned (.int .i64 (d.err off 8)) ∧ DevIn w0 v (d.store off n) w' := by
  obtain ⟨F, h1, h2, h3⟩ := h
  exact (dev_store h1 off hoff n hn hs).mono fun e w' ⟨a, b⟩ => ⟨a, DevIn.step h2 h3 b⟩
theorem in_flush (h : DevIn w0 v d wr) (off : Int) (hoff : I64 off) (hs : d.steps ≤ 1000000000) :
    Calls Tryz.prog 111 #[v, .int .i64 off] wr fun e w' => e = .returned (.int .i64 (d.err off 1)) ∧ DevIn w0 v (d.flush off) w' := by
  obtain ⟨F, h1, h2, h3⟩ := h
  exact (dev_flush h1 off hoff hs).mono fun e w' ⟨a, b⟩ => ⟨a, DevIn.step h2 h3 b⟩
theorem in_fence (h : DevIn w0 v d wr) (hs : d.steps ≤ 1000000000) :
    Calls Tryz.prog 98 #[v] wr fun e w' => e = .returned (.int .i64 d.state) ∧ DevIn w0 v d.fence w' := by
  obtain ⟨F, h1, h2, h3⟩ := h
  exact (dev_fence h1 hs).mono fun e w' ⟨a, b⟩ => ⟨a, DevIn.step h2 h3 b⟩

/-- Picks that were there ahead of the call. -/
theorem in_crash (h : DevIn w0 v d wr) (A : Option Addr) (len cap : Nat) (zs : List Int) (hp : IsBytes w0 (.slice A len cap) zs) (hA : zs ≠ [] → ∀ a, A = some a → a.block < w0.heap.size) (hs : d.steps ≤ 1000000000) :
    Calls Tryz.prog 22 #[v, .slice A len cap] wr fun e w' => e = .returned (.tuple #[]) ∧ DevIn w0 v (d.crash zs) w' := by
  obtain ⟨F, h1, h2, h3⟩ := h
  exact (dev_crash h1 A len cap zs (hp.below h3) (fun hz a e hf => by have := hA hz a e; have := h2 _ hf; omega) hs).mono fun e w' ⟨a, b⟩ => ⟨a, DevIn.step h2 h3 b⟩


theorem in_size (h : DevIn w0 v d wr) : Calls Tryz.prog 66 #[v] wr fun e w' => e = .returned (.int .i64 (64 * d.lines.length : Nat)) ∧ wr = w' := by
  obtain ⟨F, h1, h2, h3⟩ := h; exact dev_size h1

end

theorem in_new (n : Nat) (h1 : 1 ≤ n) (h2 : n ≤ 1024) (w0 wr : World) (hb : Below w0.heap.size w0 wr) : Calls Tryz.prog 27 #[.int .i64 (n : Int)] wr fun e w' => ∃ D, e = .returned (.pointer (some ⟨D, 0, none⟩)) ∧ DevIn w0 (.pointer (some ⟨D, 0, none⟩)) (V.newDv n) w' := by
  refine (dev_new n h1 h2 wr).mono ?_
  rintro e w' ⟨v, F, rfl, hd, hb1, hF⟩
  have hd' := hd
  obtain ⟨D, L, ps, rfl, _⟩ := hd'
  exact ⟨D, rfl, F, hd, fun k hk => Nat.le_trans hb.size (hF k hk), hb.trans (hb1.mono hb.size)⟩

/-! ### A device of the call's own, beside blocks that its calls don't touch -/
theorem DevStep.newer {w w1 w2 : World} {v : Value} {d' : V.Dv} {F : List Nat} (hb : Below w.heap.size w w1) (hs : DevStep w1 v d' F w2) : DevStep w v d' F w2 := by
  obtain ⟨F', k1, k2, k3⟩ := hs
  refine ⟨F', k1, (Only.of_below hb).trans' k2, fun k hk => ?_⟩
  rcases k3 k hk with e | e
  · exact .inl e
  · exact .inr (Nat.le_trans hb.size e)
def DevK (w0 : World) (v : Value) (d : V.Dv) (K : List Nat) (wr : World) : Prop := ∃ F, Dev wr v d F ∧ (∀ k ∈ F, w0.heap.size ≤ k) ∧ Below w0.heap.size w0 wr ∧ ∀ k ∈ K, k ∉ F ∧ k < wr.heap.size
section

variable {w0 wr : World} {v : Value} {d d' : V.Dv} {K : List Nat}

theorem DevK.devIn (h : DevK w0 v d K wr) : DevIn w0 v d wr := by obtain ⟨F, h1, h2, h3, _⟩ := h; exact ⟨F, h1, h2, h3⟩
theorem DevIn.devK (h : DevIn w0 v d wr) : DevK w0 v d [] wr := by obtain ⟨F, h1, h2, h3⟩ := h; exact ⟨F, h1, h2, h3, fun k hk => by cases hk⟩
theorem DevK.drewN (h : DevK w0 v d K wr) (n : Nat) : DevK w0 v d K (wr.drewN n) := by obtain ⟨F, h1, h2, h3, h4⟩ := h; exact ⟨F, h1.drewN n, h2, below_drewN' h3 n, h4⟩
/-- A block that is new is kept from then on. -/
theorem DevK.newer {w1 : World} {K' : List Nat} (h : DevK w0 v d K wr) (hb : Below wr.heap.size wr w1) (hK : ∀ k ∈ K', k ∈ K ∨ (wr.heap.size ≤ k ∧ k < w1.heap.size)) : DevK w0 v d K' w1 := by
  obtain ⟨F, h1, h2, h3, h4⟩ := h
  refine ⟨F, h1.only (Only.of_below (F := []) hb) (fun k hk => by simp at hk), h2, h3.trans (hb.mono h3.size), fun k hk => ?_⟩
  rcases hK k hk with e | ⟨e1, e2⟩
  · exact ⟨(h4 k e).1, Nat.lt_of_lt_of_le (h4 k e).2 hb.size⟩
  · exact ⟨fun hf => by have := h1.lt k hf; omega, e2⟩
theorem DevK.run (h : DevK w0 v d K wr) {f : FuncId} {args : Array Value} {R : Ending → Prop} (hc : ∀ F, Dev wr v d F → Calls Tryz.prog f args wr fun e w' => R e ∧ DevStep wr v d' F w') :
    Calls Tryz.prog f args wr fun e w' => R e ∧ DevK w0 v d' K w' ∧ KeepB K wr w' := by
  obtain ⟨F, h1, h2, h3, h4⟩ := h
  refine (hc F h1).mono ?_
  rintro e w' ⟨hR, F', k1, k2, k3⟩
  refine ⟨hR, ⟨F', k1, fun k hk => ?_, h3.trans (k2.below h3.size h2), fun k hk => ⟨fun hf => ?_, Nat.lt_of_lt_of_le (h4 k hk).2 k2.size⟩⟩, fun k hk => k2.block k (h4 k hk).2 (h4 k hk).1⟩
  · rcases k3 k hk with e | e
    · exact h2 k e
    · exact Nat.le_trans h3.size e
  · rcases k3 k hf with e | e
    · exact (h4 k hk).1 e
    · have := (h4 k hk).2; omega
theorem keepB_below {S : List Nat} {W W' : World} (h : Below W.heap.size W W') (hS : ∀ k ∈ S, k < W.heap.size) : KeepB S W W' := fun k hk => h.block k (hS k hk)
theorem IsInts.keep {kk : IntKind} {w w' : World} {S : List Nat} {b o len cap : Nat} {zs : List Int} (h : IsInts kk w (.slice (some ⟨b, o, none⟩) len cap) zs) (hk : KeepB S w w') (hb : b ∈ S) : IsInts kk w' (.slice (some ⟨b, o, none⟩) len cap) zs := by
  obtain ⟨a, c, e, h2, h3, h4, h5⟩ := h
  simp only [Value.slice.injEq] at e
  obtain ⟨rfl, rfl, rfl⟩ := e
  refine ⟨_, cap, rfl, h2, h3, ?_, h5⟩
  rcases h4 with rfl | ⟨b', o', e, hc⟩
  · exact .inl rfl
  · simp only [Option.some.injEq, Addr.mk.injEq, and_true] at e
    obtain ⟨rfl, rfl⟩ := e
    exact .inr ⟨b, o, rfl, fun i hi => hk.cell hb (hc i hi)⟩
end

/-! ### alive -/
def A0 : V.Dv := V.newDv 2
def A1 : V.Dv := A0.store 8 5
def A2 : V.Dv := A1.crash []
def A3 : V.Dv := A2.store 8 6
def A4 : V.Dv := A3.flush 8
def A5 : V.Dv := A4.fence
def A6 : V.Dv := A5.crash [3]
theorem a_err0 : A0.err 8 8 = 0 := by decide +kernel
theorem a_may : A1.may 0 = 2 := by decide +kernel
theorem a_load1 : A1.load 8 = 5 ∧ A1.err 8 8 = 0 := by decide +kernel
theorem a_load2 : A2.load 8 = 0 ∧ A2.err 8 8 = 0 := by decide +kernel
theorem a_err3 : A3.err 8 1 = 0 ∧ A4.state = 0 := by decide +kernel
theorem a_load6 : A6.load 8 = 6 ∧ A6.err 8 8 = 0 ∧ A6.lines.length = 2 ∧ A6.steps = 4 ∧ A6.image.length = 128 ∧ A6.err 4 8 = 4 := by decide +kernel
theorem a_steps : A0.steps = 0 ∧ A1.steps = 1 ∧ A2.steps = 1 ∧ A3.steps = 2 ∧ A4.steps = 3 ∧ A5.steps = 4 := by decide +kernel
end Go.Proofs.YtaceogpdjbikiaaGreatDoor
namespace Go.Proofs.YtaceogpdjbikiaaGreatDoor

open Go.RowKit

theorem str_inj {xs ys : List Int} (hx : ∀ z ∈ xs, 0 ≤ z ∧ z ≤ 255) (hy : ∀ z ∈ ys, 0 ≤ z ∧ z ≤ 255) (h : (strOfNums xs).toList = (strOfNums ys).toList) : xs = ys := by
  have h1 : (strOfNums xs).data.toList = (strOfNums ys).data.toList := by rw [← ByteArray.toList_eq, ← ByteArray.toList_eq, h]
  rw [strOfNums_data, strOfNums_data] at h1
  clear h
  induction xs generalizing ys with
  | nil =>
    cases ys with
    | nil => rfl
    | cons y ys => simp at h1
  | cons x xs ih =>
    cases ys with
    | nil => simp at h1
    | cons y ys =>
      simp only [List.map_cons, List.cons.injEq] at h1
      obtain ⟨e1, e2⟩ := h1
      have a1 := hx x (by simp)
      have a2 := hy y (by simp)
      have e3 : (UInt8.ofNat x.toNat).toNat = (UInt8.ofNat y.toNat).toNat := by rw [e1]
      simp only [UInt8.toNat_ofNat'] at e3
      rw [ih (fun z hz => hx z (List.mem_cons_of_mem _ hz)) (fun z hz => hy z (List.mem_cons_of_mem _ hz)) e2, show x = y by omega]
theorem bytes_cell' {w : World} {b o : Nat} {len cap : Nat} {zs : List Int} (h : IsBytes w (.slice (some ⟨b, o, none⟩) len cap) zs) (i : Nat) (hi : i < len) : w.cell? ⟨b, o + i, none⟩ = some (.int .u8 (zs.getD i 0)) := by
  obtain ⟨a', cap', e, h1, h2, h3, h4⟩ := h
  simp only [Value.slice.injEq] at e
  obtain ⟨rfl, rfl, rfl⟩ := e
  rcases h3 with rfl | ⟨b', o', e, hc⟩
  · simp at hi
  · simp only [Option.some.injEq, Addr.mk.injEq, and_true] at e
    obtain ⟨rfl, rfl⟩ := e
    exact hc i hi
/-- Bytes as a string, whole. -/
theorem conv_all {w : World} {g n c : Nat} {zs : List Int} (h : IsBytes w (.slice (some ⟨g, 0, none⟩) n c) zs) :
    ∀ dst, Tryz.prog.underlying dst = some .string → (convert 103 dst (.slice (some ⟨g, 0, none⟩) n c)).run Tryz.prog w = .ok (.string (strOfNums zs)) w := by
  have hl := h.len'.1
  refine run_convert_bytes_arg (P := Tryz.prog) w 103 5 Tryz.underlying103 Tryz.underlying5 g 0 n c zs hl (fun i hi => ?_)
  exact bytes_cell' h i hi

end Go.Proofs.YtaceogpdjbikiaaGreatDoor
