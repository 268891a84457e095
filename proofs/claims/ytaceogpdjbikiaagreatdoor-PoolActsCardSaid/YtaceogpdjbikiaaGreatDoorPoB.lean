
/- Layer 7: how a pool lies in memory: its own block, its slabs' blocks, its three queues, the map that leads to them; what keeps that, what changes it. -/
import Derived.Test.YtaceogpdjbikiaaGreatDoorPoA
import Derived.Test.YtaceogpdjbikiaaGreatDoorHd
import Derived.Maps.Own
namespace Go.Proofs.YtaceogpdjbikiaaGreatDoor

open Go.RowKit Go.Maps

/-- How a pointer reads, for the law of maps. -/
def ptrElem : Value → Option (DataW Unit × List MemPlace)
  | .pointer (some ⟨b, 0, none⟩) => some (.lit (.int .i64 (b : Int)), [])
  | .pointer none => some (.nil, [])
  | _ => none
theorem ptrElem_inv {v : Value} {b : Nat} {ps : List MemPlace} (h : ptrElem v = some (.lit (.int .i64 (b : Int)), ps)) : v = .pointer (some ⟨b, 0, none⟩) := by
  unfold ptrElem at h
  split at h
  · rename_i k
    simp only [Option.some.injEq, Prod.mk.injEq, DataW.lit.injEq, Lit.int.injEq, true_and] at h
    obtain ⟨h, _⟩ := h
    have e : k = b := by omega
    rw [e]
  · simp at h
  · simp at h
theorem lawI : Keyed Tryz.prog 3 := int_keyed Tryz.underlying3
/-- The map in block M leads from each class to its queue's block. -/
def MapAt (w : World) (M : Nat) (Q : Nat → Nat) : Prop := ∃ (D : DataW Unit) (n : Nat), w.ownsMap Tryz.prog 3 ptrElem M n D ∧ ∀ c : Nat, c < 3 → D.atKey (.int .i64 (c : Int)) .nil = .lit (.int .i64 (Q c : Int))
theorem zeroQ (w : World) : (zeroValue 74).run Tryz.prog w = .ok (.pointer none) w := by kernel_rfl
theorem keyI (c : Nat) (hc : c < 3) : keyOf Tryz.prog 3 (.int .i64 (c : Int)) = some (.int .i64 (c : Int)) := keyOf_int_mk Tryz.underlying3 (wf_small (by omega) (by omega))
theorem MapAt.look {w : World} {M : Nat} {Q : Nat → Nat} (h : MapAt w M Q) (c : Nat) (hc : c < 3) : (Instr.lookup 76 (.map (some M)) (.int .i64 (c : Int)) false).run Tryz.prog w = .ok (.pointer (some ⟨Q c, 0, none⟩)) w := by
  obtain ⟨D, n, h1, h3⟩ := h
  obtain ⟨v, ps, hrun, hv⟩ := h1.lookup lawI Tryz.underlying76 (zeroQ w) (by rfl : ptrElem (.pointer none) = some (.nil, [])) (keyI c hc)
  rw [h3 c hc] at hv
  rw [hrun, ptrElem_inv hv]
theorem MapAt.lt {w : World} {M : Nat} {Q : Nat → Nat} (h : MapAt w M Q) : M < w.heap.size := by obtain ⟨D, n, h1, _⟩ := h; exact h1.lt
theorem MapAt.keep {w w' : World} {M : Nat} {Q : Nat → Nat} (h : MapAt w M Q) (hb : w'.heap[M]? = w.heap[M]?) : MapAt w' M Q := by
  obtain ⟨D, n, ⟨es, clock, h1, h2⟩, h3⟩ := h
  exact ⟨D, n, ⟨es, clock, hb.trans h1, h2⟩, h3⟩
theorem MapAt.obj {w : World} {M : Nat} {Q : Nat → Nat} (h : MapAt w M Q) : ∃ es clock, w.heap[M]? = some (.map es clock) := by
  obtain ⟨D, n, ⟨es, clock, h1, _⟩, _⟩ := h
  exact ⟨es, clock, h1⟩

/-- Where the parts of a pool lie. -/
structure Lay where
  P : Nat
  M : Nat
  sv : Value
  S : Nat → Nat
  Q : Nat → Nat
  V : Nat → Value
  L : Nat → List Nat
def upd {α : Type} (f : Nat → α) (c : Nat) (x : α) : Nat → α := fun k => if k = c then x else f k
theorem upd_same {α : Type} (f : Nat → α) (c : Nat) (x : α) : upd f c x c = x := if_pos rfl
theorem upd_other {α : Type} (f : Nat → α) {c k : Nat} (x : α) (h : k ≠ c) : upd f c x k = f k := if_neg h
/-- The pool's own block. -/
def poolCells (y : Lay) (dv : Value) (sh : V.Sh) : Array Value := #[dv, .int .i64 sh.lines, .int .i64 sh.slabs, .int .i64 sh.table, .int .i64 sh.data, y.sv, .map (some y.M)]
structure PoAt (w : World) (y : Lay) (dv : Value) (sh : V.Sh) (ws xs : List Nat) : Prop where
  row : w.heap[y.P]? = some (.cells (poolCells y dv sh) 78 (0, 0))
  slabs : w.ownsRow 0 73 1 y.sv ws.length ((List.range ws.length).map (sptr y.S))
  stock : ∀ i, i < ws.length → StkAt w (y.S i) i (ws.getD i 0) (xs.getD i 0)
  map : MapAt w y.M y.Q
  queue : ∀ c, c < 3 → QAt w y.S (y.Q c) (y.V c) (y.L c)
  qne : ∀ c c', c < 3 → c' < 3 → y.Q c = y.Q c' → c = c'
  vne : ∀ c c' g, c < 3 → c' < 3 → (y.V c).ownBlock = some g → (y.V c').ownBlock = some g → c = c'
  sne : ∀ c g, c < 3 → (y.V c).ownBlock = some g → y.sv.ownBlock ≠ some g
/-- The blocks of a pool with so many slabs. -/
def kfoot (y : Lay) (n : Nat) : List Nat := [y.P, y.M] ++ (ownL y.sv ++ ((List.range n).map y.S ++ ((y.Q 0 :: ownL (y.V 0)) ++ ((y.Q 1 :: ownL (y.V 1)) ++ (y.Q 2 :: ownL (y.V 2))))))
theorem mem_kfoot {y : Lay} {n k : Nat} : k ∈ kfoot y n ↔ k = y.P ∨ k = y.M ∨ k ∈ ownL y.sv ∨ (∃ i, i < n ∧ y.S i = k) ∨ ∃ c, c < 3 ∧ k ∈ y.Q c :: ownL (y.V c) := by
  unfold kfoot
  rw [List.mem_append, List.mem_append, List.mem_append, List.mem_append, List.mem_append, List.mem_map]
  constructor
  · rintro (h | h | ⟨i, hi, h⟩ | h | h | h)
    · rcases List.mem_cons.1 h with h | h
      · exact .inl h
      · exact .inr (.inl (List.mem_singleton.1 h))
    · exact .inr (.inr (.inl h))
    · exact .inr (.inr (.inr (.inl ⟨i, List.mem_range.1 hi, h⟩)))
    · exact .inr (.inr (.inr (.inr ⟨0, by decide, h⟩)))
    · exact .inr (.inr (.inr (.inr ⟨1, by decide, h⟩)))
    · exact .inr (.inr (.inr (.inr ⟨2, by decide, h⟩)))
  · rintro (h | h | h | ⟨i, hi, h⟩ | ⟨c, hc, h⟩)
    · exact .inl (by rw [h]; exact List.mem_cons_self ..)
    · exact .inl (by rw [h]; exact List.mem_cons_of_mem _ (List.mem_cons_self ..))
    · exact .inr (.inl h)
    · exact .inr (.inr (.inl ⟨i, List.mem_range.2 hi, h⟩))
    · obtain rfl | rfl | rfl : c = 0 ∨ c = 1 ∨ c = 2 := by omega
      · exact .inr (.inr (.inr (.inl h)))
      · exact .inr (.inr (.inr (.inr (.inl h))))
      · exact .inr (.inr (.inr (.inr (.inr h))))
section

variable {w w' : World} {y : Lay} {dv : Value} {sh : V.Sh} {ws xs : List Nat}

theorem PoAt.nums (h : PoAt w y dv sh ws xs) : Nums w y.S ws.length := fun i hi => ⟨_, _, h.stock i hi⟩
theorem PoAt.lt (h : PoAt w y dv sh ws xs) : ∀ k ∈ kfoot y ws.length, k < w.heap.size := by
  intro k hk
  rcases mem_kfoot.1 hk with rfl | rfl | hk | ⟨i, hi, rfl⟩ | ⟨c, hc, hk⟩
  · exact (Array.getElem?_eq_some_iff.1 h.row).1
  · exact h.map.lt
  · exact (h.slabs.lt k (mem_ownL.1 hk)).2
  · exact (h.stock i hi).lt
  · exact (h.queue c hc).lt k hk
/-- What keeps the pool's blocks keeps the pool. -/
theorem PoAt.keep (h : PoAt w y dv sh ws xs) (hk : KeepB (kfoot y ws.length) w w') : PoAt w' y dv sh ws xs := by
  refine ⟨(hk _ (mem_kfoot.2 (.inl rfl))).trans h.row, ?_, fun i hi => (h.stock i hi).keep (hk _ (mem_kfoot.2 (.inr (.inr (.inr (.inl ⟨i, hi, rfl⟩)))))), h.map.keep (hk _ (mem_kfoot.2 (.inr (.inl rfl)))), fun c hc => ?_, h.qne, h.vne, h.sne⟩
  · refine ⟨h.slabs.1, ?_⟩
    rcases h.slabs.2 with e | ⟨g, cap, cur, e, hb, hg, rest⟩
    · exact .inl e
    · exact .inr ⟨g, cap, cur, e, hb, (hk g (mem_kfoot.2 (.inr (.inr (.inl (mem_ownL.2 (by rw [e]; rfl))))))).trans hg, rest⟩
  · have hq := h.queue c hc
    refine ⟨(hk _ (mem_kfoot.2 (.inr (.inr (.inr (.inr ⟨c, hc, by simp⟩)))))).trans hq.cell, hq.own.1, ?_⟩
    rcases hq.own.2 with e | ⟨g, cap, cur, e, hb, hg, rest⟩
    · exact .inl e
    · exact .inr ⟨g, cap, cur, e, hb, (hk g (mem_kfoot.2 (.inr (.inr (.inr (.inr ⟨c, hc, List.mem_cons_of_mem _ (mem_ownL.2 (by rw [e]; rfl))⟩)))))).trans hg, rest⟩
theorem PoAt.below (h : PoAt w y dv sh ws xs) (hb : Below w.heap.size w w') : PoAt w' y dv sh ws xs := h.keep (fun k hk => hb.block k (h.lt k hk))
theorem PoAt.drewN (h : PoAt w y dv sh ws xs) (m : Nat) : PoAt (w.drewN m) y dv sh ws xs := h.keep (fun _ _ => rfl)
/-- No slab's block is another part's. -/
theorem PoAt.s_ne (h : PoAt w y dv sh ws xs) {i : Nat} (hi : i < ws.length) : y.S i ≠ y.P ∧ y.S i ≠ y.M ∧ y.S i ∉ ownL y.sv ∧ ∀ c, c < 3 → y.S i ∉ y.Q c :: ownL (y.V c) := by
  have hs := h.stock i hi
  unfold StkAt at hs
  refine ⟨fun e => ?_, fun e => ?_, fun e => ?_, fun c hc e => ?_⟩
  · have h2 := h.row
    rw [← e, hs] at h2
    simp only [Option.some.injEq, Obj.cells.injEq] at h2
    exact absurd h2.2.1 (by decide)
  · obtain ⟨es, cl, h2⟩ := h.map.obj
    rw [← e, hs] at h2
    cases h2
  · rcases h.slabs.2 with ⟨h2, _⟩ | ⟨g, cap, cur, h2, hb, hg, _⟩
    · rw [h2] at e; cases mem_ownL.1 e
    · rw [h2] at e
      have : g = y.S i := by simpa [Value.ownBlock] using mem_ownL.1 e
      rw [this, hs] at hg
      simp only [Option.some.injEq, Obj.cells.injEq] at hg
      exact absurd hg.2.1 (by decide)
  · have hq := h.queue c hc
    rcases List.mem_cons.1 e with e | e
    · have h2 := hq.cell
      rw [← e, hs] at h2
      simp only [Option.some.injEq, Obj.cells.injEq] at h2
      exact absurd h2.2.1 (by decide)
    · rcases hq.own.2 with ⟨h2, _⟩ | ⟨g, cap, cur, h2, hb, hg, _⟩
      · rw [h2] at e; cases mem_ownL.1 e
      · rw [h2] at e
        have : g = y.S i := by simpa [Value.ownBlock] using mem_ownL.1 e
        rw [this, hs] at hg
        simp only [Option.some.injEq, Obj.cells.injEq] at hg
        exact absurd hg.2.1 (by decide)
theorem PoAt.off (h : PoAt w y dv sh ws xs) {c : Nat} (hc : c < 3) : Off y.S ws.length (y.Q c :: ownL (y.V c)) := fun _ hi => (h.s_ne hi).2.2.2 c hc
/-- Nor is a queue's. -/
theorem PoAt.q_ne (h : PoAt w y dv sh ws xs) {c : Nat} (hc : c < 3) : ∀ k ∈ y.Q c :: ownL (y.V c), k ≠ y.P ∧ k ≠ y.M ∧ k ∉ ownL y.sv ∧ (∀ c', c' < 3 → c' ≠ c → k ∉ y.Q c' :: ownL (y.V c')) := by
  have hq := h.queue c hc
  have hrow : ∀ k ∈ ownL (y.V c), ∃ cur, w.heap[k]? = some (.cells cur 73 (0, 0)) := by
    intro k hk
    rcases hq.own.2 with ⟨h2, _⟩ | ⟨g, cap, cur, h2, hb, hg, _⟩
    · rw [h2] at hk; cases mem_ownL.1 hk
    · rw [h2] at hk
      have : g = k := by simpa [Value.ownBlock] using mem_ownL.1 hk
      exact ⟨cur, this ▸ hg⟩
  have hsv : ∀ k ∈ ownL y.sv, ∃ cur, w.heap[k]? = some (.cells cur 73 (0, 0)) := by
    intro k hk
    rcases h.slabs.2 with ⟨h2, _⟩ | ⟨g, cap, cur, h2, hb, hg, _⟩
    · rw [h2] at hk; cases mem_ownL.1 hk
    · rw [h2] at hk
      have : g = k := by simpa [Value.ownBlock] using mem_ownL.1 hk
      exact ⟨cur, this ▸ hg⟩
  intro k hk
  rcases List.mem_cons.1 hk with rfl | hk
  · have h1 := hq.cell
    refine ⟨fun e => ?_, fun e => ?_, fun e => ?_, fun c' hc' hne e => ?_⟩
    · have h2 := h.row
      rw [← e, h1] at h2
      simp only [Option.some.injEq, Obj.cells.injEq] at h2
      exact absurd h2.2.1 (by decide)
    · obtain ⟨es, cl, h2⟩ := h.map.obj
      rw [← e, h1] at h2; cases h2
    · obtain ⟨cur, h2⟩ := hsv _ e
      rw [h1] at h2
      simp only [Option.some.injEq, Obj.cells.injEq] at h2
      exact absurd h2.2.1 (by decide)
    · rcases List.mem_cons.1 e with e | e
      · exact hne (h.qne c c' hc hc' e).symm
      · rcases (h.queue c' hc').own.2 with ⟨h2, _⟩ | ⟨g, cap, cur, h2, hb, hg, _⟩
        · rw [h2] at e; cases mem_ownL.1 e
        · rw [h2] at e
          have : g = y.Q c := by simpa [Value.ownBlock] using mem_ownL.1 e
          rw [this, h1] at hg
          simp only [Option.some.injEq, Obj.cells.injEq] at hg
          exact absurd hg.2.1 (by decide)
  · obtain ⟨cur, h1⟩ := hrow k hk
    refine ⟨fun e => ?_, fun e => ?_, fun e => ?_, fun c' hc' hne e => ?_⟩
    · have h2 := h.row
      rw [← e, h1] at h2
      simp only [Option.some.injEq, Obj.cells.injEq] at h2
      exact absurd h2.2.1 (by decide)
    · obtain ⟨es, cl, h2⟩ := h.map.obj
      rw [← e, h1] at h2; cases h2
    · exact h.sne c k hc (mem_ownL.1 hk) (mem_ownL.1 e)
    · rcases List.mem_cons.1 e with e | e
      · have h2 := (h.queue c' hc').cell
        rw [← e, h1] at h2
        simp only [Option.some.injEq, Obj.cells.injEq] at h2
        exact absurd h2.2.1 (by decide)
      · exact hne (h.vne c c' k hc hc' (mem_ownL.1 hk) (mem_ownL.1 e)).symm
/-- A slab's words are written. -/
theorem PoAt.wrote (h : PoAt w y dv sh ws xs) {i t u : Nat} (hi : i < ws.length) (hx : xs.length = ws.length) (ho : Only [y.S i] w w') (hs : StkAt w' (y.S i) i t u) : PoAt w' y dv sh (ws.set i t) (xs.set i u) := by
  obtain ⟨n1, n2, n3, n4⟩ := h.s_ne hi
  have hb : ∀ k, k < w.heap.size → k ≠ y.S i → w'.heap[k]? = w.heap[k]? := fun k hk hne => ho.block k hk (fun e => hne (List.mem_singleton.1 e))
  have hl := h.lt
  refine ⟨(hb _ (hl _ (mem_kfoot.2 (.inl rfl))) n1.symm).trans h.row, ?_, fun j hj => ?_, h.map.keep (hb _ (hl _ (mem_kfoot.2 (.inr (.inl rfl)))) n2.symm), fun c hc => (h.queue c hc).only ho (fun k hk => by rw [List.mem_singleton.1 hk]; exact n4 c hc), h.qne, h.vne, h.sne⟩
  · rw [List.length_set]
    exact owns_only h.slabs ho (fun g hg hm => n3 (by rw [← List.mem_singleton.1 hm]; exact mem_ownL.2 hg))
  · rw [List.length_set] at hj
    rw [P.getD_set _ _ _ _ hi, P.getD_set _ _ _ _ (by omega)]
    by_cases e : j = i
    · subst e; rw [if_pos rfl, if_pos rfl]; exact hs
    · rw [if_neg e, if_neg e]
      exact (h.stock j hj).only ho (fun hm => e (s_inj h.nums hj hi (List.mem_singleton.1 hm)))
/-- A queue is changed. -/
theorem PoAt.queued (h : PoAt w y dv sh ws xs) {c : Nat} (hc : c < 3) {L' : List Nat} (hq : QStep w y.S (y.Q c) (y.V c) L' w') :
    ∃ V', PoAt w' { y with V := upd y.V c V', L := upd y.L c L' } dv sh ws xs ∧ (∀ k ∈ ownL V', k ∈ ownL (y.V c) ∨ w.heap.size ≤ k) ∧ Only (y.Q c :: ownL (y.V c)) w w' := by
  obtain ⟨V', hq', ho, hv⟩ := hq
  have hne := h.q_ne hc
  have hl := h.lt
  have hb : ∀ k, k < w.heap.size → k ∉ y.Q c :: ownL (y.V c) → w'.heap[k]? = w.heap[k]? := ho.block
  have old : ∀ g, V'.ownBlock = some g → g < w.heap.size → (y.V c).ownBlock = some g := fun g hg hlt => by
    rcases hv g (mem_ownL.2 hg) with e | e
    · exact mem_ownL.1 e
    · omega
  refine ⟨V', ⟨(hb _ (hl _ (mem_kfoot.2 (.inl rfl))) (fun e => (hne _ e).1 rfl)).trans h.row, owns_only h.slabs ho (fun g hg hm => (hne g hm).2.2.1 (mem_ownL.2 hg)), fun i hi => (h.stock i hi).only ho ((h.s_ne hi).2.2.2 c hc), h.map.keep (hb _ (hl _ (mem_kfoot.2 (.inr (.inl rfl)))) (fun e => (hne _ e).2.1 rfl)), fun c' hc' => ?_, h.qne, ?_, ?_⟩, hv, ho⟩
  · show QAt w' y.S (y.Q c') (upd y.V c V' c') (upd y.L c L' c')
    by_cases e : c' = c
    · subst e; rw [upd_same, upd_same]; exact hq'
    · rw [upd_other _ _ e, upd_other _ _ e]
      exact (h.queue c' hc').only ho (fun k hk => (hne k hk).2.2.2 c' hc' e)
  · intro a b g ha hb' h1 h2
    change (upd y.V c V' a).ownBlock = some g at h1
    change (upd y.V c V' b).ownBlock = some g at h2
    by_cases ea : a = c
    · by_cases eb : b = c
      · rw [ea, eb]
      · rw [ea, upd_same] at h1
        rw [upd_other _ _ eb] at h2
        have := old g h1 ((h.queue b hb').own.lt g h2).2
        exact absurd (h.vne c b g hc hb' this h2).symm eb
    · by_cases eb : b = c
      · rw [eb, upd_same] at h2
        rw [upd_other _ _ ea] at h1
        have := old g h2 ((h.queue a ha).own.lt g h1).2
        exact absurd (h.vne a c g ha hc h1 this) ea
      · rw [upd_other _ _ ea] at h1
        rw [upd_other _ _ eb] at h2
        exact h.vne a b g ha hb' h1 h2
  · intro a g ha h1 h2
    change (upd y.V c V' a).ownBlock = some g at h1
    by_cases ea : a = c
    · rw [ea, upd_same] at h1
      exact h.sne c g hc (old g h1 (h.slabs.lt g h2).2) h2
    · rw [upd_other _ _ ea] at h1
      exact h.sne a g ha h1 h2
theorem kfoot_queued {y : Lay} {c n B : Nat} {V' : Value} {L' : List Nat} (hv : ∀ k ∈ ownL V', k ∈ ownL (y.V c) ∨ B ≤ k) (hc : c < 3) : ∀ k ∈ kfoot { y with V := upd y.V c V', L := upd y.L c L' } n, k ∈ kfoot y n ∨ B ≤ k := by
  intro k hk
  rcases mem_kfoot.1 hk with h | h | h | h | ⟨c', hc', h⟩
  · exact .inl (mem_kfoot.2 (.inl h))
  · exact .inl (mem_kfoot.2 (.inr (.inl h)))
  · exact .inl (mem_kfoot.2 (.inr (.inr (.inl h))))
  · exact .inl (mem_kfoot.2 (.inr (.inr (.inr (.inl h)))))
  · change k ∈ y.Q c' :: ownL (upd y.V c V' c') at h
    by_cases e : c' = c
    · subst e
      rw [upd_same] at h
      rcases List.mem_cons.1 h with h | h
      · exact .inl (mem_kfoot.2 (.inr (.inr (.inr (.inr ⟨c', hc, by rw [h]; exact List.mem_cons_self ..⟩)))))
      · rcases hv k h with h | h
        · exact .inl (mem_kfoot.2 (.inr (.inr (.inr (.inr ⟨c', hc, List.mem_cons_of_mem _ h⟩)))))
        · exact .inr h
    · rw [upd_other _ _ e] at h
      exact .inl (mem_kfoot.2 (.inr (.inr (.inr (.inr ⟨c', hc', h⟩)))))
end

end Go.Proofs.YtaceogpdjbikiaaGreatDoor
