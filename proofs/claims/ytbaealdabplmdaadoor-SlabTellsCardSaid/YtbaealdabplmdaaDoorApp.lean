
/- append of a slice that reads as integers (nil or not) onto a row of the call's own; rows of the call's own read as integers. Nothing of the program's text. -/
import Derived.Test.YtbaealdabplmdaaDoorMem

import Derived.Maps.AppendAt

import Derived.ChangeSlices

namespace Go.Proofs.YtbaealdabplmdaaDoor

open Go.RowKit

/-- A row of the call's own, nil or not, reads as its numbers. -/
theorem IsInts.of_own {k : IntKind} {w : World} {base e n : Nat} {v : Value} {xs : List Int} (h : w.ownsRow base e 1 v n (xs.map (Value.int k))) (hwf : ∀ z ∈ xs, (Lit.int k z).wf = true) : IsInts k w v xs := by
  have hl : xs.length = n := by simpa using h.1
  subst hl
  rcases h.2 with ⟨rfl, h0⟩ | ⟨g, cap, cur, rfl, _⟩
  · obtain rfl := List.eq_nil_of_length_eq_zero h0
    exact IsInts.nil k w
  · exact IsInts.of_row h hwf
theorem owns_nil {w : World} {base e : Nat} : w.ownsRow base e 1 (.slice none 0 0) 0 [] := ⟨by simp, .inl ⟨rfl, rfl⟩⟩
theorem owns_block {w : World} {base e size n : Nat} {v : Value} {xs : List Value} (h : w.ownsRow base e size v n xs) : ∀ k, v.ownBlock = some k → base ≤ k := by
  intro k hk
  rcases h.2 with ⟨rfl, _⟩ | ⟨g, cap, cur, rfl, hb, _⟩
  · simp [Value.ownBlock] at hk
  · simp only [Value.ownBlock, Option.some.injEq] at hk
    omega
theorem owns_form {w : World} {base e size n : Nat} {v : Value} {xs : List Value} (h : w.ownsRow base e size v n xs) : ∃ a cap, v = .slice a n cap ∧ n ≤ cap ∧ cap ≤ maxLen := by
  rcases h.2 with ⟨rfl, rfl⟩ | ⟨g, cap, cur, rfl, _, _, h1, h2, _⟩
  · exact ⟨none, 0, rfl, Nat.le_refl _, Nat.zero_le _⟩
  · exact ⟨_, cap, rfl, h1, h2⟩

theorem owns_below {w w' : World} {base e size n : Nat} {v : Value} {xs : List Value} (h : w.ownsRow base e size v n xs) (hb : Below w.heap.size w w') : w'.ownsRow base e size v n xs := by
  refine ⟨h.1, ?_⟩
  rcases h.2 with h' | ⟨g, cap, cur, h1, h2, hg, h3⟩
  · exact .inl h'
  · exact .inr ⟨g, cap, cur, h1, h2, (hb.block g (Array.getElem?_eq_some_iff.1 hg).1).trans hg, h3⟩

theorem run_append_ints {P : Program} (w : World) (k : IntKind) (base : Nat) (t ty e : TypeId) (i : TypeInfo) (z : Value) (bytes : Nat) (ht : P.underlying t = some (.slice e)) (hi : P.info? e = some i) (hz : i.zero = some z)
    (hsize : i.size = 1) (hby : i.bytes = bytes) (hzs : z.cells.size = 1) (v : Value) (n : Nat) (xs : List Int) (hown : w.ownsRow base e 1 v n (xs.map (Value.int k)))
    (A : Option Addr) (m c : Nat) (zs : List Int) (hr : IsInts k w (.slice A m c) zs) (h63 : n + m ≤ maxLen) (hbytes : (n + m) * bytes ≤ 140737488355328) (hbase : base ≤ w.heap.size) :
    ∃ v' w', (Builtin.append_ #[t, t] ty #[v, .slice A m c]).run P w = .ok v' w' ∧ w'.ownsRow base e 1 v' (n + m) ((xs ++ zs).map (Value.int k)) ∧ w.grownBy w' v.ownBlock := by
  obtain ⟨A', c', e', hc1, hc2, hR, hwf⟩ := hr
  simp only [Value.slice.injEq] at e'
  obtain ⟨rfl, rfl, rfl⟩ := e'
  cases A with
  | none =>
    have hz : zs = [] := by
      rcases hR with h | ⟨b, o, h, _⟩
      · exact h
      · cases h
    subst hz
    refine ⟨v, w, ?_, by simpa using hown, World.grownBy.refl w _⟩
    rcases hown.2 with ⟨rfl, rfl⟩ | ⟨g, cap, cur, rfl, _, _, hnc, _⟩
    · simp [Builtin.append_, run_underlying ht, sizeOf, typeInfo, hi, Builtin.lenOf, Builtin.firstCells]
    · simp [Builtin.append_, run_underlying ht, sizeOf, typeInfo, hi, Builtin.lenOf, Builtin.firstCells, hnc, storeCells]
  | some ad =>
    obtain ⟨v', w', h1, h2, h3, _, _⟩ := run_append_own_at (P := P) w base t ty e i z 1 bytes ht hi hz hsize hby hzs (by decide) v n (xs.map (Value.int k)) hown ad zs.length c (zs.map (Value.int k)) (by simp) (by
      intro j u hu
      rw [List.getElem?_map] at hu
      obtain ⟨y, hy, rfl⟩ := Option.map_eq_some_iff.1 hu
      have hj : j < zs.length := by
        apply Nat.lt_of_not_le; intro hj; rw [List.getElem?_eq_none hj] at hy; cases hy
      rcases hR with rfl | ⟨b, o, h, hc⟩
      · simp at hj
      · simp only [Option.some.injEq] at h
        subst h
        rw [Addr.add_lit, hc j hj, List.getD_eq_getElem?_getD, hy]
        rfl) (ints_oneCell _ _) h63 hbytes hbase
    exact ⟨v', w', h1, by rw [List.map_append]; exact h2, h3⟩

theorem wpList_append_ints {P : Program} {w : World} {ops : Array Oper} {rest : List Oper} {o : Oper} {a : Act} {Q : Exit → Act → World → Prop} (hgd : o.guard = none) (s x : Operand) (t : TypeId)
    (ho : o.op = .call { callee := .builtin .append, args := #[s, x], argTypes := #[t, t] }) (k : IntKind)
    (base : Nat) (e : TypeId) (i : TypeInfo) (z : Value) (bytes : Nat) (ht : P.underlying t = some (.slice e)) (hi : P.info? e = some i) (hz : i.zero = some z)
    (hsize : i.size = 1) (hby : i.bytes = bytes) (hzs : z.cells.size = 1)
    (v : Value) (n : Nat) (xs : List Int) (hs : a.eval s = v) (hown : w.ownsRow base e 1 v n (xs.map (Value.int k)))
    (A : Option Addr) (m c : Nat) (zs : List Int) (hx : a.eval x = .slice A m c) (hr : IsInts k w (.slice A m c) zs) (h63 : n + m ≤ maxLen) (hbytes : (n + m) * bytes ≤ 140737488355328) (hbase : base ≤ w.heap.size)
    (h : ∀ v' w', w'.ownsRow base e 1 v' (n + m) ((xs ++ zs).map (Value.int k)) → w.grownBy w' v.ownBlock → wpList P ops Q rest (a.put o.dst v') w') : wpList P ops Q (o :: rest) a w := by
  refine wpList_plain hgd fun K hK => ?_
  obtain ⟨v', w', hrun, h2, h3⟩ := run_append_ints (P := P) w k base t o.type e i z bytes ht hi hz hsize hby hzs v n xs hown A m c zs hr h63 hbytes hbase
  unfold Oper.wp execOp
  simp only [ho, resolve, invoke, builtin, Sem.run_bind, Sem.run_pure, Result.andThen_ok, List.map_toArray, List.map_cons, List.map_nil, hs, hx, hrun]
  exact hK _ _ (h v' w' h2 h3)

/-- A slice of slices of integers, each of so many at most. -/
def IsIntss (k : IntKind) (most : Nat) (w : World) (v : Value) (zss : List (List Int)) : Prop :=
  ∃ a cap, v = .slice a zss.length cap ∧ zss.length ≤ cap ∧ cap ≤ maxLen ∧ (zss = [] ∨ ∃ b o, a = some ⟨b, o, none⟩ ∧ ∀ i, i < zss.length → ∃ u, w.cell? ⟨b, o + i, none⟩ = some u ∧ IsInts k w u (zss.getD i []) ∧ (zss.getD i []).length ≤ most)
theorem weightsAll_mem {H : Type} {P : Program} {e : TypeId} {d : DataW H} {n : Nat} : ∀ {l : List (DataW H)}, d ∈ l → n ∈ d.weights P e → n ∈ DataW.weightsAll P e l
  | x :: l, hd, hn => by
    rw [DataW.weightsAll]
    rcases List.mem_cons.1 hd with rfl | hd
    · exact List.mem_append_left _ hn
    · exact List.mem_append_right _ (weightsAll_mem hd hn)
theorem IsInts.of_open' {k : IntKind} {w : World} {x : Addr} {len cap : Nat} {zs : List Int} (hl : len ≤ cap) (hm : cap ≤ maxLen) (hz : len ≤ zs.length)
    (hcell : ∀ i, i < zs.length → w.cell? (x.add i) = some (.int k (zs.getD i 0))) (hwz : ∀ n ∈ zs, (Lit.int k n).wf = true) : IsInts k w (.slice (some x) len cap) (zs.take len) := by
  have hlen : (zs.take len).length = len := by simp; omega
  refine ⟨some x, cap, by rw [hlen], by omega, hm, ?_, fun z h => hwz z (List.mem_of_mem_take h)⟩
  by_cases h0 : len = 0
  · exact .inl (by simp [h0])
  · obtain ⟨b, o, spot⟩ := x
    have hc := hcell 0 (by omega)
    have hspot : spot = none := by simpa [Addr.add] using World.cell?_spot hc
    subst hspot
    refine .inr ⟨b, o, rfl, fun i hi => ?_⟩
    have h := hcell i (by omega)
    rw [Addr.add_lit] at h
    rw [h]
    simp [show i < len by omega]
/-- What a slice of slices of integers holds that came in. -/
theorem open_intss {H : Type} {enc : TypeId × Value → H} {P : Program} {w : World} {base : Nat} {sp : Nat → Bool} {held : Bool} {t e u : TypeId} {k : IntKind} {fuel : Nat} {A : Option Addr} {n c : Nat} {d : DataW H} {ps : List MemPlace}
    (ht : P.underlying t = some (.slice e)) (he : P.underlying e = some (.slice u)) (hu : P.underlying u = some (.int k)) (hce : P.cellsOf e = 1) (hcu : P.cellsOf u = 1) (hb : P.bytesOf u = 1)
    (h : DataW.trod enc P w base sp held fuel t [.slice A n c] = some (d, ps)) (hw : ∀ x ∈ d.weights P t, x ≤ reachBytes) : ∃ zss, IsIntss k 140737488351232 w (.slice A n c) zss := by
  rcases DataW.trod_slice ht h with ⟨hcs, _⟩ | ⟨a, len, cap, elems, rest, m, _, hcs, hx, _, hl, hm, hlen, hel, _⟩
  · simp only [List.cons.injEq, Value.slice.injEq, and_true] at hcs
    obtain ⟨rfl, rfl, rfl⟩ := hcs
    exact ⟨[], none, 0, rfl, Nat.le_refl _, Nat.zero_le _, .inl rfl⟩
  · simp only [List.cons.injEq, Value.slice.injEq, and_true] at hcs
    obtain ⟨rfl, rfl, rfl⟩ := hcs
    have each : ∀ i, ∃ zs : List Int, i < n → ∃ v, w.cell? (a.add i) = some v ∧ IsInts k w v zs ∧ zs.length ≤ 140737488351232 := by
      intro i
      by_cases hi : i < n
      · have hE := hel i hi
        rw [hce, Nat.mul_one] at hE
        obtain ⟨y, hy⟩ : ∃ y, elems[i]? = some y := ⟨_, List.getElem?_eq_getElem (by omega)⟩
        rw [hy] at hE
        simp only [Option.bind_eq_some_iff] at hE
        obtain ⟨c1, hc1, hy1⟩ := hE
        have hd : y.1 ∈ elems.map (·.1) := List.mem_map_of_mem (List.mem_of_getElem? hy)
        have hwy : ∀ x ∈ y.1.weights P e, x ≤ reachBytes := by
          intro x hxm
          refine hw x ?_
          have e1 : d = .slice (elems.map (·.1)) (rest.map (·.1)) := congrArg Prod.fst hx
          rw [e1]
          simp only [DataW.weights, ht]
          exact List.mem_cons_of_mem _ (List.mem_append_left _ (weightsAll_mem hd hxm))
        rcases Go.ChangeShapes.open_ints he hu hcu hy1 with ⟨hcs, _⟩ | ⟨x, l, c, zs, hcs, _, hl', hm', hz, hxx, hcell, hwz⟩
        · rw [hcs] at hc1
          exact ⟨[], fun _ => ⟨_, Go.ChangeShapes.cell_of_cells?_one hc1, IsInts.nil _ _, Nat.zero_le _⟩⟩
        · rw [hcs] at hc1
          have hlz : l ≤ zs.length := by
            split at hz <;> omega
          refine ⟨zs.take l, fun _ => ⟨_, Go.ChangeShapes.cell_of_cells?_one hc1, ?_, ?_⟩⟩
          · exact IsInts.of_open' hl' hm' hlz hcell hwz
          · have h1 := hwy ((zs.take l).length + (zs.drop l).length) (by
              rw [show y.1 = _ from congrArg Prod.fst hxx]
              simp [DataW.weights, he, hb, Go.ChangeShapes.lits])
            simp only [reachBytes] at h1
            omega
      · exact ⟨[], fun h => absurd h hi⟩
    have hl' : ((List.range n).map fun i => Classical.choose (each i)).length = n := by simp
    refine ⟨(List.range n).map fun i => Classical.choose (each i), some a, c, by rw [hl'], by omega, hm, ?_⟩
    by_cases h0 : n = 0
    · exact .inl (by simp [h0])
    · obtain ⟨b, o, spot⟩ := a
      obtain ⟨v, hv, _⟩ := Classical.choose_spec (each 0) (by omega)
      have hspot : spot = none := by simpa [Addr.add] using World.cell?_spot hv
      subst hspot
      refine .inr ⟨b, o, rfl, fun i hi => ?_⟩
      rw [hl'] at hi
      obtain ⟨v, hv, h1, h2⟩ := Classical.choose_spec (each i) hi
      rw [Addr.add_lit] at hv
      have e1 : ((List.range n).map fun i => Classical.choose (each i)).getD i [] = Classical.choose (each i) := by
        simp [List.getD_eq_getElem?_getD, hi]
      exact ⟨v, hv, by rw [e1]; exact h1, by rw [e1]; exact h2⟩
end Go.Proofs.YtbaealdabplmdaaDoor
