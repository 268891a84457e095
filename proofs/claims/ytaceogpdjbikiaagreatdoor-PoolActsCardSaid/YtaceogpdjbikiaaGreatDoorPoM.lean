
/- Layer 7: how a pool comes to be in memory: its map and queues, slab by slab. -/
import Derived.Test.YtaceogpdjbikiaaGreatDoorPoK
import Derived.Maps.OwnSet
import Derived.Maps.Views
namespace Go.Proofs.YtaceogpdjbikiaaGreatDoor

open Go.RowKit Go.Maps

/-- An entry of a map's literal: as an assignment. -/
theorem wpList_insert_own7 {H : Type} {P : Program} (w : World) {ops : Array Oper} {rest : List Oper} {o : Oper} {a : Go.Act} {Q : Exit → Go.Act → World → Prop}
    (hg : o.guard = none) (m x v : Operand) (t : TypeId) (hop : o.op = Op.insert t m x v)
    (k e : TypeId) (K : Keyed P k) (ht : P.underlying t = some (.map k e)) (R : Value → Option (DataW H × List MemPlace)) (b n : Nat) (D : DataW H)
    (hm : a.eval m = .map (some b)) (hown : w.ownsMap P k R b n D) (hn : n < maxLen) (key val : Value) (kl : Lit) (hx : a.eval x = key) (hv : a.eval v = val) (hkey : keyOf P k key = some kl)
    (d : DataW H) (ps : List MemPlace) (hval : R val = some (d, ps))
    (hK : ∀ w', w'.ownsMap P k R b (n + 1) (D.put kl d) → w.grownBy w' (some b) → wpList P ops Q rest (a.put o.dst undef) w') :
    wpList P ops Q (o :: rest) a w := by
  refine wpList_plain hg fun K' hK' => ?_
  obtain ⟨w', hrun, r1, r2⟩ := hown.update K ht hn hkey hval
  unfold Oper.wp
  simp [execOp, hop, hm, hx, hv, hrun, Result.andThen]
  exact hK' _ _ (hK w' r1 r2)
/-- The map, with so many queues, none of which has a slab. -/
structure OpA (wr W : World) (sb M k : Nat) (Q E : Nat → Nat) (cs : Array Value) (D : DataW Unit) : Prop where
  below : Below wr.heap.size wr W
  shape : W.heap[sb]? = some (.cells cs 60 (0, 0))
  map : W.ownsMap Tryz.prog 3 ptrElem M k D
  keys : ∀ c : Nat, c < k → D.atKey (.int .i64 (c : Int)) .nil = .lit (.int .i64 (Q c : Int))
  cell : ∀ c, c < k → W.heap[Q c]? = some (.cells #[.slice (some ⟨E c, 0, none⟩) 0 0] 113 (0, 0))
  row : ∀ c, c < k → W.heap[E c]? = some (.cells #[] 73 (0, 0))
  lo : wr.heap.size ≤ M ∧ wr.heap.size ≤ sb ∧ ∀ c, c < k → wr.heap.size ≤ Q c ∧ wr.heap.size ≤ E c
  qne : ∀ c c', c < k → c' < k → Q c = Q c' → c = c'
  ene : ∀ c c', c < k → c' < k → E c = E c' → c = c'
theorem OpA.start {wr w1 : World} (hb : Below wr.heap.size wr w1) (cs : Array Value) : OpA wr ((w1.alloc (.cells cs 60 (0, 0))).alloc (.map #[] 0)) w1.heap.size (w1.heap.size + 1) 0 (fun _ => 0) (fun _ => 0) cs (.map []) := by
  have hs := hb.size
  refine ⟨((hb.alloc hb.size _).alloc (by simp; omega) _), ?_, ?_, fun c h => absurd h (Nat.not_lt_zero _), fun c h => absurd h (Nat.not_lt_zero _), fun c h => absurd h (Nat.not_lt_zero _), ⟨by omega, hs, fun c h => absurd h (Nat.not_lt_zero _)⟩, fun c c' h => absurd h (Nat.not_lt_zero _), fun c c' h => absurd h (Nat.not_lt_zero _)⟩
  · rw [Below.heap_alloc _ _ _ (by simp)]; exact heap_alloc_new w1 _
  · have h := World.ownsMap_made (w1.alloc (.cells cs 60 (0, 0))) Tryz.prog 3 ptrElem
    have e : (w1.alloc (.cells cs 60 (0, 0))).heap.size = w1.heap.size + 1 := by simp
    rw [e] at h
    exact h
theorem OpA.step {wr W w2 : World} {sb M k : Nat} {Q E : Nat → Nat} {cs : Array Value} {D : DataW Unit} (h : OpA wr W sb M k Q E cs D)
    (hm : w2.ownsMap Tryz.prog 3 ptrElem M (k + 1) (D.put (.int .i64 (k : Int)) (.lit (.int .i64 ((W.heap.size + 1 : Nat) : Int)))))
    (hg : ((W.alloc (.cells #[] 73 (0, 0))).alloc (.cells #[.slice (some ⟨W.heap.size, 0, none⟩) 0 0] 113 (0, 0))).grownBy w2 (some M)) :
    OpA wr w2 sb M (k + 1) (upd Q k (W.heap.size + 1)) (upd E k W.heap.size) cs (D.put (.int .i64 (k : Int)) (.lit (.int .i64 ((W.heap.size + 1 : Nat) : Int)))) := by
  have hMl := h.map.lt
  have hne : ∀ (q : Nat) (x : Array Value) (t : TypeId), W.heap[q]? = some (.cells x t (0, 0)) → q ≠ M := fun q x t hq e => by
    obtain ⟨es, cl, h1, _⟩ := h.map
    rw [e, h1] at hq; cases hq
  have hsz : ((W.alloc (.cells #[] 73 (0, 0))).alloc (.cells #[.slice (some ⟨W.heap.size, 0, none⟩) 0 0] 113 (0, 0))).heap.size = W.heap.size + 2 := by simp
  have old : ∀ (q : Nat) (x : Array Value) (t : TypeId), W.heap[q]? = some (.cells x t (0, 0)) → w2.heap[q]? = some (.cells x t (0, 0)) := fun q x t hq => by
    have hl := (Array.getElem?_eq_some_iff.1 hq).1
    rw [hg.block q (by rw [hsz]; omega) (by simpa using hne q x t hq), Below.heap_alloc _ _ _ (by simp; omega), Below.heap_alloc _ _ _ hl]
    exact hq
  have newE : w2.heap[W.heap.size]? = some (.cells #[] 73 (0, 0)) := by
    rw [hg.block _ (by rw [hsz]; omega) (by simp; omega), Below.heap_alloc _ _ _ (by simp)]
    exact heap_alloc_new W _
  have newQ : w2.heap[W.heap.size + 1]? = some (.cells #[.slice (some ⟨W.heap.size, 0, none⟩) 0 0] 113 (0, 0)) := by
    rw [hg.block _ (by rw [hsz]; omega) (by simp; omega)]
    have h1 := heap_alloc_new (W.alloc (.cells #[] 73 (0, 0))) (.cells #[.slice (some ⟨W.heap.size, 0, none⟩) 0 0] 113 (0, 0))
    have e : (W.alloc (.cells #[] 73 (0, 0))).heap.size = W.heap.size + 1 := by simp
    rw [e] at h1
    exact h1
  have hws := h.below.size
  have qlt : ∀ c, c < k → Q c < W.heap.size := fun c hc => (Array.getElem?_eq_some_iff.1 (h.cell c hc)).1
  have elt : ∀ c, c < k → E c < W.heap.size := fun c hc => (Array.getElem?_eq_some_iff.1 (h.row c hc)).1
  have each : ∀ (p : Nat → Prop), (∀ c, c < k → p c) → p k → ∀ c, c < k + 1 → p c := fun p h1 h2 c hc => by
    by_cases e : c = k
    · rw [e]; exact h2
    · exact h1 c (by omega)
  refine ⟨?_, old _ _ _ h.shape, hm, each _ (fun c hc => ?_) ?_, each _ (fun c hc => ?_) ?_, each _ (fun c hc => ?_) ?_, ⟨h.lo.1, h.lo.2.1, each _ (fun c hc => ?_) ?_⟩, fun c c' hc hc' e => ?_, fun c c' hc hc' e => ?_⟩
  · exact ((h.below.alloc h.below.size _).alloc (by simp; omega) _).grown hg (by rw [hsz]; omega) (fun q hq => by
      have : M = q := by simpa using hq
      rw [← this]; exact h.lo.1)
  · rw [atKey_put_other (by simp; omega), upd_other _ _ (by omega)]; exact h.keys c hc
  · rw [atKey_put_same h.map.isMap (by simp [WideAt.IsKeyLit]), upd_same]
  · rw [upd_other _ _ (by omega), upd_other _ _ (by omega)]; exact old _ _ _ (h.cell c hc)
  · rw [upd_same, upd_same]; exact newQ
  · rw [upd_other _ _ (by omega)]; exact old _ _ _ (h.row c hc)
  · rw [upd_same]; exact newE
  · rw [upd_other _ _ (by omega), upd_other _ _ (by omega)]; exact h.lo.2.2 c hc
  · rw [upd_same, upd_same]; omega
  · by_cases e1 : c = k
    · by_cases e2 : c' = k
      · omega
      · rw [e1, upd_same, upd_other _ _ e2] at e
        have := qlt c' (by omega); omega
    · by_cases e2 : c' = k
      · rw [e2, upd_same, upd_other _ _ e1] at e
        have := qlt c (by omega); omega
      · rw [upd_other _ _ e1, upd_other _ _ e2] at e
        exact h.qne c c' (by omega) (by omega) e
  · by_cases e1 : c = k
    · by_cases e2 : c' = k
      · omega
      · rw [e1, upd_same, upd_other _ _ e2] at e
        have := elt c' (by omega); omega
    · by_cases e2 : c' = k
      · rw [e2, upd_same, upd_other _ _ e1] at e
        have := elt c (by omega); omega
      · rw [upd_other _ _ e1, upd_other _ _ e2] at e
        exact h.ene c c' (by omega) (by omega) e
/-- A pool with no slab yet. -/
def lay0 (P M : Nat) (Q E : Nat → Nat) : Lay := ⟨P, M, .slice none 0 0, fun _ => 0, Q, fun c => .slice (some ⟨E c, 0, none⟩) 0 0, fun _ => []⟩
theorem OpA.pool {wr W : World} {sb M : Nat} {Q E : Nat → Nat} {cs : Array Value} {D : DataW Unit} (h : OpA wr W sb M 3 Q E cs D) (dv : Value) (sh : V.Sh) :
    PoAt (W.alloc (.cells (poolCells (lay0 W.heap.size M Q E) dv sh) 78 (0, 0))) (lay0 W.heap.size M Q E) dv sh [] [] ∧ Qs (lay0 W.heap.size M Q E) [] [] ∧ (∀ k ∈ kfoot (lay0 W.heap.size M Q E) 0, wr.heap.size ≤ k) ∧ Below wr.heap.size wr (W.alloc (.cells (poolCells (lay0 W.heap.size M Q E) dv sh) 78 (0, 0))) := by
  have al : ∀ (k : Nat) (o o' : Obj), W.heap[k]? = some o → (W.alloc o').heap[k]? = some o := fun k o o' hk => (Below.heap_alloc _ _ _ (Array.getElem?_eq_some_iff.1 hk).1).trans hk
  refine ⟨⟨heap_alloc_new W _, ⟨rfl, .inl ⟨rfl, rfl⟩⟩, fun i hi => absurd hi (Nat.not_lt_zero _), ⟨D, 3, h.map.alloc _, h.keys⟩, fun c hc => ⟨al _ _ _ (h.cell c hc), rfl, .inr ⟨E c, 0, #[], rfl, Nat.zero_le _, al _ _ _ (h.row c hc), Nat.le_refl _, Nat.zero_le _, rfl, rfl⟩⟩, fun c c' hc hc' => h.qne c c' hc hc', fun c c' g hc hc' h1 h2 => ?_, fun c g hc h1 h2 => (by cases h2)⟩, ⟨fun c hc => H.QL.nil, fun c hc x hx => (by cases hx), fun c hc j hj => absurd hj (Nat.not_lt_zero _)⟩, fun k hk => ?_, h.below.alloc h.below.size _⟩
  · have e1 : E c = g := by simpa [lay0, Value.ownBlock] using h1
    have e2 : E c' = g := by simpa [lay0, Value.ownBlock] using h2
    exact h.ene c c' hc hc' (by rw [e1, e2])
  · rcases mem_kfoot.1 hk with e | e | e | ⟨i, hi, _⟩ | ⟨c, hc, e⟩
    · rw [e]; exact h.below.size
    · rw [e]; exact h.lo.1
    · cases mem_ownL.1 e
    · exact absurd hi (Nat.not_lt_zero _)
    · rcases List.mem_cons.1 e with e | e
      · rw [e]; exact (h.lo.2.2 c hc).1
      · have e1 : E c = k := by simpa [lay0, Value.ownBlock] using mem_ownL.1 e
        rw [← e1]; exact (h.lo.2.2 c hc).2
theorem getD_app {l : List Nat} {t i : Nat} : (l ++ [t]).getD i 0 = if i = l.length then t else l.getD i 0 := by
  simp only [List.getD_eq_getElem?_getD, List.getElem?_append]
  by_cases h : i < l.length
  · rw [if_pos h, if_neg (by omega)]
  · rw [if_neg h]
    by_cases e : i = l.length
    · rw [if_pos e, e, Nat.sub_self]; rfl
    · rw [if_neg e, List.getElem?_eq_none (by simp; omega), List.getElem?_eq_none (by omega)]
/-- A slab more. -/
theorem PoAt.grow {w w' : World} {y : Lay} {dv : Value} {sh : V.Sh} {ws xs : List Nat} (h : PoAt w y dv sh ws xs) (hx : xs.length = ws.length) (hq : ∀ c, c < 3 → ∀ x ∈ y.L c, x < ws.length) {g t : Nat} {v' : Value}
    (hrow : w'.heap[y.P]? = some (.cells (poolCells { y with sv := v' } dv sh) 78 (0, 0)))
    (hsl : w'.ownsRow 0 73 1 v' (ws.length + 1) ((List.range ws.length).map (sptr y.S) ++ [.pointer (some ⟨g, 0, none⟩)]))
    (hst : StkAt w' g ws.length t 0) (hkeep : ∀ k, k < w.heap.size → k ≠ y.P → k ∉ ownL y.sv → w'.heap[k]? = w.heap[k]?)
    (hv : ∀ b, v'.ownBlock = some b → y.sv.ownBlock = some b ∨ w.heap.size ≤ b) (_hg : w.heap.size ≤ g) :
    PoAt w' { y with sv := v', S := upd y.S ws.length g } dv sh (ws ++ [t]) (xs ++ [0]) := by
  have hlen : (ws ++ [t]).length = ws.length + 1 := by simp
  have hmap : ∀ l : List Nat, (∀ x ∈ l, x < ws.length) → l.map (sptr (upd y.S ws.length g)) = l.map (sptr y.S) := fun l hl => List.map_congr_left (fun x hxm => by
    show Value.pointer (some ⟨upd y.S ws.length g x, 0, none⟩) = _
    rw [upd_other _ _ (by have := hl x hxm; omega)]; rfl)
  have hl := h.lt
  refine ⟨hrow, ?_, fun i hi => ?_, h.map.keep (hkeep _ h.map.lt (fun e => ?_) (fun e => ?_)), fun c hc => ?_, h.qne, h.vne, fun c b hc h1 h2 => ?_⟩
  · rw [hlen, List.range_succ, List.map_append, hmap _ (fun x hx => List.mem_range.1 hx)]
    have e : List.map (sptr (upd y.S ws.length g)) [ws.length] = [.pointer (some ⟨g, 0, none⟩)] := by
      show [Value.pointer (some ⟨upd y.S ws.length g ws.length, 0, none⟩)] = _
      rw [upd_same]
    rw [e]
    exact hsl
  · rw [hlen] at hi
    show StkAt w' (upd y.S ws.length g i) i ((ws ++ [t]).getD i 0) ((xs ++ [0]).getD i 0)
    rw [getD_app, getD_app, hx]
    by_cases e : i = ws.length
    · subst e; rw [if_pos rfl, if_pos rfl, upd_same]; exact hst
    · rw [if_neg e, if_neg e, upd_other _ _ e]
      have hs := h.s_ne (i := i) (by omega)
      exact (h.stock i (by omega)).keep (hkeep _ (h.stock i (by omega)).lt hs.1 hs.2.2.1)
  · obtain ⟨es, cl, h2⟩ := h.map.obj
    have h3 := h.row
    rw [← e, h2] at h3; cases h3
  · obtain ⟨es, cl, h2⟩ := h.map.obj
    rcases h.slabs.2 with ⟨h3, _⟩ | ⟨g', cap, cur, h3, hb, hg', _⟩
    · rw [h3] at e; cases mem_ownL.1 e
    · rw [h3] at e
      have : g' = y.M := by simpa [Value.ownBlock] using mem_ownL.1 e
      rw [this, h2] at hg'; cases hg'
  · have hqc := h.queue c hc
    have hk : ∀ k ∈ y.Q c :: ownL (y.V c), w'.heap[k]? = w.heap[k]? := fun k hk => by
      obtain ⟨n1, _, n3, _⟩ := h.q_ne hc k hk
      exact hkeep k (hqc.lt k hk) n1 n3
    refine ⟨(hk _ (List.mem_cons_self ..)).trans hqc.cell, ?_⟩
    show w'.ownsRow 0 73 1 (y.V c) (y.L c).length ((y.L c).map (sptr (upd y.S ws.length g)))
    rw [hmap _ (hq c hc)]
    refine ⟨hqc.own.1, ?_⟩
    rcases hqc.own.2 with e | ⟨g', cap, cur, e, hb, hg', rest⟩
    · exact .inl e
    · exact .inr ⟨g', cap, cur, e, hb, (hk g' (List.mem_cons_of_mem _ (mem_ownL.2 (by rw [e]; rfl)))).trans hg', rest⟩
  · rcases hv b h2 with e | e
    · exact h.sne c b hc h1 e
    · have := ((h.queue c hc).own.lt b h1).2; omega
theorem used_app {ws xs : List Nat} {t : Nat} (hx : xs.length = ws.length) {j : Nat} (hj : j < ws.length) : used (ws ++ [t]) (xs ++ [0]) j = used ws xs j := by
  unfold used
  rw [getD_app, getD_app, if_neg (by omega), if_neg (by omega)]
theorem Good7.grow {ws xs : List Nat} (h : Good7 ws xs) (h63 : ws.length < 63) {t : Nat} (ht : S.rgt t = true) : Good7 (ws ++ [t]) (xs ++ [0]) := by
  refine ⟨by simp [h.len], by simp; omega, fun i hi => ?_⟩
  rw [getD_app, getD_app, h.len]
  by_cases e : i = ws.length
  · rw [if_pos e, if_pos e]; exact P.Pair.of_free ht
  · rw [if_neg e, if_neg e]; exact h.pair i (by simp at hi; omega)
theorem Qs.grow {y : Lay} {ws xs : List Nat} {t g : Nat} {v' : Value} (h : Qs y ws xs) (hx : xs.length = ws.length) : QsBut { y with sv := v', S := upd y.S ws.length g } (ws ++ [t]) (xs ++ [0]) ws.length := by
  have hlen : (ws ++ [t]).length = ws.length + 1 := by simp
  refine ⟨h.ql, fun c hc x hxm => by rw [hlen]; have := h.qlt c hc x hxm; omega, fun c hc j hj hne hr => ?_⟩
  rw [hlen] at hj
  rw [used_app hx (by omega)] at hr
  exact h.at hc (by omega) hr
theorem kfoot_grow {y : Lay} {n g B : Nat} {v' : Value} (hv : ∀ b, v'.ownBlock = some b → y.sv.ownBlock = some b ∨ B ≤ b) (hg : B ≤ g) : ∀ k ∈ kfoot { y with sv := v', S := upd y.S n g } (n + 1), k ∈ kfoot y n ∨ B ≤ k := by
  intro k hk
  rcases mem_kfoot.1 hk with h | h | h | ⟨i, hi, h⟩ | h
  · exact .inl (mem_kfoot.2 (.inl h))
  · exact .inl (mem_kfoot.2 (.inr (.inl h)))
  · rcases hv k (mem_ownL.1 h) with e | e
    · exact .inl (mem_kfoot.2 (.inr (.inr (.inl (mem_ownL.2 e)))))
    · exact .inr e
  · change upd y.S n g i = k at h
    by_cases e : i = n
    · rw [e, upd_same] at h; exact .inr (by omega)
    · rw [upd_other _ _ e] at h
      exact .inl (mem_kfoot.2 (.inr (.inr (.inr (.inl ⟨i, by omega, h⟩)))))
  · exact .inl (mem_kfoot.2 (.inr (.inr (.inr (.inr h)))))
end Go.Proofs.YtaceogpdjbikiaaGreatDoor
