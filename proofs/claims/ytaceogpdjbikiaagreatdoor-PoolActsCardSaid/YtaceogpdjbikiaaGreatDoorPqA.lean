
/- Layer 7: a queue in memory: a heap of slabs behind pointers; its methods, as container/heap calls them. -/
import Derived.Test.YtaceogpdjbikiaaGreatDoorPqM
import Derived.Test.YtaceogpdjbikiaaGreatDoorNd
import Derived.Deep.WholeRow
import Derived.BigQuiet
namespace Go.Proofs.YtaceogpdjbikiaaGreatDoor

open Go.RowKit

theorem wrap_run {P : Program} {w : World} (ts : Array TypeId) (t : TypeId) (a : Addr) (s r : String) : (Builtin.ssaWrapNilChk_ ts t #[.pointer (some a), strVal s, strVal r]).run P w = .ok (.pointer (some a)) w := rfl
/-- A method called through an interface value that holds a pointer; the method's receiver is a value. -/
theorem method_via {P : Program} {w : World} (n : Nat) {t e : TypeId} {name : String} {f : FuncId} {a : Addr} {v : Value}
    (hfind : ((P.info? t).bind fun i => i.methods.find? (·.name == name)).map (fun m => (m.path.toList.isEmpty, m.path.isEmpty, m.func)) = some (true, true, some (f, false)))
    (hu : P.underlying t = some (.pointer e)) (hload : (loadVar e a).run P w = .ok v w) : (method (n + 1) t (.pointer (some a)) name).run P w = .ok (f, v) w := by
  cases hi : P.info? t with
  | none => rw [hi] at hfind; cases hfind
  | some i =>
    rw [hi] at hfind
    simp only [Option.bind_some] at hfind
    cases hm : i.methods.find? (·.name == name) with
    | none => rw [hm] at hfind; cases hfind
    | some m =>
      rw [hm] at hfind
      simp only [Option.map_some, Option.some.injEq, Prod.mk.injEq, List.isEmpty_iff] at hfind
      obtain ⟨h1, h2, h3⟩ := hfind
      unfold method
      have h4 : m.path = #[] := by simpa using h2
      simp only [Sem.run_bind, typeInfo, hi, hm, h1, h2, h3, follow, receiverAt, run_underlying hu, Place.get, wrap_run, asAddr, hload, run_program, Result.andThen_ok, Sem.run_pure, if_true]
/-- .. the method's receiver is a pointer. -/
theorem method_ptr {P : Program} {w : World} (n : Nat) {t e : TypeId} {name : String} {f : FuncId} {a : Addr}
    (hfind : ((P.info? t).bind fun i => i.methods.find? (·.name == name)).map (fun m => (m.path.toList.isEmpty, m.path.isEmpty, m.func)) = some (true, true, some (f, true)))
    (hu : P.underlying t = some (.pointer e)) : (method (n + 1) t (.pointer (some a)) name).run P w = .ok (f, .pointer (some a)) w := by
  cases hi : P.info? t with
  | none => rw [hi] at hfind; cases hfind
  | some i =>
    rw [hi] at hfind
    simp only [Option.bind_some] at hfind
    cases hm : i.methods.find? (·.name == name) with
    | none => rw [hm] at hfind; cases hfind
    | some m =>
      rw [hm] at hfind
      simp only [Option.map_some, Option.some.injEq, Prod.mk.injEq, List.isEmpty_iff] at hfind
      obtain ⟨h1, _, h3⟩ := hfind
      unfold method
      simp [Sem.run_bind, typeInfo, hi, hm, h1, h3, follow, receiverAt, run_underlying hu, Place.get]

/-- The pointer to slab i, whose block is S i. -/
def sptr (S : Nat → Nat) (i : Nat) : Value := .pointer (some ⟨S i, 0, none⟩)
/-- A queue in block q: its slice is v, and it has the slabs L. -/
structure QAt (w : World) (S : Nat → Nat) (q : Nat) (v : Value) (L : List Nat) : Prop where
  cell : w.heap[q]? = some (.cells #[v] 113 (0, 0))
  own : w.ownsRow 0 73 1 v L.length (L.map (sptr S))
/-- Each slab has a block of its own; the first cell is its number. -/
def Nums (w : World) (S : Nat → Nat) (n : Nat) : Prop := ∀ i, i < n → ∃ a b, w.heap[S i]? = some (.cells #[.int .i64 (i : Int), a, b] 93 (0, 0))
theorem Nums.num {w : World} {S : Nat → Nat} {n i : Nat} (h : Nums w S n) (hi : i < n) : w.cell? ⟨S i, 0, none⟩ = some (.int .i64 (i : Int)) := by
  obtain ⟨a, b, e⟩ := h i hi
  exact cell_of_row w (S i) 0 _ _ _ e
theorem Nums.lt {w : World} {S : Nat → Nat} {n : Nat} (h : Nums w S n) (i : Nat) (hi : i < n) : S i < w.heap.size := World.block_lt_of_cell? w _ (h.num hi)
section

variable {w w' : World} {S : Nat → Nat} {q n : Nat} {v : Value} {L : List Nat}

theorem QAt.at (h : QAt w S q v L) : w.cell? ⟨q, 0, none⟩ = some v := cell_of_row w q 0 _ _ _ h.cell
theorem QAt.free (h : QAt w S q v L) : w.frozen? ⟨q, 0, none⟩ = false := frozen_of_row w q 0 _ _ h.cell
theorem QAt.lt (h : QAt w S q v L) : ∀ k ∈ q :: ownL v, k < w.heap.size := by
  intro k hk
  rcases List.mem_cons.1 hk with rfl | hk
  · exact (Array.getElem?_eq_some_iff.1 h.cell).1
  · exact (h.own.lt k (mem_ownL.1 hk)).2
theorem QAt.ne (h : QAt w S q v L) : v.ownBlock ≠ some q := by
  intro e
  rcases h.own.2 with ⟨rfl, _⟩ | ⟨g, cap, cur, rfl, _, hg, _⟩
  · cases e
  · simp only [Value.ownBlock, Option.some.injEq] at e
    subst e
    rw [h.cell] at hg
    simp only [Option.some.injEq, Obj.cells.injEq] at hg
    exact absurd hg.2.1 (by decide)
theorem QAt.form (h : QAt w S q v L) : ∃ a cap, v = .slice a L.length cap ∧ L.length ≤ cap ∧ cap ≤ maxLen := owns_form h.own
/-- What a queue that is not empty holds. -/
theorem QAt.get (h : QAt w S q v L) (h0 : 0 < L.length) : ∃ g cap, v = .slice (some ⟨g, 0, none⟩) L.length cap ∧ L.length ≤ cap ∧ cap ≤ maxLen ∧ (∀ i, i < L.length → w.cell? ⟨g, i, none⟩ = some (sptr S (L.getD i 0))) ∧ (∀ i, w.frozen? ⟨g, i, none⟩ = false) := by
  have hown := h.own
  rcases h.own.2 with ⟨_, h1⟩ | ⟨g, cap, cur, rfl, _, hg, h1, h2, _⟩
  · omega
  · refine ⟨g, cap, rfl, h1, h2, fun i hi => ?_, fun i => hown.frozenAt i⟩
    rw [hown.cellAt i (by omega)]
    simp [hi]
theorem QAt.only {F : List Nat} (h : QAt w S q v L) (ho : Only F w w') (hF : ∀ k ∈ F, k ∉ q :: ownL v) : QAt w' S q v L :=
  ⟨(ho.block q (h.lt q (by simp)) (fun hf => hF q hf (by simp))).trans h.cell, owns_only h.own ho (fun g hg hf => hF g hf (List.mem_cons_of_mem _ (mem_ownL.2 hg)))⟩
theorem QAt.drewN (h : QAt w S q v L) (m : Nat) : QAt (w.drewN m) S q v L := ⟨h.cell, h.own⟩
theorem Nums.only {F : List Nat} (h : Nums w S n) (ho : Only F w w') (hF : ∀ i, i < n → S i ∉ F) : Nums w' S n := by
  intro i hi
  obtain ⟨a, b, e⟩ := h i hi
  exact ⟨a, b, (ho.block _ (h.lt i hi) (hF i hi)).trans e⟩
theorem Nums.drewN (h : Nums w S n) (m : Nat) : Nums (w.drewN m) S n := h
/-- A cell of the queue's row is written. -/
theorem QAt.set {g cap : Nat} (h : QAt w S q (.slice (some ⟨g, 0, none⟩) L.length cap) L) (i x : Nat) : QAt (w.setCell ⟨g, i, none⟩ (sptr S x)) S q (.slice (some ⟨g, 0, none⟩) L.length cap) (L.set i x) ∧ Only [g] w (w.setCell ⟨g, i, none⟩ (sptr S x)) := by
  have ho := Only.setCell w ⟨g, i, none⟩ (sptr S x)
  have hne := h.ne
  refine ⟨⟨?_, ?_⟩, ho⟩
  · exact (ho.block q (h.lt q (by simp)) (fun e => hne (by rw [List.mem_singleton.1 e]; rfl))).trans h.cell
  · have h2 := h.own.stored i (sptr S x)
    rw [List.length_set, List.map_set]
    exact h2.1
end

theorem q_len (w : World) (a : Option Addr) (n c : Nat) : Calls Tryz.prog 73 #[.slice a n c] w fun e w' => e = .returned (.int .i64 (n : Int)) ∧ w = w' := by
  go_enter Tryz.func73, Tryz.ntmps73
  go_wp2
  go_ret
  exact ⟨rfl, rfl⟩
theorem q_less {w : World} {S : Nat → Nat} {q n : Nat} {v : Value} {L : List Nat} (h : QAt w S q v L) (hn : Nums w S n) (hL : ∀ x ∈ L, x < n) (i j : Nat) (hi : i < L.length) (hj : j < L.length) (hlen : L.length ≤ 1000) :
    Calls Tryz.prog 135 #[v, .int .i64 (i : Int), .int .i64 (j : Int)] w fun e w' => e = .returned (.bool (decide (L.getD i 0 < L.getD j 0))) ∧ ∃ m, w' = w.drewN m := by
  obtain ⟨g, cap, rfl, hc1, hc2, hcell, _⟩ := h.get (by omega)
  have hx := hcell i hi
  have hy := hcell j hj
  have nx := hn.num (hL _ (H.getD_mem hi))
  have ny := hn.num (hL _ (H.getD_mem hj))
  have HE : Hid (decide ((L.getD i 0 : Int) < (L.getD j 0 : Int)) = decide (L.getD i 0 < L.getD j 0)) := by show _ = _; simp
  unfold sptr at hx hy
  clear hcell h hn hL
  generalize L.getD i 0 = x at *
  generalize L.getD j 0 = y at *
  generalize S x = sx at *
  generalize S y = sy at *
  generalize L.length = n at *
  go_enter Tryz.func135, Tryz.ntmps135
  go_wp2_with fail
  go_quiet (fail)
  go_wp2
  go_ret
  exact ⟨by rw [← HE.out]; rfl, _, rfl⟩
end Go.Proofs.YtaceogpdjbikiaaGreatDoor
