
/- Layer 7: a pool beside its device, and the places that were told: a row of the call's own that grows. -/
import Derived.Test.YtaceogpdjbikiaaGreatDoorPoAgL
namespace Go.Proofs.YtaceogpdjbikiaaGreatDoor

open Go.RowKit

/-- A pool, and the row tv of the places l; the blocks X stand apart from all. -/
structure TPool (w0 : World) (pv : Value) (p : Option Addr) (d : V.Dv) (sh : V.Sh) (ws xs X : List Nat) (tv : Value) (l : List Int) (w : World) : Prop where
  pool : PoolK w0 pv p d sh ws xs (ownL tv ++ X) w
  row : w.ownsRow w0.heap.size 3 1 tv l.length (l.map (Value.int .i64))
  fits : ∀ z ∈ l, I64 z
  apart : ∀ k ∈ X, k ∉ ownL tv
section

variable {w0 w w' : World} {pv : Value} {p : Option Addr} {d : V.Dv} {sh : V.Sh} {ws xs X : List Nat} {tv : Value} {l : List Int}

theorem owns_keep {B e n : Nat} {v : Value} {vs : List Value} (h : w.ownsRow B e 1 v n vs) (hk : KeepB (ownL v) w w') : w'.ownsRow B e 1 v n vs := by
  refine ⟨h.1, ?_⟩
  rcases h.2 with h' | ⟨g, cap, cur, h1, h2, hg, h3⟩
  · exact .inl h'
  · exact .inr ⟨g, cap, cur, h1, h2, (hk g (mem_ownL.2 (by rw [h1]; rfl))).trans hg, h3⟩
/-- A call of the pool, or of its device. -/
theorem TPool.call {d' : V.Dv} {ws' xs' : List Nat} (h : TPool w0 pv p d sh ws xs X tv l w) (hp : PoolK w0 pv p d' sh ws' xs' (ownL tv ++ X) w') (hk : KeepB (ownL tv ++ X) w w') : TPool w0 pv p d' sh ws' xs' X tv l w' :=
  ⟨hp, owns_keep h.row (fun k hk' => hk k (List.mem_append_left _ hk')), h.fits, h.apart⟩
theorem TPool.newer {X' : List Nat} (h : TPool w0 pv p d sh ws xs X tv l w) (hb : Below w.heap.size w w') (hX : ∀ k ∈ X', k ∈ X ∨ (w.heap.size ≤ k ∧ k < w'.heap.size)) : TPool w0 pv p d sh ws xs X' tv l w' := by
  have hlt : ∀ k ∈ ownL tv, k < w.heap.size := fun k hk => h.pool.xlt k (List.mem_append_left _ hk)
  refine ⟨h.pool.newer hb (fun k hk => ?_), owns_below h.row hb, h.fits, fun k hk hm => ?_⟩
  · rcases List.mem_append.1 hk with e | e
    · exact .inl (List.mem_append_left _ e)
    · rcases hX k e with e | e
      · exact .inl (List.mem_append_right _ e)
      · exact .inr e
  · rcases hX k hk with e | e
    · exact h.apart k e hm
    · have := hlt k hm; omega
/-- One more place. -/
theorem TPool.push {g cap : Nat} {x : Int} (h : TPool w0 pv p d sh ws xs X tv l w) {o : Obj} (hx : I64 x)
    (ho : w'.ownsRow w0.heap.size 3 1 (.slice (some ⟨g, 0, none⟩) (l.length + 1) cap) (l.length + 1) (l.map (Value.int .i64) ++ [.int .i64 x])) (hg : (w.alloc o).grownBy w' tv.ownBlock) (hat : tv.ownBlock = some g ∨ g = w.heap.size + 1) :
    TPool w0 pv p d sh ws xs X (.slice (some ⟨g, 0, none⟩) (l.length + 1) cap) (l ++ [x]) w' := by
  have hw0 : w0.heap.size ≤ w.heap.size := h.pool.below0.size
  have hlt : ∀ k ∈ ownL tv ++ X, k < w.heap.size := h.pool.xlt
  have honly : Only (ownL tv) w w' := (Only.of_below (F := ownL tv) ((Below.refl _ _).alloc (Nat.le_refl _) o)).grown hg (fun k e => .inl (mem_ownL.2 e))
  have hgl : g < w'.heap.size := by
    rcases ho.2 with ⟨h1, _⟩ | ⟨g', cap', cur, h1, _, hr, _⟩
    · cases h1
    · simp only [Value.slice.injEq, Option.some.injEq, Addr.mk.injEq] at h1
      rw [h1.1.1]; exact (Array.getElem?_eq_some_iff.1 hr).1
  have hgg : ∀ k ∈ ownL (.slice (some ⟨g, 0, none⟩) (l.length + 1) cap), k = g := fun k hk => by
    have := mem_ownL.1 hk
    simp only [Value.ownBlock, Option.some.injEq] at this
    exact this.symm
  have hsz : (w.alloc o).heap.size = w.heap.size + 1 := by simp
  have hin : g ∈ ownL tv ∨ w.heap.size ≤ g := by
    rcases hat with e | e
    · exact .inl (mem_ownL.2 e)
    · right; omega
  refine ⟨h.pool.wrote honly (fun k hk => .inl (List.mem_append_left _ hk)) (fun k hk => owns_block h.row k (mem_ownL.1 hk)) (fun k hk => ?_) (fun k hk => ?_), ?_, fun z hz => ?_, fun k hk hm => ?_⟩
  · rcases List.mem_append.1 hk with e | e
    · rw [hgg k e]
      rcases hin with e | e
      · exact .inl (List.mem_append_left _ e)
      · exact .inr e
    · exact .inl (List.mem_append_right _ e)
  · rcases List.mem_append.1 hk with e | e
    · rw [hgg k e]; exact hgl
    · have := hlt k (List.mem_append_right _ e); have := honly.size; omega
  · rw [List.length_append, List.map_append]; exact ho
  · rcases List.mem_append.1 hz with e | e
    · exact h.fits z e
    · rw [List.mem_singleton.1 e]; exact hx
  · have e := hgg k hm
    subst e
    rcases hin with e | e
    · exact h.apart k hk e
    · have := hlt k (List.mem_append_right _ hk); omega
theorem TPool.ints (h : TPool w0 pv p d sh ws xs X tv l w) : IsInts .i64 w tv l := IsInts.of_own h.row (fun z hz => by
  have := h.fits z hz
  unfold I64 at this
  simp [Lit.wf, IntKind.min, IntKind.max, IntKind.signed, IntKind.bits]
  omega)
theorem TPool.start (h : PoolK w0 pv p d sh ws xs X w) : TPool w0 pv p d sh ws xs X (.slice none 0 0) [] w :=
  ⟨h, owns_nil, (fun _ hz => by cases hz), (fun _ _ hm => by cases hm)⟩
/-- The place that an act means. -/
theorem pick7 (x : Int) {n : Nat} (hn : 0 < n) (hn2 : n ≤ 1000) : ∃ (m : Int) (j : Nat), wrap64 (x.tmod n + n) = m ∧ m.tmod n = (j : Int) ∧ j < n := by
  have h1 : -(n : Int) < x.tmod n ∧ x.tmod n < n := by
    have h2 := Int.tmod_lt_of_pos x (show (0 : Int) < n by omega)
    have h3 := Int.tmod_lt_of_pos (-x) (show (0 : Int) < n by omega)
    rw [Int.neg_tmod] at h3
    omega
  have h2 := Int.tmod_nonneg (n : Int) (show 0 ≤ x.tmod n + n by omega)
  have h3 := Int.tmod_lt_of_pos (x.tmod n + n) (show (0 : Int) < n by omega)
  obtain ⟨j, hj⟩ := Int.eq_ofNat_of_zero_le h2
  exact ⟨_, j, IntWalk.wrap64_in _ (by omega), hj, by omega⟩
theorem TPool.pick {tb : Option Addr} {tn tc : Nat} (h : TPool w0 pv p d sh ws xs X (.slice tb tn tc) l w) {j : Nat} (hj : j < l.length) :
    ∃ b o, tb = some ⟨b, o, none⟩ ∧ w.cell? ⟨b, o + j, none⟩ = some (.int .i64 (l.getD j 0)) ∧ I64 (l.getD j 0) := by
  obtain ⟨b, o, h1, _, _, _, h2⟩ := h.ints.at6 hj
  refine ⟨b, o, h1, h2, h.fits _ ?_⟩
  rw [List.getD_eq_getElem?_getD, List.getElem?_eq_getElem hj]; exact List.getElem_mem _
end

end Go.Proofs.YtaceogpdjbikiaaGreatDoor
