/- The map of the lines that are touched; a device beside a map that is written. -/
import Derived.Test.YtdhjjiholmcagaaNvQ
import Derived.Test.YtdhjjiholmcagaaMayL
import Derived.Maps.OwnSet
namespace Go.Proofs.Ytdhjjiholmcagaa
open Go.RowKit Go.Maps

theorem lawI : Keyed Try.prog 3 := int_keyed Try.underlying3
theorem zeroB (w : World) : (zeroValue 4).run Try.prog w = .ok (.bool false) w := by kernel_rfl
/-- Block b is the map of the lines that the acts l touch. -/
def Tch (w : World) (b n : Nat) (l : List Act) : Prop :=
  ∃ D : DataW Unit, w.ownsMap Try.prog 3 (plainElem Try.prog 4) b n D ∧ ∀ j : Nat, j < 8 → D.atKey (.int .i64 (j : Int)) (.lit (.bool false)) = .lit (.bool (l.any (V.touches · j)))
theorem Tch.made (w : World) : Tch (w.alloc (.map #[] 0)) w.heap.size 0 [] := ⟨.map [], World.ownsMap_made w _ _ _, fun _ _ => rfl⟩
theorem Tch.at {w w' : World} {b n : Nat} {l : List Act} (h : Tch w b n l) (hb : w'.heap[b]? = w.heap[b]?) : Tch w' b n l := by
  obtain ⟨D, ⟨es, clock, h1, h2⟩, h3⟩ := h
  exact ⟨D, ⟨es, clock, hb.trans h1, h2⟩, h3⟩
theorem Tch.lt {w : World} {b n : Nat} {l : List Act} (h : Tch w b n l) : b < w.heap.size := by
  obtain ⟨D, h1, _⟩ := h; exact h1.lt
theorem Tch.drewN {w : World} {b n : Nat} {l : List Act} (h : Tch w b n l) (m : Nat) : Tch (w.drewN m) b n l := h.at rfl
theorem Tch.skip {w : World} {b n : Nat} {l : List Act} (h : Tch w b n l) (a : Act) (ha : a.off < 0) : Tch w b n (l ++ [a]) := by
  obtain ⟨D, h1, h3⟩ := h
  refine ⟨D, h1, fun j hj => ?_⟩
  have ht : V.touches a j = false := by simp [V.touches]; intro h; omega
  rw [h3 j hj, List.any_append]; simp [ht]
theorem Tch.put {w' : World} {b n : Nat} {l : List Act} {D : DataW Unit} (hD : IsMap D) (h3 : ∀ j : Nat, j < 8 → D.atKey (.int .i64 (j : Int)) (.lit (.bool false)) = .lit (.bool (l.any (V.touches · j)))) (a : Act) (ha : 0 ≤ a.off) (x : Int) (hx : x = a.off / 64)
    (h : w'.ownsMap Try.prog 3 (plainElem Try.prog 4) b n (D.put (.int .i64 x) (.lit (.bool true)))) : Tch w' b n (l ++ [a]) := by
  refine ⟨_, h, fun j hj => ?_⟩
  rw [List.any_append]
  by_cases e : x = (j : Int)
  · subst e
    have ht : V.touches a j = true := by simp [V.touches]; omega
    rw [atKey_put_same hD (by simp [WideAt.IsKeyLit])]; simp [ht]
  · have ht : V.touches a j = false := by simp [V.touches]; omega
    rw [atKey_put_other (fun h => e (by injection h with _ h2; exact h2.symm)), h3 j hj]; simp [ht]
theorem Tch.look {w : World} {b n : Nat} {l : List Act} (h : Tch w b n l) (j : Nat) (hj : j < 8) :
    (Instr.lookup 60 (.map (some b)) (.int .i64 (j : Int)) false).run Try.prog w = .ok (.bool (l.any (V.touches · j))) w := by
  obtain ⟨D, h1, h3⟩ := h
  have hw : (Lit.int .i64 (j : Int)).wf = true := by simp [Lit.wf, IntKind.min, IntKind.max, IntKind.signed, IntKind.bits]; omega
  obtain ⟨v, ps, hrun, hv⟩ := h1.lookup lawI Try.underlying60 (zeroB w) (plainElem_bool Try.underlying4 false) (keyOf_int_mk Try.underlying3 hw)
  rw [h3 j hj] at hv
  rw [hrun]
  unfold plainElem at hv
  rw [Try.underlying4] at hv
  cases v <;> simp at hv
  rw [hv.1]

theorem IsInts.beside {k : IntKind} {w w' : World} {g o n c b : Nat} {zs : List Int} (h : IsInts k w (.slice (some ⟨g, o, none⟩) n c) zs) (hg : w.grownBy w' (some b)) (hne : g ≠ b) : IsInts k w' (.slice (some ⟨g, o, none⟩) n c) zs := by
  obtain ⟨a, c', e, h1, h2, h3, h4⟩ := h
  refine ⟨a, c', e, h1, h2, ?_, h4⟩
  rcases h3 with e0 | ⟨b', o', e1, hc⟩
  · exact .inl e0
  · refine .inr ⟨b', o', e1, fun i hi => ?_⟩
    subst e1
    obtain ⟨⟨rfl, rfl⟩, _⟩ := by simpa using e
    have hl := World.block_lt_of_cell? w _ (hc i hi)
    exact (World.cell?_of_block (w := w) (w' := w') (a := ⟨g, o + i, none⟩) (hg.block g hl (fun e => hne (by cases e; rfl)))).trans (hc i hi)
theorem IsBytes.beside {w w' : World} {g o n c b : Nat} {zs : List Int} (h : IsBytes w (.slice (some ⟨g, o, none⟩) n c) zs) (hg : w.grownBy w' (some b)) (hne : g ≠ b) : IsBytes w' (.slice (some ⟨g, o, none⟩) n c) zs := IsInts.beside h hg hne

/-- The device, beside a block that is written. -/
theorem DevK.other {w0 wr w' : World} {v : Value} {d : V.Dv} {K : List Nat} (h : DevK w0 v d K wr) (b : Nat) (hb : b ∈ K) (hlo : w0.heap.size ≤ b) (hg : wr.grownBy w' (some b)) : DevK w0 v d K w' := by
  obtain ⟨F, h1, h2, h3, h4⟩ := h
  have hl := (h4 b hb).1
  refine ⟨F, h1.only (Only.grown (F := [b]) (Only.refl [b] wr) hg (fun k hk => by cases hk; exact .inl (List.mem_singleton.2 rfl))) (fun k hk hf => ?_), h2, h3.grown hg h3.size (fun k hk => by cases hk; exact hlo), fun k hk => ⟨(h4 k hk).1, Nat.lt_of_lt_of_le (h4 k hk).2 hg.size⟩⟩
  first
    | (obtain rfl := List.mem_singleton.1 hf; exact hl hk)
    | (obtain rfl := List.mem_singleton.1 hk; exact hl hf)
theorem DevK.crash {w0 wr : World} {v : Value} {d : V.Dv} {K : List Nat} (h : DevK w0 v d K wr) (PA : Option Addr) (pn pc : Nat) (pz : List Int) (hp : IsBytes w0 (.slice PA pn pc) pz) (hp2 : pz ≠ [] → ∀ a, PA = some a → a.block < w0.heap.size) (hs : d.steps ≤ 1000000000) :
    Calls Try.prog 23 #[v, .slice PA pn pc] wr fun e w' => e = .returned (.tuple #[]) ∧ DevK w0 v (d.crash pz) K w' ∧ KeepB K wr w' := by
  obtain ⟨F, h1, h2, h3, h4⟩ := h
  refine (dev_crash h1 PA pn pc pz (hp.below h3) (fun hz a e hf => by have := hp2 hz a e; have := h2 _ hf; omega) hs).mono ?_
  rintro e w' ⟨hR, F', k1, k2, k3⟩
  refine ⟨hR, ⟨F', k1, fun k hk => ?_, h3.trans (k2.below h3.size h2), fun k hk => ⟨fun hf => ?_, Nat.lt_of_lt_of_le (h4 k hk).2 k2.size⟩⟩, fun k hk => k2.block k (h4 k hk).2 (h4 k hk).1⟩
  · rcases k3 k hk with e | e
    · exact h2 k e
    · exact Nat.le_trans h3.size e
  · rcases k3 k hf with e | e
    · exact (h4 k hk).1 e
    · have := (h4 k hk).2; omega
end Go.Proofs.Ytdhjjiholmcagaa
