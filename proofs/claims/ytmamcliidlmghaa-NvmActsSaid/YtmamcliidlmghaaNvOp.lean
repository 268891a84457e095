/- A slice of acts that came in, opened. -/
import Derived.Test.YtmamcliidlmghaaNvAa
import Derived.Deep.Slices
import Derived.Deep.Fields
import Derived.ChangeSame
import Derived.ChangeSlices
namespace Go.Proofs.Ytmamcliidlmghaa
open Go.ChangeShapes Go.WideShapes Go.RowKit Go.Deep

section
variable {H : Type} {enc : TypeId × Value → H} {P : Program} {w : World} {base : Nat} {spare : Nat → Bool} {held : Bool}
theorem open_slice_fields {t e : TypeId} {fs : Array Field} {fuel : Nat} {cs : List Value} {x : DataW H × List MemPlace} (ht : P.underlying t = some (.slice e)) (he : P.underlying e = some (.struct fs))
    (hone : oneCellFields P fs = true) (hC : P.cellsOf e = fs.size) (h : DataW.trod enc P w base spare held fuel t cs = some x) :
    (cs = [.slice none 0 0]) ∨
    ∃ (a : Addr) (len cap m : Nat), cs = [.slice (some a) len cap] ∧ len ≤ cap ∧ cap ≤ maxLen ∧ m = (if spare a.block then cap else len) ∧
      ∀ i, i < m → ∃ (n : Nat), ∀ (j : Nat) (f : Field), fs[j]? = some f → ∃ (v : Value) (y : DataW H × List MemPlace), w.cell? (a.add (i * fs.size + j)) = some v ∧ DataW.trod enc P w base spare held n f.type [v] = some y := by
  rcases open_slice ht h with h0 | ⟨a, len, cap, m, n, D, Pl, hcs, hb, hl, hm, hmm, hx, hi⟩
  · exact .inl h0.1
  · refine .inr ⟨a, len, cap, m, hcs, hl, hm, hmm, fun i him => ?_⟩
    obtain ⟨cs', hc, ht'⟩ := hi i him
    rw [hC] at hc
    obtain ⟨ys, n', hn', hy, hlen, hyl, hf⟩ := DataW.trod_struct he ht'
    obtain ⟨_, hcl, hat⟩ := World.cells?_some hc
    refine ⟨n', fun j f hj => ?_⟩
    obtain ⟨ho, hk⟩ := hone_of hone j f hj
    have hjl : j < fs.size := (Array.getElem?_eq_some_iff.1 hj).1
    have hcell := hat j hjl
    have hv : cs'[j]? = some (cs'[j]'(by omega)) := List.getElem?_eq_getElem (by omega)
    have h1 := hf j f hj
    rw [ho, hk] at h1
    have hone' : (cs'.drop j).take 1 = [cs'[j]'(by omega)] := by
      rw [List.drop_eq_getElem_cons (by omega)]
      rfl
    rw [hone'] at h1
    have hys : ys[j]? = some (ys[j]'(by omega)) := List.getElem?_eq_getElem (by omega)
    refine ⟨_, _, ?_, h1.trans hys⟩
    rw [← Go.Deep.add_add, hcell, hv]
end
theorem choose_list {α : Type} {Q : Nat → α → Prop} : ∀ (n : Nat), (∀ i, i < n → ∃ a, Q i a) → ∃ l : List α, l.length = n ∧ ∀ i a, l[i]? = some a → Q i a
  | 0, _ => ⟨[], rfl, fun i a h => by simp at h⟩
  | n + 1, h => by
    obtain ⟨l, h1, h2⟩ := choose_list n (fun i hi => h i (by omega))
    obtain ⟨a, ha⟩ := h n (by omega)
    refine ⟨l ++ [a], by simp [h1], fun i b hb => ?_⟩
    by_cases hi : i < l.length
    · rw [List.getElem?_append_left hi] at hb
      exact h2 i b hb
    · rw [List.getElem?_append_right (by omega)] at hb
      have hi2 : i - l.length = 0 := by
        have := (List.getElem?_eq_some_iff.1 hb).1
        simp at this; omega
      rw [hi2] at hb
      simp at hb
      subst hb
      rw [show i = n by omega]
      exact ha

theorem open_acts {H : Type} {enc : TypeId × Value → H} {W : World} {fuel : Nat} {A : Option Addr} {n c : Nat} {x : DataW H × List MemPlace}
    (h : DataW.trod enc Try.prog W 0 (fun _ => true) true fuel 23 [.slice A n c] = some x) : ∃ l, IsActs W A n c l := by
  rcases open_slice_fields Try.underlying23 Try.underlying35 (by kernel_rfl) (by kernel_rfl) h with hcs | ⟨a, len, cap, m, hcs, hl, hm, hmm, hi⟩
  · simp only [List.cons.injEq, Value.slice.injEq, and_true] at hcs
    obtain ⟨rfl, rfl, rfl⟩ := hcs
    exact ⟨[], rfl, Nat.le_refl _, Nat.zero_le _, (fun a ha => by cases ha), .inl rfl⟩
  · simp only [List.cons.injEq, Value.slice.injEq, and_true] at hcs
    obtain ⟨rfl, rfl, rfl⟩ := hcs
    by_cases h0 : n = 0
    · subst h0
      exact ⟨[], rfl, hl, hm, (fun a ha => by cases ha), .inl rfl⟩
    · have hmc : m = c := by simpa using hmm
      obtain ⟨n0, hf0⟩ := hi 0 (by omega)
      obtain ⟨v0, y0, hc0, _⟩ := hf0 0 _ rfl
      obtain ⟨b, o, spot⟩ := a
      have hspot : spot = none := by simpa [Addr.add] using World.cell?_spot hc0
      subst hspot
      have hlt : b < W.heap.size := by
        rw [Addr.add_lit] at hc0
        exact World.block_lt_of_cell? W _ hc0
      obtain ⟨l, h1, h2⟩ := choose_list (Q := fun i a => ActAt W b (o + i * 4) a ∧ a.Good W) n (fun i hin => by
        obtain ⟨nn, hf⟩ := hi i (by omega)
        obtain ⟨v0, y0, c0, t0⟩ := hf 0 _ rfl
        obtain ⟨v1, y1, c1, t1⟩ := hf 1 _ rfl
        obtain ⟨v2, y2, c2, t2⟩ := hf 2 _ rfl
        obtain ⟨v3, y3, c3, t3⟩ := hf 3 _ rfl
        obtain ⟨k, e0, _, w0⟩ := DataW.trod_int Try.underlying5 t0
        obtain ⟨f, e1, _, w1⟩ := DataW.trod_int Try.underlying3 t1
        obtain ⟨q, e2, _, w2⟩ := DataW.trod_int Try.underlying33 t2
        simp only [List.cons.injEq, and_true] at e0 e1 e2
        subst e0 e1 e2
        obtain ⟨kk, rfl, hk⟩ := wf_u8 w0
        obtain ⟨qq, rfl, hq⟩ := wf_u64 w2
        have hoff := wf_i64 w1
        rw [Addr.add_lit] at c0 c1 c2 c3
        have hp : ∃ (pa : Option Addr) (pc : Nat) (zs : List Int), v3 = .slice pa zs.length pc ∧ IsBytes W (.slice pa zs.length pc) zs ∧ (∀ x, pa = some x → zs ≠ [] → x.block < W.heap.size) := by
          rcases open_ints Try.underlying22 Try.underlying5 (by kernel_rfl) t3 with ⟨hcs, _⟩ | ⟨x, l, c, zs, hcs, _, hl, hm, hz, _, hcell, hwz⟩
          · simp only [List.cons.injEq, and_true] at hcs
            exact ⟨none, 0, [], hcs, IsInts.nil _ _, fun x e => by cases e⟩
          · simp only [List.cons.injEq, and_true] at hcs
            have hz' : zs.length = c := by simpa using hz
            have hlen : (zs.take l).length = l := by simp; omega
            have hI := IsInts.of_open (k := .u8) hl hm hz' hcell hwz
            refine ⟨some x, c, zs.take l, by rw [hlen]; exact hcs, by rw [hlen]; exact hI, fun y e hne => ?_⟩
            cases e
            have hne2 : zs ≠ [] := fun e => hne (by rw [e]; simp)
            have := hcell 0 (List.length_pos_iff.2 hne2)
            exact World.block_lt_of_cell? W _ this |> fun h => by simpa [Addr.add] using h
        obtain ⟨pa, pc, zs, rfl, hb, hold⟩ := hp
        refine ⟨⟨kk, f, qq, pa, pc, zs⟩, ⟨?_, ?_, ?_, ?_⟩, ⟨hk, hoff, hq, hb, hold⟩⟩
        · exact c0
        · exact c1
        · exact c2
        · exact c3)
      exact ⟨l, h1, hl, hm, fun a ha => by
        obtain ⟨i, hi, rfl⟩ := List.mem_iff_getElem.1 ha
        exact (h2 i _ (List.getElem?_eq_getElem hi)).2, .inr ⟨b, o, rfl, hlt, fun i a hia => (h2 i a hia).1⟩⟩
end Go.Proofs.Ytmamcliidlmghaa
