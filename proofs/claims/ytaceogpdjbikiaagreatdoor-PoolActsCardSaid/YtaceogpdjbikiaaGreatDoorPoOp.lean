
/- Acts of layer 7 in memory: a slice of them that came in, opened. -/
import Derived.Test.YtaceogpdjbikiaaGreatDoorNd
import Derived.Deep.Slices
import Derived.Deep.Fields
import Derived.ChangeSame
import Derived.ChangeSlices
namespace Go.Proofs.YtaceogpdjbikiaaGreatDoor

open Go.ChangeShapes Go.WideShapes Go.RowKit Go.Deep

section

variable {H : Type} {enc : TypeId × Value → H} {P : Program} {w : World} {base : Nat} {spare : Nat → Bool} {held : Bool}

theorem open_slice_fields7 {t e : TypeId} {fs : Array Field} {fuel : Nat} {cs : List Value} {x : DataW H × List MemPlace} (ht : P.underlying t = some (.slice e)) (he : P.underlying e = some (.struct fs))
    (hone : oneCellFields P fs = true) (hC : P.cellsOf e = fs.size) (h : DataW.trod enc P w base spare held fuel t cs = some x) :
    (cs = [.slice none 0 0]) ∨
    ∃ (a : Addr) (len cap m : Nat), cs = [.slice (some a) len cap] ∧ len ≤ cap ∧ cap ≤ maxLen ∧ m = (if spare a.block then cap else len) ∧
      ∀ i, i < m → ∃ (n : Nat), ∀ (j : Nat) (f : Field), fs[j]? = some f → ∃ (v : Value) (y : DataW H × List MemPlace), w.cell? (a.add (i * fs.size + j)) = some v ∧ DataW.trod enc P w base spare held n f.type [v] = some y := by
  rcases open_slice ht h with h0 | ⟨a, len, cap, m, n, D, Pl, hcs, hb, hl, hm, hmm, hx, hi⟩
  · exact .inl h0.1
  · refine .inr ⟨a, len, cap, m, hcs, hl, hm, hmm, fun i him => ?_⟩
    obtain ⟨cs', hc, ht'⟩ := hi i him
    rw [hC] at hc
    obtain ⟨ys, n', hn', hy, hlen, hyl, hf⟩ := DataW.trod_struct he ht'
    obtain ⟨_, hcl, hat⟩ := World.cells?_some hc
    refine ⟨n', fun j f hj => ?_⟩
    obtain ⟨ho, hk⟩ := hone_of hone j f hj
    have hjl : j < fs.size := (Array.getElem?_eq_some_iff.1 hj).1
    have hcell := hat j hjl
    have hv : cs'[j]? = some (cs'[j]'(by omega)) := List.getElem?_eq_getElem (by omega)
    have h1 := hf j f hj
    rw [ho, hk] at h1
    have hone' : (cs'.drop j).take 1 = [cs'[j]'(by omega)] := by
      rw [List.drop_eq_getElem_cons (by omega)]
      rfl
    rw [hone'] at h1
    have hys : ys[j]? = some (ys[j]'(by omega)) := List.getElem?_eq_getElem (by omega)
    refine ⟨_, _, ?_, h1.trans hys⟩
    rw [← Go.Deep.add_add, hcell, hv]
end

theorem choose_list7 {α : Type} {Q : Nat → α → Prop} : ∀ (n : Nat), (∀ i, i < n → ∃ a, Q i a) → ∃ l : List α, l.length = n ∧ ∀ i a, l[i]? = some a → Q i a
  | 0, _ => ⟨[], rfl, fun i a h => by simp at h⟩
  | n + 1, h => by
    obtain ⟨l, h1, h2⟩ := choose_list7 n (fun i hi => h i (by omega))
    obtain ⟨a, ha⟩ := h n (by omega)
    refine ⟨l ++ [a], by simp [h1], fun i b hb => ?_⟩
    by_cases hi : i < l.length
    · rw [List.getElem?_append_left hi] at hb
      exact h2 i b hb
    · rw [List.getElem?_append_right (by omega)] at hb
      have hi2 : i - l.length = 0 := by
        have := (List.getElem?_eq_some_iff.1 hb).1
        simp at this; omega
      rw [hi2] at hb
      simp at hb
      subst hb
      rw [show i = n by omega]
      exact ha
/-- An act: its kind, and which. -/
def Act7At (w : World) (b o : Nat) (a : Nat × Int) : Prop := w.cell? ⟨b, o, none⟩ = some (.int .u8 (a.1 : Int)) ∧ w.cell? ⟨b, o + 1, none⟩ = some (.int .i64 a.2)
def Act7Ok (a : Nat × Int) : Prop := a.1 ≤ 255 ∧ I64 a.2
/-- A slice that reads as acts. -/
def IsActs7 (w : World) (A : Option Addr) (len cap : Nat) (l : List (Nat × Int)) : Prop :=
  l.length = len ∧ len ≤ cap ∧ cap ≤ maxLen ∧ (∀ a ∈ l, Act7Ok a) ∧ (l = [] ∨ ∃ b o, A = some ⟨b, o, none⟩ ∧ b < w.heap.size ∧ ∀ (i : Nat) (a : Nat × Int), l[i]? = some a → Act7At w b (o + i * 2) a)
theorem Act7At.below {w w' : World} {b o : Nat} {a : Nat × Int} (h : Act7At w b o a) (hb : Below w.heap.size w w') : Act7At w' b o a := by
  obtain ⟨h0, h1⟩ := h
  have hlt := World.block_lt_of_cell? w _ h0
  exact ⟨(hb.cell (p := ⟨b, o, none⟩) hlt).trans h0, (hb.cell (p := ⟨b, o + 1, none⟩) hlt).trans h1⟩
theorem IsActs7.at {w wr : World} {A : Option Addr} {len cap : Nat} {l : List (Nat × Int)} (h : IsActs7 w A len cap l) (hb : Below w.heap.size w wr) {i : Nat} (hi : i < len) :
    ∃ k x b o, l[i]? = some (k, x) ∧ k ≤ 255 ∧ I64 x ∧ A = some ⟨b, o, none⟩ ∧ wr.cell? ⟨b, o + i * 2, none⟩ = some (.int .u8 ((k : Nat) : Int)) ∧ wr.cell? ⟨b, o + i * 2 + 1, none⟩ = some (.int .i64 x) := by
  obtain ⟨h1, _, _, hg, h4⟩ := h
  have hl : l[i]? = some (l[i]'(by omega)) := List.getElem?_eq_getElem (by omega)
  rcases h4 with rfl | ⟨b, o, e, _, hc⟩
  · simp at h1; omega
  · have h5 := (hc i _ hl).below hb
    have h6 := hg _ (List.mem_of_getElem? hl)
    exact ⟨_, _, b, o, hl, h6.1, h6.2, e, h5.1, h5.2⟩
theorem open_acts7 {H : Type} {enc : TypeId × Value → H} {W : World} {fuel : Nat} {A : Option Addr} {n c : Nat} {x : DataW H × List MemPlace}
    (h : DataW.trod enc Tryz.prog W 0 (fun _ => true) true fuel 22 [.slice A n c] = some x) : ∃ l, IsActs7 W A n c l := by
  rcases open_slice_fields7 Tryz.underlying22 Tryz.underlying39 (by kernel_rfl) (by kernel_rfl) h with hcs | ⟨a, len, cap, m, hcs, hl, hm, hmm, hi⟩
  · simp only [List.cons.injEq, Value.slice.injEq, and_true] at hcs
    obtain ⟨rfl, rfl, rfl⟩ := hcs
    exact ⟨[], rfl, Nat.le_refl _, Nat.zero_le _, (fun a ha => by cases ha), .inl rfl⟩
  · simp only [List.cons.injEq, Value.slice.injEq, and_true] at hcs
    obtain ⟨rfl, rfl, rfl⟩ := hcs
    by_cases h0 : n = 0
    · subst h0
      exact ⟨[], rfl, hl, hm, (fun a ha => by cases ha), .inl rfl⟩
    · have hmc : m = c := by simpa using hmm
      obtain ⟨n0, hf0⟩ := hi 0 (by omega)
      obtain ⟨v0, y0, hc0, _⟩ := hf0 0 _ rfl
      obtain ⟨b, o, spot⟩ := a
      have hspot : spot = none := by simpa [Addr.add] using World.cell?_spot hc0
      subst hspot
      have hlt : b < W.heap.size := by
        rw [Addr.add_lit] at hc0
        exact World.block_lt_of_cell? W _ hc0
      obtain ⟨l, h1, h2⟩ := choose_list7 (Q := fun i a => Act7At W b (o + i * 2) a ∧ Act7Ok a) n (fun i hin => by
        obtain ⟨nn, hf⟩ := hi i (by omega)
        obtain ⟨v0, y0, c0, t0⟩ := hf 0 _ rfl
        obtain ⟨v1, y1, c1, t1⟩ := hf 1 _ rfl
        obtain ⟨k, e0, _, w0⟩ := DataW.trod_int Tryz.underlying5 t0
        obtain ⟨f, e1, _, w1⟩ := DataW.trod_int Tryz.underlying3 t1
        simp only [List.cons.injEq, and_true] at e0 e1
        subst e0 e1
        have hk0 : 0 ≤ k ∧ k ≤ 255 := by
          simp [Lit.wf, IntKind.min, IntKind.max, IntKind.signed, IntKind.bits] at w0; omega
        have hoff : I64 f := by
          simp [Lit.wf, IntKind.min, IntKind.max, IntKind.signed, IntKind.bits] at w1
          unfold I64; omega
        obtain ⟨kk, rfl⟩ := Int.eq_ofNat_of_zero_le hk0.1
        rw [Addr.add_lit] at c0 c1
        exact ⟨(kk, f), ⟨c0, c1⟩, ⟨by show kk ≤ 255; omega, hoff⟩⟩)
      exact ⟨l, h1, hl, hm, fun a ha => by
        obtain ⟨i, hi, rfl⟩ := List.mem_iff_getElem.1 ha
        exact (h2 i _ (List.getElem?_eq_getElem hi)).2, .inr ⟨b, o, rfl, hlt, fun i a hia => (h2 i a hia).1⟩⟩
end Go.Proofs.YtaceogpdjbikiaaGreatDoor
