
/- Plain mathematics of a heap of numbers, as container/heap keeps one: what goes up, what goes down; what the first of it is. Nothing of the program. -/
import Derived.Test.YtaceogpdjbikiaaGreatDoorChecked
namespace Go.Proofs.YtaceogpdjbikiaaGreatDoor.H

/-- Each one is as great as the one above it, at least. -/
def Heap (X : List Nat) : Prop := ∀ k, 0 < k → k < X.length → X.getD ((k - 1) / 2) 0 ≤ X.getD k 0
theorem Heap.root {X : List Nat} (h : Heap X) (k : Nat) (hk : k < X.length) : X.getD 0 0 ≤ X.getD k 0 := by
  induction k using Nat.strongRecOn with
  | ind k ih =>
    by_cases h0 : k = 0
    · rw [h0]; exact Nat.le_refl _
    · exact Nat.le_trans (ih ((k - 1) / 2) (by omega) (by omega)) (h k (by omega) hk)
theorem heap_nil : Heap [] := fun k _ h => by simp at h

/-- Two change places. -/
def swp (X : List Nat) (i j : Nat) : List Nat := (X.set i (X.getD j 0)).set j (X.getD i 0)
theorem swp_length (X : List Nat) (i j : Nat) : (swp X i j).length = X.length := by simp [swp]
theorem swp_get {X : List Nat} {i j : Nat} (hi : i < X.length) (hj : j < X.length) (k : Nat) : (swp X i j).getD k 0 = if k = j then X.getD i 0 else if k = i then X.getD j 0 else X.getD k 0 := by
  unfold swp
  generalize X.getD j 0 = a
  generalize X.getD i 0 = b
  simp only [List.getD_eq_getElem?_getD, List.getElem?_set, List.length_set]
  by_cases h1 : j = k
  · subst h1; simp [hj]
  · by_cases h2 : i = k
    · subst h2; simp [hi, h1, Ne.symm h1]
    · have h1' : ¬ k = j := fun e => h1 e.symm
      have h2' : ¬ k = i := fun e => h2 e.symm
      simp [h1, h2, h1', h2']
theorem swp_perm {X : List Nat} {i j : Nat} (hi : i < X.length) (hj : j < X.length) : (swp X i j).Perm X := by
  have h := List.set_set_perm hi hj
  unfold swp
  rw [show X.getD j 0 = X[j] by simp [List.getD_eq_getElem?_getD, hj], show X.getD i 0 = X[i] by simp [List.getD_eq_getElem?_getD, hi]]
  exact h

/-- All is right but what stands at j and above it. -/
def UpI (X : List Nat) (j : Nat) : Prop := j < X.length ∧ (∀ k, 0 < k → k < X.length → k ≠ j → X.getD ((k - 1) / 2) 0 ≤ X.getD k 0) ∧ ∀ k, 0 < k → k < X.length → (k - 1) / 2 = j → 0 < j → X.getD ((j - 1) / 2) 0 ≤ X.getD k 0
theorem UpI.done {X : List Nat} {j : Nat} (h : UpI X j) (hj : j = 0 ∨ X.getD ((j - 1) / 2) 0 ≤ X.getD j 0) : Heap X := by
  intro k h0 hk
  by_cases e : k = j
  · subst e
    rcases hj with hj | hj
    · omega
    · exact hj
  · exact h.2.1 k h0 hk e
theorem UpI.step {X : List Nat} {j : Nat} (h : UpI X j) (h0 : 0 < j) (hlt : X.getD j 0 < X.getD ((j - 1) / 2) 0) : UpI (swp X ((j - 1) / 2) j) ((j - 1) / 2) := by
  obtain ⟨h1, h2, h3⟩ := h
  have hp : (j - 1) / 2 < X.length := by omega
  generalize hpe : (j - 1) / 2 = p at *
  refine ⟨by rw [swp_length]; exact hp, fun k k0 hk hne => ?_, fun k k0 hk he p0 => ?_⟩
  · rw [swp_length] at hk
    rw [swp_get hp h1, swp_get hp h1]
    by_cases ekj : k = j
    · subst ekj
      rw [if_pos rfl, hpe, if_neg (by omega), if_pos rfl]; omega
    · rw [if_neg ekj, if_neg hne]
      by_cases e1 : (k - 1) / 2 = j
      · rw [if_pos e1]; exact h3 k k0 hk e1 h0
      · rw [if_neg e1]
        by_cases e2 : (k - 1) / 2 = p
        · rw [if_pos e2]
          have := h2 k k0 hk ekj
          rw [e2] at this; omega
        · rw [if_neg e2]; exact h2 k k0 hk ekj
  · rw [swp_length] at hk
    have hpp : (p - 1) / 2 ≠ j := by omega
    have hpp2 : (p - 1) / 2 ≠ p := by omega
    rw [swp_get hp h1, swp_get hp h1, if_neg hpp, if_neg hpp2]
    have hb := h2 p p0 hp (by omega)
    by_cases ekj : k = j
    · rw [if_pos ekj]; exact hb
    · rw [if_neg ekj, if_neg (by omega)]
      have := h2 k k0 hk ekj
      rw [he] at this
      omega
theorem UpI.start {L : List Nat} (h : Heap L) (x : Nat) : UpI (L ++ [x]) L.length := by
  refine ⟨by simp, fun k k0 hk hne => ?_, fun k k0 hk he _ => ?_⟩
  · have hk' : k < L.length := by simp at hk; omega
    have := h k k0 hk'
    simp only [List.getD_eq_getElem?_getD] at this ⊢
    rw [List.getElem?_append_left (by omega), List.getElem?_append_left hk']
    exact this
  · simp at hk; omega

/-- All of the first n is right but what stands at i and below it. -/
def DnI (X : List Nat) (n i : Nat) : Prop := n ≤ X.length ∧ (∀ k, 0 < k → k < n → (k - 1) / 2 ≠ i → X.getD ((k - 1) / 2) 0 ≤ X.getD k 0) ∧ ∀ k, 0 < k → k < n → (k - 1) / 2 = i → 0 < i → X.getD ((i - 1) / 2) 0 ≤ X.getD k 0
theorem DnI.done {X : List Nat} {n i : Nat} (h : DnI X n i) (hi : ∀ k, 0 < k → k < n → (k - 1) / 2 = i → X.getD i 0 ≤ X.getD k 0) : Heap (X.take n) := by
  intro k h0 hk
  have hk' : k < n := by simp at hk; omega
  have e : ∀ q, q < n → (X.take n).getD q 0 = X.getD q 0 := fun q hq => by simp [List.getD_eq_getElem?_getD, hq]
  rw [e _ (by omega), e _ hk']
  by_cases e2 : (k - 1) / 2 = i
  · rw [e2]; exact hi k h0 hk' e2
  · exact h.2.1 k h0 hk' e2
theorem DnI.step {X : List Nat} {n i j : Nat} (h : DnI X n i) (j0 : 0 < j) (hj : j < n) (hji : (j - 1) / 2 = i) (hlt : X.getD j 0 < X.getD i 0) (hmin : ∀ k, 0 < k → k < n → (k - 1) / 2 = i → X.getD j 0 ≤ X.getD k 0) : DnI (swp X i j) n j := by
  obtain ⟨h1, h2, h3⟩ := h
  have hjl : j < X.length := by omega
  have hil : i < X.length := by omega
  refine ⟨by rw [swp_length]; exact h1, fun k k0 hk hne => ?_, fun k k0 hk he _ => ?_⟩
  · rw [swp_get hil hjl, swp_get hil hjl, if_neg hne]
    by_cases ei : (k - 1) / 2 = i
    · rw [if_pos ei]
      by_cases ekj : k = j
      · rw [if_pos ekj]; omega
      · rw [if_neg ekj, if_neg (by omega)]; exact hmin k k0 hk ei
    · rw [if_neg ei]
      have hkj : k ≠ j := fun e => ei (by rw [e]; exact hji)
      rw [if_neg hkj]
      by_cases eki : k = i
      · subst eki
        rw [if_pos rfl]
        exact h3 j j0 hj hji k0
      · rw [if_neg eki]; exact h2 k k0 hk ei
  · rw [swp_get hil hjl, swp_get hil hjl, hji, if_neg (by omega), if_pos rfl, if_neg (by omega), if_neg (by omega)]
    have := h2 k k0 hk (by omega)
    rwa [he] at this
theorem DnI.start {L : List Nat} {n : Nat} (h : Heap L) (hl : L.length = n + 1) : DnI (swp L 0 n) n 0 := by
  refine ⟨by rw [swp_length]; omega, fun k k0 hk hne => ?_, fun k k0 hk he h0 => by omega⟩
  rw [swp_get (by omega) (by omega), swp_get (by omega) (by omega), if_neg (by omega), if_neg hne, if_neg (by omega), if_neg (by omega)]
  exact h k k0 (by omega)

/-- A heap in which none comes twice. -/
def QL (L : List Nat) : Prop := Heap L ∧ L.Nodup
theorem QL.nil : QL [] := ⟨heap_nil, List.nodup_nil⟩
theorem getD_mem {L : List Nat} {k : Nat} (h : k < L.length) : L.getD k 0 ∈ L := by rw [List.getD_eq_getElem?_getD, List.getElem?_eq_getElem h]; exact List.getElem_mem h
theorem Heap.least {L : List Nat} (h : Heap L) : ∀ x ∈ L, L.getD 0 0 ≤ x := by
  intro x hx
  obtain ⟨k, hk, rfl⟩ := List.mem_iff_getElem.1 hx
  have := h.root k hk
  have e : L.getD k 0 = L[k] := by rw [List.getD_eq_getElem?_getD, List.getElem?_eq_getElem hk]; rfl
  rwa [e] at this
/-- What a Pop leaves: X is L in another order, with what stood first now last. -/
theorem pop_of {L X : List Nat} {n : Nat} (hL : QL L) (hl : L.length = n + 1) (hp : X.Perm L) (hX : X.getD n 0 = L.getD 0 0) (hh : Heap (X.take n)) :
    QL (X.take n) ∧ (X.take n).length = n ∧ (L.getD 0 0 :: X.take n).Perm L ∧ ∀ x ∈ X.take n, L.getD 0 0 < x := by
  have hXl : X.length = n + 1 := by rw [hp.length_eq, hl]
  have e : X.take n ++ [L.getD 0 0] = X := by
    have h1 := List.take_append_drop n X
    have h2 : X.drop n = [X.getD n 0] := by
      rw [List.drop_eq_getElem_cons (by omega : n < X.length), List.drop_eq_nil_of_le (by omega), List.getD_eq_getElem?_getD, List.getElem?_eq_getElem (by omega : n < X.length)]; rfl
    rw [← hX, ← h2]; exact h1
  have hperm : (L.getD 0 0 :: X.take n).Perm L := by
    refine List.Perm.trans ?_ hp
    conv => rhs; rw [← e]
    exact (List.perm_append_singleton _ _).symm
  have hnd := hperm.nodup_iff.2 hL.2
  rw [List.nodup_cons] at hnd
  refine ⟨⟨hh, hnd.2⟩, by simp [hXl], hperm, fun x hx => ?_⟩
  have h1 := hL.1.least x (hperm.subset (List.mem_cons_of_mem _ hx))
  have : x ≠ L.getD 0 0 := fun e => hnd.1 (e ▸ hx)
  omega
/-- What 'next' answers, and leaves. -/
def Next (f : Nat → Bool) (L : List Nat) (r : Option Nat) (L' : List Nat) : Prop := QL L' ∧ (∀ x ∈ L', x ∈ L) ∧ match r with
  | none => ∀ x ∈ L, f x = false
  | some s => s ∈ L ∧ f s = true ∧ s ∉ L' ∧ (∀ x ∈ L, f x = true → s ≤ x) ∧ ∀ x ∈ L, f x = true → x = s ∨ x ∈ L'
/-- What has come out so far. -/
def Nx (f : Nat → Bool) (L X : List Nat) : Prop := QL X ∧ (∀ x ∈ X, x ∈ L) ∧ ∀ x ∈ L, x ∈ X ∨ f x = false
theorem Nx.start {f : Nat → Bool} {L : List Nat} (h : QL L) : Nx f L L := ⟨h, fun _ h => h, fun _ h => .inl h⟩
theorem Nx.none {f : Nat → Bool} {L : List Nat} (h : Nx f L []) : Next f L none [] := ⟨h.1, fun x hx => (by cases hx), fun x hx => by rcases h.2.2 x hx with h | h; cases h; exact h⟩
theorem Nx.no {f : Nat → Bool} {L X X' : List Nat} {s : Nat} (h : Nx f L X) (hq : QL X') (hp : (s :: X').Perm X) (hf : f s = false) : Nx f L X' :=
  ⟨hq, fun x hx => h.2.1 x (hp.subset (List.mem_cons_of_mem _ hx)), fun x hx => by
    rcases h.2.2 x hx with h1 | h1
    · rcases List.mem_cons.1 (hp.symm.subset h1) with rfl | h2
      · exact .inr hf
      · exact .inl h2
    · exact .inr h1⟩
theorem Nx.yes {f : Nat → Bool} {L X X' : List Nat} {s : Nat} (h : Nx f L X) (hq : QL X') (hp : (s :: X').Perm X) (hlt : ∀ x ∈ X', s < x) (hf : f s = true) : Next f L (some s) X' := by
  have h1 : ∀ x ∈ L, f x = true → x = s ∨ x ∈ X' := fun x hx hfx => by
    rcases h.2.2 x hx with h1 | h1
    · exact List.mem_cons.1 (hp.symm.subset h1)
    · rw [hfx] at h1; cases h1
  refine ⟨hq, fun x hx => h.2.1 x (hp.subset (List.mem_cons_of_mem _ hx)), h.2.1 s (hp.subset (by simp)), hf, fun hs => absurd (hlt s hs) (Nat.lt_irrefl _), fun x hx hfx => ?_, h1⟩
  rcases h1 x hx hfx with e | e
  · omega
  · exact Nat.le_of_lt (hlt x e)
theorem add_of {L X : List Nat} {x : Nat} (hL : QL L) (hx : x ∉ L) (hp : X.Perm (L ++ [x])) (hh : Heap X) : QL X ∧ ∀ y, y ∈ X ↔ y = x ∨ y ∈ L := by
  have h1 : X.Perm (x :: L) := hp.trans (List.perm_append_singleton _ _)
  refine ⟨⟨hh, h1.nodup_iff.2 (List.nodup_cons.2 ⟨hx, hL.2⟩)⟩, fun y => ?_⟩
  rw [h1.mem_iff, List.mem_cons]
end Go.Proofs.YtaceogpdjbikiaaGreatDoor.H
