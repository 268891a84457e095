/- Plain mathematics of layer 3, more: what a device's image is, byte by byte; what acts leave. -/
import Derived.Test.YtdhjjiholmcagaaNvAc
namespace Go.Proofs.Ytdhjjiholmcagaa.V
open Go.Proofs.Ytdhjjiholmcagaa

theorem flat_getD : ∀ (ls : List Ln), (∀ l ∈ ls, l.Good) → ∀ i, i < 64 * ls.length → (ls.flatMap (·.now)).getD i 0 = ((ls[i / 64]?.getD zeroLn).now).getD (i % 64) 0
  | [], _, i, h => by simp at h
  | l :: ls, hg, i, h => by
    have hl := (hg l (by simp)).len
    rw [List.flatMap_cons]
    by_cases hi : i < 64
    · rw [List.getD_eq_getElem?_getD, List.getElem?_append_left (by omega), Nat.div_eq_of_lt hi, Nat.mod_eq_of_lt hi, List.getD_eq_getElem?_getD]
      rfl
    · have e1 : i / 64 = (i - 64) / 64 + 1 := by omega
      have e2 : i % 64 = (i - 64) % 64 := by omega
      rw [List.getD_eq_getElem?_getD, List.getElem?_append_right (by omega), hl, e1, e2, List.getElem?_cons_succ, ← flat_getD ls (fun x hx => hg x (List.mem_cons_of_mem _ hx)) (i - 64) (by simp at h; omega), List.getD_eq_getElem?_getD]
theorem image_getD {d : Dv} (h : d.Good) (i : Nat) (hi : i < 64 * d.lines.length) : d.image.getD i 0 = ((d.at (i / 64)).now).getD (i % 64) 0 := flat_getD d.lines h.lines i hi
theorem at_line (d : Dv) (i j : Nat) (f : Ln → Ln) (hj : j < d.lines.length) : (d.line i f).at j = if i = j then f (d.at j) else d.at j := by
  simp only [Dv.at, Dv.line, List.getElem?_modify]
  rw [List.getElem?_eq_getElem hj]
  show (if i = j then f d.lines[j] else d.lines[j]) = _
  rfl
theorem at_done (d : Dv) (j : Nat) : d.done.at j = d.at j := rfl
theorem len_line (d : Dv) (i : Nat) (f : Ln → Ln) : (d.line i f).done.lines.length = d.lines.length := by simp [Dv.line, Dv.done]
theorem ln_store_now (l : Ln) (a n i : Nat) (hl : l.now.length = 64) (hi : i < 64) (h : (l.store a n).now.getD i 0 ≠ l.now.getD i 0) : a ≤ i ∧ i < a + 8 := by
  unfold Ln.store at h
  by_cases e : l.get a = n
  · rw [if_pos e] at h; exact absurd rfl h
  · rw [if_neg e] at h
    have h2 : (M.pv l.now a n 8).getD i 0 ≠ l.now.getD i 0 := h
    rw [M.pv_getD _ _ _ _ _ (by omega)] at h2
    by_cases h3 : a ≤ i ∧ i < a + 8
    · exact h3
    · rw [if_neg h3] at h2; exact absurd rfl h2
theorem ln_store_get (l : Ln) (a n : Nat) (hl : l.now.length = 64) (ha : a + 8 ≤ 64) (hn : n < 2 ^ 64) : (l.store a n).get a = n := by
  unfold Ln.store
  by_cases e : l.get a = n
  · rw [if_pos e]; exact e
  · rw [if_neg e, Ln.get_eq]
    exact M.get_put l.now a n (by omega) hn

/-- Never stopped, of so many lines. -/
structure Up (n : Nat) (d : Dv) : Prop where
  good : d.Good
  left : d.left = -1
  len : d.lines.length = n
theorem err_up {n : Nat} {d : Dv} (h : Up n d) (off size : Int) : d.err off size = if 0 ≤ off ∧ off < 64 * (n : Int) ∧ off % size = 0 then 0 else 4 := by
  unfold Dv.err
  rw [if_neg (by rw [h.left]; decide), h.len]
theorem state_up {n : Nat} {d : Dv} (h : Up n d) : d.state = 0 := by
  unfold Dv.state
  rw [if_neg (by rw [h.left]; decide)]
theorem Up.done {n : Nat} {d : Dv} (h1 : d.done.Good) (h2 : d.left = -1) (h3 : d.lines.length = n) : Up n d.done := ⟨h1, by simp [Dv.done, h2], h3⟩
theorem Up.store {n : Nat} {d : Dv} (h : Up n d) (off : Int) (m : Nat) : Up n (d.store off m) := by
  have hg := h.good.store off m
  by_cases e : d.err off 8 = 0
  · rw [Dv.store_ok m e] at hg ⊢
    exact Up.done hg h.left (by simp [Dv.line]; exact h.len)
  · rw [Dv.store_no m e]; exact h
theorem Up.flush {n : Nat} {d : Dv} (h : Up n d) (off : Int) : Up n (d.flush off) := by
  have hg := h.good.flush off
  by_cases e : d.err off 1 = 0
  · rw [Dv.flush_ok e] at hg ⊢
    exact Up.done hg h.left (by simp [Dv.line]; exact h.len)
  · rw [Dv.flush_no e]; exact h
theorem Up.fence {n : Nat} {d : Dv} (h : Up n d) : Up n d.fence := by
  have hg := h.good.fence
  unfold Dv.fence at hg ⊢
  rw [if_neg (by rw [h.left]; decide)] at hg ⊢
  exact Up.done hg h.left (by simp [Dv.settle]; exact h.len)
theorem Up.crash {n : Nat} {d : Dv} (h : Up n d) (ps : List Int) : Up n (d.crash ps) := ⟨h.good.crash ps, rfl, by simp [Dv.crash, crashL_length]; exact h.len⟩
theorem Up.does {n : Nat} {d : Dv} (h : Up n d) (a : Act) : Up n (d.does a) := by
  unfold Dv.does
  by_cases h2 : a.kind % 5 = 2
  · rw [if_pos h2]; exact h.flush _
  · rw [if_neg h2]
    by_cases h3 : a.kind % 5 = 3
    · rw [if_pos h3]; exact h.fence
    · rw [if_neg h3]
      by_cases h4 : a.kind % 5 = 4
      · rw [if_pos h4]; exact h
      · rw [if_neg h4]; exact h.store _ _
theorem up_new {n : Nat} (h1 : 1 ≤ n) (h2 : n ≤ 1024) : Up n (newDv n) := ⟨newDv_good h1 h2, rfl, by simp [newDv]⟩

/-- What acts make of a device. -/
def all (d : Dv) (l : List Act) : Dv := l.foldl Dv.does d
theorem all_succ {l : List Act} {i : Nat} {a : Act} (d : Dv) (h : l[i]? = some a) : all d (l.take (i + 1)) = (all d (l.take i)).does a := by
  have hlt := (List.getElem?_eq_some_iff.1 h).1
  rw [List.take_succ_eq_append_getElem hlt, all, List.foldl_append, (List.getElem?_eq_some_iff.1 h).2]
  rfl
theorem up_all {n : Nat} {d : Dv} (h : Up n d) (l : List Act) : Up n (all d l) := by
  induction l generalizing d with
  | nil => exact h
  | cons a l ih => exact ih (h.does a)
theorem steps_all (d : Dv) (l : List Act) : (all d l).steps ≤ d.steps + l.length := by
  induction l generalizing d with
  | nil => simp [all]
  | cons a l ih =>
    have h1 := ih (d := d.does a)
    have h2 := does_steps d a
    have e : all d (a :: l) = all (d.does a) l := rfl
    rw [e, List.length_cons]
    omega

/-! ### What a Store changes -/
theorem store_bytes {n : Nat} {d : Dv} (h : Up n d) (off : Int) (m : Nat) (i : Nat) (hi : i < 64 * n) (hne : (d.store off m).image.getD i 0 ≠ d.image.getD i 0) : d.err off 8 = 0 ∧ off ≤ i ∧ (i : Int) < off + 8 := by
  by_cases e : d.err off 8 = 0
  · obtain ⟨_, e2, e3, e4⟩ := err_zero e
    refine ⟨e, ?_⟩
    rw [image_getD (h.good.store off m) i (by rw [(h.store off m).len]; exact hi), image_getD h.good i (by rw [h.len]; exact hi), Dv.store_ok m e, at_done, at_line _ _ _ _ (by rw [h.len]; omega)] at hne
    by_cases hj : off.toNat / 64 = i / 64
    · rw [if_pos hj] at hne
      have := ln_store_now _ _ _ _ (h.good.at (i / 64)).len (by omega) hne
      omega
    · rw [if_neg hj] at hne; exact absurd rfl hne
  · rw [Dv.store_no m e] at hne; exact absurd rfl hne
theorem store_load {n : Nat} {d : Dv} (h : Up n d) (off : Int) (m : Nat) (hm : m < 2 ^ 64) (e : d.err off 8 = 0) : (d.store off m).load off = m ∧ (d.store off m).err off 8 = 0 := by
  have e' : (d.store off m).err off 8 = 0 := by rw [err_up (h.store off m), ← err_up h]; exact e
  refine ⟨?_, e'⟩
  obtain ⟨_, e2, e3, e4⟩ := err_zero e
  rw [Dv.load, if_pos e', Dv.store_ok m e, at_done, at_line _ _ _ _ (by omega), if_pos rfl]
  exact ln_store_get _ _ _ (h.good.at _).len (by omega) hm
theorem store_load_no {n : Nat} {d : Dv} (h : Up n d) (off : Int) (m : Nat) (e : d.err off 8 ≠ 0) : (d.store off m).load off = 0 ∧ (d.store off m).err off 8 = 4 ∧ d.err off 8 = 4 := by
  rw [Dv.store_no m e, Dv.load, if_neg e]
  refine ⟨rfl, ?_, ?_⟩ <;>
  · rw [err_up h] at e ⊢
    by_cases hh : 0 ≤ off ∧ off < 64 * (n : Int) ∧ off % 8 = 0
    · rw [if_pos hh] at e; exact absurd rfl e
    · rw [if_neg hh]

/-! ### How many contents -/
theorem at_settle (d : Dv) (k : Nat) (hk : k < d.lines.length) : d.settle.at k = (d.at k).settle := by
  simp only [Dv.at, Dv.settle, List.getElem?_map, List.getElem?_eq_getElem hk]
  rfl
theorem ln_store_may (l : Ln) (a n : Nat) (hl : l.now.length = 64) (ha : a + 8 ≤ 64) (hn : n < 2 ^ 64) :
    ((l.store a n).now ≠ l.now → (l.store a n).over.length = l.over.length + 1) ∧ ((l.store a n).now = l.now → (l.store a n).over.length ≤ l.over.length) := by
  have hg := ln_store_get l a n hl ha hn
  by_cases e : l.get a = n
  · have h1 : l.store a n = l := by unfold Ln.store; rw [if_pos e]
    rw [h1]
    exact ⟨fun h => absurd rfl h, fun _ => Nat.le_refl _⟩
  · refine ⟨fun _ => by unfold Ln.store; rw [if_neg e]; simp, fun h => ?_⟩
    exfalso
    rw [Ln.get_eq, h, ← Ln.get_eq] at hg
    exact e hg
theorem does_may {n : Nat} {d : Dv} (h : Up n d) (a : Act) (ha : a.n < 2 ^ 64) (k : Nat) (hk : k < n) :
    (((d.does a).at k).now ≠ (d.at k).now → ((d.does a).at k).over.length = (d.at k).over.length + 1) ∧ (((d.does a).at k).now = (d.at k).now → ((d.does a).at k).over.length ≤ (d.at k).over.length) := by
  have hk' : k < d.lines.length := by rw [h.len]; exact hk
  have same : ∀ x : Ln, x.now = (d.at k).now → x.over.length ≤ (d.at k).over.length → (x.now ≠ (d.at k).now → x.over.length = (d.at k).over.length + 1) ∧ (x.now = (d.at k).now → x.over.length ≤ (d.at k).over.length) := fun x h1 h2 => ⟨fun h => absurd h1 h, fun _ => h2⟩
  unfold Dv.does
  by_cases h2 : a.kind % 5 = 2
  · rw [if_pos h2]
    by_cases e : d.err a.off 1 = 0
    · rw [Dv.flush_ok e, at_done, at_line _ _ _ _ hk']
      by_cases hj : a.off.toNat / 64 = k
      · rw [if_pos hj]; exact same _ rfl (Nat.le_refl _)
      · rw [if_neg hj]; exact same _ rfl (Nat.le_refl _)
    · rw [Dv.flush_no e]; exact same _ rfl (Nat.le_refl _)
  · rw [if_neg h2]
    by_cases h3 : a.kind % 5 = 3
    · rw [if_pos h3, Dv.fence]
      by_cases e : d.left = 0
      · rw [if_pos e]; exact same _ rfl (Nat.le_refl _)
      · rw [if_neg e, at_done, at_settle _ _ hk']
        exact same _ rfl (by simp [Ln.settle])
    · rw [if_neg h3]
      by_cases h4 : a.kind % 5 = 4
      · rw [if_pos h4]; exact same _ rfl (Nat.le_refl _)
      · rw [if_neg h4]
        by_cases e : d.err a.off 8 = 0
        · obtain ⟨_, e2, e3, e4⟩ := err_zero e
          rw [Dv.store_ok _ e, at_done, at_line _ _ _ _ hk']
          by_cases hj : a.off.toNat / 64 = k
          · rw [if_pos hj]; exact ln_store_may _ _ _ (h.good.at k).len (by omega) ha
          · rw [if_neg hj]; exact same _ rfl (Nat.le_refl _)
        · rw [Dv.store_no _ e]; exact same _ rfl (Nat.le_refl _)
theorem may_at {n : Nat} {d : Dv} (h : Up n d) (k : Nat) (hk : k < n) : d.may (k : Int) = (d.at k).over.length + 1 := by
  rw [Dv.may, if_pos (by rw [h.len]; omega), Int.toNat_natCast]
theorem flush_fence_may {n : Nat} {d : Dv} (h : Up n d) (k : Nat) (hk : k < n) : d.err (64 * (k : Int)) 1 = 0 ∧ (d.flush (64 * (k : Int))).fence.may (k : Int) = 1 := by
  have he : d.err (64 * (k : Int)) 1 = 0 := by rw [err_up h, if_pos (by omega)]
  have hu := h.flush (64 * (k : Int))
  refine ⟨he, ?_⟩
  rw [may_at hu.fence k hk, Dv.fence, if_neg (by rw [hu.left]; decide), at_done, at_settle _ _ (by rw [hu.len]; exact hk), Dv.flush_ok he, at_done, at_line _ _ _ _ (by rw [h.len]; exact hk), if_pos (by omega)]
  simp [Ln.flush, Ln.settle]
theorem may_out {n : Nat} {d : Dv} (h : Up n d) : d.may (-1) = 0 ∧ d.may (n : Int) = 0 := by
  refine ⟨?_, ?_⟩ <;> rw [Dv.may, if_neg (by rw [h.len]; omega)]
theorem image_line {n : Nat} {d : Dv} (h : Up n d) (k : Nat) (hk : k < n) (i : Nat) (hi : i < 64) : d.image.getD (64 * k + i) 0 = ((d.at k).now).getD i 0 := by
  rw [image_getD h.good _ (by rw [h.len]; omega), show (64 * k + i) / 64 = k by omega, show (64 * k + i) % 64 = i by omega]
end Go.Proofs.Ytdhjjiholmcagaa.V
