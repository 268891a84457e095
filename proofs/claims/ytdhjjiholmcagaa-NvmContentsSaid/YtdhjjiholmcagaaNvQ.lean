/- Plain mathematics of layer 3, more: what was flushed and fenced stays, unless it is stored again. -/
import Derived.Test.YtdhjjiholmcagaaNvP
namespace Go.Proofs.Ytdhjjiholmcagaa.V
open Go.Proofs.Ytdhjjiholmcagaa

/-- Each line flushed, one behind the other. -/
def flN (d : Dv) : Nat → Dv
  | 0 => d
  | i + 1 => (flN d i).flush (64 * (i : Int))
theorem up_flN {n : Nat} {d : Dv} (h : Up n d) : ∀ i, Up n (flN d i)
  | 0 => h
  | i + 1 => (up_flN h i).flush _
theorem flN_err {n : Nat} {d : Dv} (h : Up n d) (i : Nat) (hi : i < n) : (flN d i).err (64 * (i : Int)) 1 = 0 := by
  rw [err_up (up_flN h i), if_pos (by omega)]
theorem flN_steps {n : Nat} {d : Dv} (h : Up n d) (i : Nat) (hi : i ≤ n) : (flN d i).steps = d.steps + i := by
  induction i with
  | zero => rfl
  | succ i ih =>
    have e := flN_err h i (by omega)
    show ((flN d i).flush (64 * (i : Int))).steps = _
    rw [Dv.flush_ok e]
    show (flN d i).steps + 1 = _
    rw [ih (by omega)]; omega
theorem flN_at {n : Nat} {d : Dv} (h : Up n d) (i : Nat) (hi : i ≤ n) (j : Nat) (hj : j < n) : ((flN d i).at j).now = (d.at j).now ∧ (j < i → ((flN d i).at j).mark = ((flN d i).at j).over.length) := by
  induction i with
  | zero => exact ⟨rfl, fun h => absurd h (by omega)⟩
  | succ i ih =>
    obtain ⟨h1, h2⟩ := ih (by omega)
    have e := flN_err h i (by omega)
    have hu := up_flN h i
    have hat : (flN d (i + 1)).at j = if i = j then ((flN d i).at j).flush else (flN d i).at j := by
      show ((flN d i).flush (64 * (i : Int))).at j = _
      rw [Dv.flush_ok e, at_done, at_line _ _ _ _ (by rw [hu.len]; exact hj), show (64 * (i : Int)).toNat / 64 = i by omega]
    by_cases hij : i = j
    · rw [hat, if_pos hij]
      exact ⟨h1, fun _ => rfl⟩
    · rw [hat, if_neg hij]
      exact ⟨h1, fun h => h2 (by omega)⟩
/-- Durable: flushed and fenced, whole. -/
def dur (n : Nat) (d : Dv) : Dv := (flN d n).fence
theorem up_dur {n : Nat} {d : Dv} (h : Up n d) : Up n (dur n d) := (up_flN h n).fence
theorem dur_at {n : Nat} {d : Dv} (h : Up n d) (j : Nat) (hj : j < n) : ((dur n d).at j).over = [] := by
  have hu := up_flN h n
  have h1 := (flN_at h n (Nat.le_refl _) j hj).2 hj
  unfold dur Dv.fence
  rw [if_neg (by rw [hu.left]; decide), at_done, at_settle _ _ (by rw [hu.len]; exact hj)]
  simp [Ln.settle, h1]
theorem dur_steps {n : Nat} {d : Dv} (h : Up n d) : (dur n d).steps = d.steps + n + 1 := by
  have hu := up_flN h n
  unfold dur Dv.fence
  rw [if_neg (by rw [hu.left]; decide)]
  show (flN d n).steps + 1 = _
  rw [flN_steps h n (Nat.le_refl _)]

/-- Is a line touched by an act? -/
def touches (a : Act) (j : Nat) : Bool := decide (0 ≤ a.off ∧ a.off / 64 = (j : Int))
theorem does_far {n : Nat} {d : Dv} (h : Up n d) (a : Act) (j : Nat) (hj : j < n) (ht : touches a j = false) (ho : (d.at j).over = []) : ((d.does a).at j).now = (d.at j).now ∧ ((d.does a).at j).over = [] := by
  have hj' : j < d.lines.length := by rw [h.len]; exact hj
  have ht' : ¬ (0 ≤ a.off ∧ a.off / 64 = (j : Int)) := by simpa [touches] using ht
  unfold Dv.does
  by_cases h2 : a.kind % 5 = 2
  · rw [if_pos h2]
    by_cases e : d.err a.off 1 = 0
    · obtain ⟨_, e2, e3, e4⟩ := err_zero e
      rw [Dv.flush_ok e, at_done, at_line _ _ _ _ hj', if_neg (by omega)]
      exact ⟨rfl, ho⟩
    · rw [Dv.flush_no e]; exact ⟨rfl, ho⟩
  · rw [if_neg h2]
    by_cases h3 : a.kind % 5 = 3
    · rw [if_pos h3, Dv.fence, if_neg (by rw [h.left]; decide), at_done, at_settle _ _ hj']
      exact ⟨rfl, by simp [Ln.settle, ho]⟩
    · rw [if_neg h3]
      by_cases h4 : a.kind % 5 = 4
      · rw [if_pos h4]; exact ⟨rfl, ho⟩
      · rw [if_neg h4]
        by_cases e : d.err a.off 8 = 0
        · obtain ⟨_, e2, e3, e4⟩ := err_zero e
          rw [Dv.store_ok _ e, at_done, at_line _ _ _ _ hj', if_neg (by omega)]
          exact ⟨rfl, ho⟩
        · rw [Dv.store_no _ e]; exact ⟨rfl, ho⟩
theorem all_far {n : Nat} {d : Dv} (h : Up n d) (l : List Act) (j : Nat) (hj : j < n) (ht : l.any (touches · j) = false) (ho : (d.at j).over = []) : ((all d l).at j).now = (d.at j).now ∧ ((all d l).at j).over = [] := by
  induction l generalizing d with
  | nil => exact ⟨rfl, ho⟩
  | cons a l ih =>
    rw [List.any_cons, Bool.or_eq_false_iff] at ht
    obtain ⟨h1, h2⟩ := does_far h a j hj ht.1 ho
    obtain ⟨h3, h4⟩ := ih (h.does a) ht.2 h2
    exact ⟨h3.trans h1, h4⟩
theorem crash_at : ∀ (ls : List Ln) (ps : List Int) (j : Nat), j < ls.length → ∃ k, k ≤ ((ls[j]?.getD zeroLn)).over.length ∧ ((crashL ls ps)[j]?.getD zeroLn) = ((ls[j]?.getD zeroLn)).back k
  | [], _, _, h => by simp at h
  | l :: ls, ps, 0, _ => by
    unfold crashL
    by_cases h0 : l.over.length = 0
    · rw [if_pos h0]; exact ⟨0, Nat.zero_le _, rfl⟩
    · rw [if_neg h0]
      cases ps with
      | nil => exact ⟨0, Nat.zero_le _, rfl⟩
      | cons p ps => exact ⟨_, Nat.lt_succ_iff.1 (Nat.mod_lt _ (Nat.succ_pos _)), rfl⟩
  | l :: ls, ps, j + 1, h => by
    have hj : j < ls.length := by simpa using h
    unfold crashL
    by_cases h0 : l.over.length = 0
    · rw [if_pos h0, List.getElem?_cons_succ, List.getElem?_cons_succ]; exact crash_at ls ps j hj
    · rw [if_neg h0]
      cases ps with
      | nil => simp only [List.getElem?_cons_succ]; exact crash_at ls [] j hj
      | cons p ps => simp only [List.getElem?_cons_succ]; exact crash_at ls ps j hj
theorem crash_far {n : Nat} {d : Dv} (h : Up n d) (ps : List Int) (j : Nat) (hj : j < n) (ho : (d.at j).over = []) : ((d.crash ps).at j).now = (d.at j).now := by
  obtain ⟨k, _, hk⟩ := crash_at d.lines ps j (by rw [h.len]; exact hj)
  show ((crashL d.lines ps)[j]?.getD zeroLn).now = _
  rw [hk]
  show undo (d.at j).now ((d.at j).over.drop k) = _
  rw [ho]
  simp [undo]
/-- The statement's own claim, byte by byte. -/
theorem durable {d : Dv} (h : Up 8 d) (l : List Act) (ps : List Int) (i : Nat) (hi : i < 512) (ht : l.any (touches · (i / 64)) = false) :
    ((all (dur 8 d) l).crash ps).image.getD i 0 = (dur 8 d).image.getD i 0 := by
  have hu := up_dur h
  have hua := up_all hu l
  have hj : i / 64 < 8 := by omega
  rw [image_getD (hua.crash ps).good i (by rw [(hua.crash ps).len]; exact hi), image_getD hu.good i (by rw [hu.len]; exact hi)]
  obtain ⟨h1, h2⟩ := all_far hu l (i / 64) hj ht (dur_at h _ hj)
  rw [crash_far hua ps _ hj h2, h1]
end Go.Proofs.Ytdhjjiholmcagaa.V
