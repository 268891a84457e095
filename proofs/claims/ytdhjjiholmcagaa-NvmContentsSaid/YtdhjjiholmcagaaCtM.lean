/- Plain mathematics of layer 3, the last of it: behind a crash each line is something that it was. -/
import Derived.Test.YtdhjjiholmcagaaNvQ
namespace Go.Proofs.Ytdhjjiholmcagaa.V
open Go.Proofs.Ytdhjjiholmcagaa

theorem gv_digit' {zs : List Int} (hz : ∀ z ∈ zs, 0 ≤ z ∧ z ≤ 255) (a j k : Nat) (hj : j < k) : M.gv zs a k / 256 ^ j % 256 = (zs.getD (a + j) 0).toNat := by
  induction k with
  | zero => omega
  | succ k ih =>
    have hr := M.getD_range hz (a + k)
    show (M.gv zs a k + (zs.getD (a + k) 0).toNat * 256 ^ k) / 256 ^ j % 256 = _
    by_cases e : j = k
    · subst e
      rw [Nat.add_mul_div_right _ _ (Nat.pow_pos (by decide)), Nat.div_eq_of_lt (M.gv_lt hz a j), Nat.zero_add]
      omega
    · have hjk : j < k := by omega
      have e1 : 256 ^ k = 256 * 256 ^ (k - j - 1) * 256 ^ j := by
        rw [show 256 * 256 ^ (k - j - 1) = 256 ^ (k - j - 1 + 1) by rw [Nat.pow_succ]; omega, ← Nat.pow_add]; congr 1; omega
      rw [e1, ← Nat.mul_assoc, Nat.add_mul_div_right _ _ (Nat.pow_pos (by decide)), Nat.mul_left_comm, Nat.add_mul_mod_self_left]
      exact ih hjk
theorem gv_digit {zs : List Int} (hz : ∀ z ∈ zs, 0 ≤ z ∧ z ≤ 255) (a j : Nat) (hj : j < 8) : ((M.gv zs a 8 / 256 ^ j % 256 : Nat) : Int) = zs.getD (a + j) 0 := by
  rw [gv_digit' hz a j 8 hj]
  have := M.getD_range hz (a + j)
  omega
theorem pv_back {zs : List Int} (hz : ∀ z ∈ zs, 0 ≤ z ∧ z ≤ 255) (a n : Nat) (h : a + 8 ≤ zs.length) : M.pv (M.pv zs a n 8) a (M.gv zs a 8) 8 = zs := by
  have key : ∀ i, i < zs.length → (M.pv (M.pv zs a n 8) a (M.gv zs a 8) 8).getD i 0 = zs.getD i 0 := fun i hi => by
    rw [M.pv_getD _ _ _ _ _ (by rw [M.pv_length]; exact hi), M.pv_getD _ _ _ _ _ hi]
    by_cases hr : a ≤ i ∧ i < a + 8
    · rw [if_pos hr, gv_digit hz a (i - a) (by omega), show a + (i - a) = i by omega]
    · rw [if_neg hr, if_neg hr]
  refine List.ext_getElem (by rw [M.pv_length, M.pv_length]) (fun i h1 h2 => ?_)
  have := key i h2
  simpa [List.getD_eq_getElem?_getD, h1, h2] using this
theorem ln_store_past {l : Ln} (hl : l.Good) (a n : Nat) (ha : a + 8 ≤ 64) (p : Nat) (hp : p ≤ (l.store a n).over.length) :
    ((l.store a n).back p).now = (l.store a n).now ∨ ∃ q, q ≤ l.over.length ∧ ((l.store a n).back p).now = (l.back q).now := by
  by_cases e : l.get a = n
  · have h1 : l.store a n = l := by unfold Ln.store; rw [if_pos e]
    rw [h1] at hp ⊢
    exact .inr ⟨p, hp, rfl⟩
  · have h1 : l.store a n = { now := M.pv l.now a n 8, over := l.over ++ [(a, l.get a)], mark := l.mark } := by unfold Ln.store; rw [if_neg e]
    rw [h1] at hp ⊢
    simp only [List.length_append, List.length_singleton] at hp
    by_cases hq : p = l.over.length + 1
    · left
      show undo _ ((l.over ++ [(a, l.get a)]).drop p) = _
      rw [List.drop_of_length_le (by simp; omega)]; rfl
    · right
      refine ⟨p, by omega, ?_⟩
      show undo (M.pv l.now a n 8) ((l.over ++ [(a, l.get a)]).drop p) = undo l.now (l.over.drop p)
      rw [List.drop_append_of_le_length (by omega), undo_snoc]
      show undo (M.pv (M.pv l.now a n 8) a (l.get a) 8) _ = _
      rw [Ln.get_eq, pv_back hl.byte a n (by rw [hl.len]; exact ha)]
theorem does_past {n : Nat} {d : Dv} (h : Up n d) (a : Act) (k : Nat) (hk : k < n) (p : Nat) (hp : p ≤ ((d.does a).at k).over.length) :
    (((d.does a).at k).back p).now = ((d.does a).at k).now ∨ ∃ q, q ≤ (d.at k).over.length ∧ (((d.does a).at k).back p).now = ((d.at k).back q).now := by
  have hk' : k < d.lines.length := by rw [h.len]; exact hk
  unfold Dv.does at hp ⊢
  by_cases h2 : a.kind % 5 = 2
  · rw [if_pos h2] at hp ⊢
    by_cases e : d.err a.off 1 = 0
    · rw [Dv.flush_ok e, at_done, at_line _ _ _ _ hk'] at hp ⊢
      by_cases hj : a.off.toNat / 64 = k
      · rw [if_pos hj] at hp ⊢; exact .inr ⟨p, hp, rfl⟩
      · rw [if_neg hj] at hp ⊢; exact .inr ⟨p, hp, rfl⟩
    · rw [Dv.flush_no e] at hp ⊢; exact .inr ⟨p, hp, rfl⟩
  · rw [if_neg h2] at hp ⊢
    by_cases h3 : a.kind % 5 = 3
    · rw [if_pos h3, Dv.fence] at hp ⊢
      by_cases e : d.left = 0
      · rw [if_pos e] at hp ⊢; exact .inr ⟨p, hp, rfl⟩
      · rw [if_neg e, at_done, at_settle _ _ hk'] at hp ⊢
        have hm := (h.good.at k).mark
        have hp' : p ≤ ((d.at k).over.drop (d.at k).mark).length := hp
        rw [List.length_drop] at hp'
        refine .inr ⟨(d.at k).mark + p, by omega, ?_⟩
        show undo _ (((d.at k).over.drop (d.at k).mark).drop p) = undo _ _
        rw [List.drop_drop]; rfl
    · rw [if_neg h3] at hp ⊢
      by_cases h4 : a.kind % 5 = 4
      · rw [if_pos h4] at hp ⊢; exact .inr ⟨p, hp, rfl⟩
      · rw [if_neg h4] at hp ⊢
        by_cases e : d.err a.off 8 = 0
        · obtain ⟨_, e2, e3, e4⟩ := err_zero e
          rw [Dv.store_ok _ e, at_done, at_line _ _ _ _ hk'] at hp ⊢
          by_cases hj : a.off.toNat / 64 = k
          · rw [if_pos hj] at hp ⊢; exact ln_store_past (h.good.at k) _ _ (by omega) p hp
          · rw [if_neg hj] at hp ⊢; exact .inr ⟨p, hp, rfl⟩
        · rw [Dv.store_no _ e] at hp ⊢; exact .inr ⟨p, hp, rfl⟩
/-- What a line was, behind so many acts at most. -/
def Was (l : List Act) (k j : Nat) (zs : List Int) : Prop := ∃ i, i ≤ j ∧ zs = ((all (newDv 8) (l.take i)).at k).now
theorem past (l : List Act) (k : Nat) (hk : k < 8) (j : Nat) (hj : j ≤ l.length) (p : Nat) (hp : p ≤ ((all (newDv 8) (l.take j)).at k).over.length) : Was l k j (((all (newDv 8) (l.take j)).at k).back p).now := by
  induction j generalizing p with
  | zero =>
    refine ⟨0, Nat.le_refl _, ?_⟩
    have h0 : (all (newDv 8) (l.take 0)).at k = zeroLn := by
      show ((List.replicate 8 zeroLn)[k]?).getD zeroLn = zeroLn
      rw [List.getElem?_replicate]; split <;> rfl
    rw [h0]; simp [Ln.back, zeroLn, undo]
  | succ j ih =>
    have hjl : j < l.length := by omega
    have e := all_succ (newDv 8) (l := l) (i := j) (a := l[j]) (List.getElem?_eq_getElem hjl)
    have hu := up_all (up_new (n := 8) (by decide) (by decide)) (l.take j)
    rw [e] at hp
    rcases does_past hu l[j] k hk p hp with h | ⟨q, hq, h⟩
    · exact ⟨j + 1, Nat.le_refl _, by rw [e]; exact h⟩
    · obtain ⟨i, hi, h2⟩ := ih (by omega) q hq
      exact ⟨i, by omega, by rw [e, h]; exact h2⟩
theorem crash_over {ls : List Ln} {ps : List Int} {m : Ln} (h : m ∈ crashL ls ps) : m.over = [] := by
  obtain ⟨l, _, k, _, rfl⟩ := crashL_mem h; rfl
/-- The statement's own claim, line by line. -/
theorem contents (l : List Act) (ps : List Int) (k : Nat) (hk : k < 8) : Was l k l.length (((all (newDv 8) l).crash ps).at k).now ∧ ((all (newDv 8) l).crash ps).may (k : Int) = 1 := by
  have hu := up_all (up_new (n := 8) (by decide) (by decide)) l
  obtain ⟨p, hp, he⟩ := crash_at (all (newDv 8) l).lines ps k (by rw [hu.len]; exact hk)
  have he' : ((all (newDv 8) l).crash ps).at k = ((all (newDv 8) l).at k).back p := he
  have h := past l k hk l.length (Nat.le_refl _) p (by rw [List.take_length]; exact hp)
  rw [List.take_length] at h
  refine ⟨by rw [he']; exact h, ?_⟩
  rw [may_at (hu.crash ps) k hk, he']; rfl
theorem crash_still : ∀ (ls : List Ln) (ps : List Int), (∀ l ∈ ls, l.over = []) → (crashL ls ps).flatMap (·.now) = ls.flatMap (·.now)
  | [], _, _ => rfl
  | l :: ls, ps, h => by
    have h0 : l.over.length = 0 := by rw [h l (List.mem_cons_self ..)]; rfl
    unfold crashL
    rw [if_pos h0, List.flatMap_cons, List.flatMap_cons, crash_still ls ps (fun m hm => h m (List.mem_cons_of_mem _ hm))]
    congr 1
    show undo l.now (l.over.drop 0) = l.now
    rw [h l (List.mem_cons_self ..)]; rfl
theorem crash_crash (d : Dv) (ps qs : List Int) : ((d.crash ps).crash qs).image = (d.crash ps).image := crash_still _ _ (fun _ hm => crash_over hm)
end Go.Proofs.Ytdhjjiholmcagaa.V
