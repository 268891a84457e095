
/- Plain mathematics of layer 4, more: the words of a device; what steps make of them; what a crash may leave. -/
import Derived.Test.YtmelmiookkeoaaaDoorSuM

namespace Go.Proofs.YtmelmiookkeoaaaDoor.V

open Go.Proofs.YtmelmiookkeoaaaDoor

theorem ln_get_store {l : Ln} (hl : l.Good) (r m b : Nat) (hr : r % 8 = 0) (hr2 : r + 8 ≤ 64) (hb : b % 8 = 0) (hb2 : b + 8 ≤ 64) (hm : m < 2 ^ 64) : (l.store r m).get b = if r = b then m else l.get b := by
  unfold Ln.store
  by_cases e : l.get r = m
  · rw [if_pos e]
    split
    · rename_i h; rw [← h]; exact e
    · rfl
  · rw [if_neg e, Ln.get_eq]
    show M.gv (M.pv l.now r m 8) b 8 = _
    split
    · rename_i h; subst h; exact M.get_put l.now r m (by rw [hl.len]; exact hr2) hm
    · rename_i h
      rw [M.get_put_other l.now r m b (by rw [hl.len]; exact hb2) (by omega), Ln.get_eq]
theorem line_at (d : Dv) (i j : Nat) (f : Ln → Ln) (hj : j < d.lines.length) : (d.line i f).done.at j = if i = j then f (d.at j) else d.at j := by
  simp only [Dv.at, Dv.line, Dv.done, List.getElem?_modify]
  rw [List.getElem?_eq_getElem hj]
  show (if i = j then f d.lines[j] else d.lines[j]) = _
  rfl
theorem settle_at (d : Dv) (j : Nat) (hj : j < d.lines.length) : d.settle.done.at j = (d.at j).settle := by
  simp only [Dv.at, Dv.settle, Dv.done, List.getElem?_map, List.getElem?_eq_getElem hj]
  rfl
theorem St.len (s : St) (d : Dv) : (s.run d).lines.length = d.lines.length := by
  cases s with
  | store off n => show (d.store off n).lines.length = _; unfold Dv.store; split <;> simp [Dv.line, Dv.done]
  | flush off => show (d.flush off).lines.length = _; unfold Dv.flush; split <;> simp [Dv.line, Dv.done]
  | fence => show d.fence.lines.length = _; unfold Dv.fence; split <;> simp [Dv.settle, Dv.done]
theorem St.good (s : St) {d : Dv} (h : d.Good) : (s.run d).Good := by
  cases s with
  | store off n => exact h.store off n
  | flush off => exact h.flush off
  | fence => exact h.fence
theorem runL_len : ∀ (l : List St) (d : Dv), (runL d l).1.lines.length = d.lines.length
  | [], _ => rfl
  | s :: l, d => by
    rw [runL]
    split
    · rw [runL_len l, s.len]
    · exact s.len d
theorem runL_good : ∀ (l : List St) {d : Dv}, d.Good → (runL d l).1.Good
  | [], _, h => h
  | s :: l, d, h => by
    rw [runL]
    split
    · exact runL_good l (s.good h)
    · exact s.good h

/-! ### Words -/
def Dv.word (d : Dv) (a : Nat) : Nat := (d.at (a / 64)).get (a % 64)
theorem load_word {d : Dv} {off : Int} (h : d.err off 8 = 0) : d.load off = d.word off.toNat := if_pos h
theorem word_store {d : Dv} (hg : d.Good) (off : Int) (m : Nat) (hm : m < 2 ^ 64) (a : Nat) (ha : a % 8 = 0) (hl : a < 64 * d.lines.length) : (d.store off m).word a = if d.err off 8 = 0 ∧ off = (a : Int) then m else d.word a := by
  by_cases e : d.err off 8 = 0
  · obtain ⟨e1, e2, e3, e4⟩ := err_zero e
    obtain ⟨p1, p2⟩ := place_in e2 e4
    unfold Dv.word
    rw [Dv.store_ok m e, line_at _ _ _ _ (by omega)]
    by_cases hj : off.toNat / 64 = a / 64
    · rw [if_pos hj, ln_get_store (hg.at _) _ _ _ p1 p2 (by omega) (by omega) hm]
      by_cases ho : off = (a : Int)
      · rw [if_pos (by omega), if_pos ⟨e, ho⟩]
      · rw [if_neg (by omega), if_neg (fun h => ho h.2)]
    · rw [if_neg hj, if_neg (fun h => hj (by omega))]
  · rw [Dv.store_no m e, if_neg (fun h => e h.1)]
theorem word_flush (d : Dv) (off : Int) (a : Nat) (hl : a < 64 * d.lines.length) : (d.flush off).word a = d.word a := by
  by_cases e : d.err off 1 = 0
  · unfold Dv.word
    rw [Dv.flush_ok e, line_at _ _ _ _ (by omega)]
    split <;> rfl
  · rw [Dv.flush_no e]
theorem word_fence (d : Dv) (a : Nat) (hl : a < 64 * d.lines.length) : d.fence.word a = d.word a := by
  unfold Dv.word Dv.fence
  split
  · rfl
  · rw [settle_at _ _ (by omega)]; rfl
theorem word_stop (d : Dv) (k : Int) (a : Nat) : (d.stop k).word a = d.word a := by
  unfold Dv.stop; split <;> rfl

/-! ### What a device may have, behind whatever crash -/
def Holds (Q : Nat → Nat → Prop) (d : Dv) : Prop := ∀ j, j < d.lines.length → (∀ a, a % 8 = 0 → a + 8 ≤ 64 → Q (64 * j + a) ((d.at j).get a)) ∧ ∀ c ∈ (d.at j).over, Q (64 * j + c.1) c.2
theorem Holds.word {Q : Nat → Nat → Prop} {d : Dv} (h : Holds Q d) (a : Nat) (ha : a % 8 = 0) (hl : a < 64 * d.lines.length) : Q a (d.word a) := by
  have := (h (a / 64) (by omega)).1 (a % 64) (by omega) (by omega)
  rwa [show 64 * (a / 64) + a % 64 = a by omega] at this
theorem Holds.store {Q : Nat → Nat → Prop} {d : Dv} (h : Holds Q d) (hg : d.Good) (off : Int) (m : Nat) (hm : m < 2 ^ 64) (hQ : ∀ a : Nat, off = (a : Int) → Q a m) : Holds Q (d.store off m) := by
  by_cases e : d.err off 8 = 0
  · obtain ⟨e1, e2, e3, e4⟩ := err_zero e
    obtain ⟨p1, p2⟩ := place_in e2 e4
    have hlen : (d.store off m).lines.length = d.lines.length := St.len (.store off m) d
    intro j hj
    rw [hlen] at hj
    rw [Dv.store_ok m e, line_at _ _ _ _ hj]
    by_cases hjj : off.toNat / 64 = j
    · rw [if_pos hjj]
      refine ⟨fun a ha ha2 => ?_, fun c hc => ?_⟩
      · rw [ln_get_store (hg.at _) _ _ _ p1 p2 ha ha2 hm]
        split
        · exact hQ _ (by omega)
        · exact (h j hj).1 a ha ha2
      · unfold Ln.store at hc
        split at hc
        · exact (h j hj).2 c hc
        · rcases List.mem_append.1 hc with hc | hc
          · exact (h j hj).2 c hc
          · obtain rfl := List.mem_singleton.1 hc
            exact (h j hj).1 _ p1 p2
    · rw [if_neg hjj]; exact h j hj
  · rw [Dv.store_no m e]; exact h
theorem Holds.flush {Q : Nat → Nat → Prop} {d : Dv} (h : Holds Q d) (off : Int) : Holds Q (d.flush off) := by
  by_cases e : d.err off 1 = 0
  · have hlen : (d.flush off).lines.length = d.lines.length := St.len (.flush off) d
    intro j hj
    rw [hlen] at hj
    rw [Dv.flush_ok e, line_at _ _ _ _ hj]
    split <;> exact h j hj
  · rw [Dv.flush_no e]; exact h
theorem Holds.fence {Q : Nat → Nat → Prop} {d : Dv} (h : Holds Q d) : Holds Q d.fence := by
  have hlen : d.fence.lines.length = d.lines.length := St.len .fence d
  intro j hj
  rw [hlen] at hj
  unfold Dv.fence
  split
  · exact h j hj
  · rw [settle_at _ _ hj]
    exact ⟨(h j hj).1, fun c hc => (h j hj).2 c (List.mem_of_mem_drop hc)⟩
theorem Holds.stop {Q : Nat → Nat → Prop} {d : Dv} (h : Holds Q d) (k : Int) : Holds Q (d.stop k) := by
  unfold Dv.stop; split <;> exact h
theorem undo_get : ∀ (cs : List (Nat × Nat)) (b : List Int) (a : Nat), b.length = 64 → a % 8 = 0 → a + 8 ≤ 64 → (∀ c ∈ cs, c.1 % 8 = 0 ∧ c.1 + 8 ≤ 64 ∧ c.2 < 2 ^ 64) → M.gv (undo b cs) a 8 = M.gv b a 8 ∨ ∃ c ∈ cs, c.1 = a ∧ M.gv (undo b cs) a 8 = c.2
  | [], _, _, _, _, _, _ => .inl rfl
  | c :: cs, b, a, hb, ha, ha2, hc => by
    have h1 := hc c (by simp)
    rw [undo_cons]
    have hl : (undo b cs).length = 64 := by rw [undo_length, hb]
    by_cases e : c.1 = a
    · right
      refine ⟨c, by simp, e, ?_⟩
      rw [← e]
      exact M.get_put _ _ _ (by omega) h1.2.2
    · rw [M.get_put_other _ _ _ _ (by omega) (by omega)]
      rcases undo_get cs b a hb ha ha2 (fun x hx => hc x (List.mem_cons_of_mem _ hx)) with h | ⟨x, hx, h2, h3⟩
      · exact .inl h
      · exact .inr ⟨x, List.mem_cons_of_mem _ hx, h2, h3⟩
theorem crashed_at : ∀ (ls : List Ln) (ps : List Int) (j : Nat), j < ls.length → ∃ k, k ≤ ((ls[j]?.getD zeroLn)).over.length ∧ ((crashL ls ps)[j]?.getD zeroLn) = ((ls[j]?.getD zeroLn)).back k
  | [], _, _, h => by simp at h
  | l :: ls, ps, 0, _ => by
    unfold crashL
    by_cases h0 : l.over.length = 0
    · rw [if_pos h0]; exact ⟨0, Nat.zero_le _, rfl⟩
    · rw [if_neg h0]
      cases ps with
      | nil => exact ⟨0, Nat.zero_le _, rfl⟩
      | cons p ps => exact ⟨_, Nat.lt_succ_iff.1 (Nat.mod_lt _ (Nat.succ_pos _)), rfl⟩
  | l :: ls, ps, j + 1, h => by
    have hj : j < ls.length := by simpa using h
    unfold crashL
    by_cases h0 : l.over.length = 0
    · rw [if_pos h0, List.getElem?_cons_succ, List.getElem?_cons_succ]; exact crashed_at ls ps j hj
    · rw [if_neg h0]
      cases ps with
      | nil => simp only [List.getElem?_cons_succ]; exact crashed_at ls [] j hj
      | cons p ps => simp only [List.getElem?_cons_succ]; exact crashed_at ls ps j hj
theorem crash_len (d : Dv) (ps : List Int) : (d.crash ps).lines.length = d.lines.length := crashL_length _ _
theorem Holds.crash {Q : Nat → Nat → Prop} {d : Dv} (h : Holds Q d) (hg : d.Good) (ps : List Int) : Holds Q (d.crash ps) := by
  intro j hj
  rw [crash_len] at hj
  obtain ⟨k, _, hk⟩ := crashed_at d.lines ps j hj
  have hk' : (d.crash ps).at j = (d.at j).back k := hk
  rw [hk']
  refine ⟨fun a ha ha2 => ?_, fun c hc => by cases hc⟩
  rw [Ln.get_eq]
  rcases undo_get ((d.at j).over.drop k) (d.at j).now a (hg.at j).len ha ha2 (fun c hc => (hg.at j).over c (List.mem_of_mem_drop hc)) with e | ⟨c, hc, e1, e2⟩
  · show Q _ (M.gv (undo _ _) a 8)
    rw [e, ← Ln.get_eq]; exact (h j hj).1 a ha ha2
  · show Q _ (M.gv (undo _ _) a 8)
    rw [e2, ← e1]; exact (h j hj).2 c (List.mem_of_mem_drop hc)
/-- A line that has one content keeps it. -/
theorem crash_word {d : Dv} (ps : List Int) (a : Nat) (hl : a < 64 * d.lines.length) (ho : (d.at (a / 64)).over = []) : (d.crash ps).word a = d.word a := by
  obtain ⟨k, _, hk⟩ := crashed_at d.lines ps (a / 64) (by omega)
  have hk' : (d.crash ps).at (a / 64) = (d.at (a / 64)).back k := hk
  unfold Dv.word
  rw [hk', Ln.get_eq, Ln.get_eq]
  show M.gv (undo _ ((d.at (a / 64)).over.drop k)) _ _ = _
  rw [ho]; simp [undo]
theorem Holds.run {Q : Nat → Nat → Prop} {d : Dv} (h : Holds Q d) (hg : d.Good) (s : St) (hs : ∀ off m, s = .store off m → m < 2 ^ 64 ∧ ∀ a : Nat, off = (a : Int) → Q a m) : Holds Q (s.run d) := by
  cases s with
  | store off m => exact h.store hg off m (hs off m rfl).1 (hs off m rfl).2
  | flush off => exact h.flush off
  | fence => exact h.fence
theorem Holds.runL {Q : Nat → Nat → Prop} : ∀ (l : List St) {d : Dv}, Holds Q d → d.Good → (∀ off m, St.store off m ∈ l → m < 2 ^ 64 ∧ ∀ a : Nat, off = (a : Int) → Q a m) → Holds Q (runL d l).1
  | [], _, h, _, _ => h
  | s :: l, d, h, hg, hs => by
    have h1 := h.run hg s (fun off m e => hs off m (by rw [e]; simp))
    rw [V.runL]
    split
    · exact Holds.runL l h1 (s.good hg) (fun off m hm => hs off m (List.mem_cons_of_mem _ hm))
    · exact h1

/-! ### Steps that all went well -/
theorem runL_append (d : Dv) (a b : List St) (h : (runL d a).2 = 0) : runL d (a ++ b) = runL (runL d a).1 b := by
  induction a generalizing d with
  | nil => rfl
  | cons s a ih =>
    rw [List.cons_append]
    by_cases e : s.err d = 0
    · rw [runL_ok _ e] at h ⊢
      rw [runL_ok _ e]
      exact ih _ h
    · rw [runL_no _ e] at h
      exact absurd h e
theorem runL_append_no (d : Dv) (a b : List St) (h : (runL d a).2 ≠ 0) : runL d (a ++ b) = runL d a := by
  induction a generalizing d with
  | nil => exact absurd rfl h
  | cons s a ih =>
    rw [List.cons_append]
    by_cases e : s.err d = 0
    · rw [runL_ok _ e] at h ⊢
      rw [runL_ok _ e]
      exact ih _ h
    · rw [runL_no _ e, runL_no _ e]
theorem runL_split {d : Dv} {a b : List St} (h : (runL d (a ++ b)).2 = 0) : (runL d a).2 = 0 ∧ (runL (runL d a).1 b).2 = 0 ∧ runL d (a ++ b) = runL (runL d a).1 b := by
  by_cases e : (runL d a).2 = 0
  · have := runL_append d a b e
    rw [this] at h
    exact ⟨e, h, this⟩
  · rw [runL_append_no d a b e] at h
    exact absurd h e
/-- The words behind Stores that all went well. -/
theorem sts_word {off : Int} : ∀ (l : List Nat) (i : Nat) {d : Dv}, d.Good → (∀ n ∈ l, n < 2 ^ 64) → (runL d (sts off i l)).2 = 0 → ∀ a : Nat, a % 8 = 0 → a < 64 * d.lines.length →
    (∀ k x, l[k]? = some x → (a : Int) = off + 8 * ((i + k : Nat) : Int) → (runL d (sts off i l)).1.word a = x) ∧ ((∀ k, k < l.length → (a : Int) ≠ off + 8 * ((i + k : Nat) : Int)) → (runL d (sts off i l)).1.word a = d.word a)
  | [], _, _, _, _, _, _, _, _ => ⟨fun k x h => by simp at h, fun _ => rfl⟩
  | n :: l, i, d, hg, hn, h, a, ha, hl => by
    have e : (St.store (off + 8 * (i : Int)) n).err d = 0 := by
      by_cases e : (St.store (off + 8 * (i : Int)) n).err d = 0
      · exact e
      · rw [sts, runL_no _ e] at h; exact absurd h e
    have e' : d.err (off + 8 * (i : Int)) 8 = 0 := e
    rw [sts, runL_ok _ e] at h ⊢
    obtain ⟨k1, k2⟩ := sts_word l (i + 1) (d := d.store (off + 8 * (i : Int)) n) (hg.store _ _) (fun m hm => hn m (List.mem_cons_of_mem _ hm)) h a ha (by rw [show (d.store (off + 8 * (i : Int)) n).lines.length = d.lines.length from St.len (.store _ _) d]; exact hl)
    have hw := word_store hg (off + 8 * (i : Int)) n (hn n (by simp)) a ha hl
    refine ⟨fun k x hk hx => ?_, fun hx => ?_⟩
    · cases k with
      | zero =>
        obtain rfl : n = x := by simpa using hk
        show (runL (d.store _ _) _).1.word a = _
        rw [k2 (fun k _ => by rw [hx]; omega), hw, if_pos ⟨e', by rw [hx]; omega⟩]
      | succ k => exact k1 k x (by simpa using hk) (by rw [hx]; omega)
    · show (runL (d.store _ _) _).1.word a = _
      rw [k2 (fun k hk => by have := hx (k + 1) (by simp; omega); rw [show i + 1 + k = i + (k + 1) by omega]; exact this), hw, if_neg (fun h => hx 0 (by simp) (by rw [Nat.add_zero]; exact h.2.symm))]
/-- Flushes that all went well: the lines that they name are marked, and nothing else is changed. -/
theorem fls_marks {off : Int} : ∀ (k i : Nat) {d : Dv}, (runL d (fls off i k)).2 = 0 → ∀ j, j < d.lines.length →
    ((runL d (fls off i k)).1.at j).now = (d.at j).now ∧ ((runL d (fls off i k)).1.at j).over = (d.at j).over ∧
      (((d.at j).mark = (d.at j).over.length ∨ ∃ t, t < k ∧ (i + t = 0 ∨ (off + 8 * ((i + t : Nat) : Int)) % 64 = 0) ∧ (off + 8 * ((i + t : Nat) : Int)).toNat / 64 = j) → ((runL d (fls off i k)).1.at j).mark = (d.at j).over.length)
  | 0, _, d, _, j, _ => ⟨rfl, rfl, fun h => by rcases h with h | ⟨t, ht, _⟩; exact h; omega⟩
  | k + 1, i, d, h, j, hj => by
    rw [fls] at h ⊢
    by_cases hc : i = 0 ∨ (off + 8 * (i : Int)) % 64 = 0
    · rw [if_pos hc] at h ⊢
      have e : (St.flush (off + 8 * (i : Int))).err d = 0 := by
        by_cases e : (St.flush (off + 8 * (i : Int))).err d = 0
        · exact e
        · rw [runL_no _ e] at h; exact absurd h e
      have e' : d.err (off + 8 * (i : Int)) 1 = 0 := e
      rw [runL_ok _ e] at h ⊢
      have hd : (St.flush (off + 8 * (i : Int))).run d = (d.line ((off + 8 * (i : Int)).toNat / 64) Ln.flush).done := Dv.flush_ok e'
      have hlen : ((St.flush (off + 8 * (i : Int))).run d).lines.length = d.lines.length := St.len _ d
      obtain ⟨m1, m2, m3⟩ := fls_marks k (i + 1) h j (by rw [hlen]; exact hj)
      have hat : ((St.flush (off + 8 * (i : Int))).run d).at j = if (off + 8 * (i : Int)).toNat / 64 = j then (d.at j).flush else d.at j := by rw [hd, line_at _ _ _ _ hj]
      rw [hat] at m1 m2 m3
      by_cases hjj : (off + 8 * (i : Int)).toNat / 64 = j
      · rw [if_pos hjj] at m1 m2 m3
        exact ⟨m1, m2, fun _ => m3 (.inl rfl)⟩
      · rw [if_neg hjj] at m1 m2 m3
        refine ⟨m1, m2, fun hh => m3 ?_⟩
        rcases hh with hh | ⟨t, h1, h2, h3⟩
        · exact .inl hh
        · cases t with
          | zero => exact absurd h3 hjj
          | succ t => exact .inr ⟨t, by omega, by rw [show i + 1 + t = i + (t + 1) by omega]; exact h2, by rw [show i + 1 + t = i + (t + 1) by omega]; exact h3⟩
    · rw [if_neg hc] at h ⊢
      obtain ⟨m1, m2, m3⟩ := fls_marks k (i + 1) h j hj
      refine ⟨m1, m2, fun hh => m3 ?_⟩
      rcases hh with hh | ⟨t, h1, h2, h3⟩
      · exact .inl hh
      · cases t with
        | zero => exact absurd h2 (by rw [Nat.add_zero]; exact hc)
        | succ t => exact .inr ⟨t, by omega, by rw [show i + 1 + t = i + (t + 1) by omega]; exact h2, by rw [show i + 1 + t = i + (t + 1) by omega]; exact h3⟩
/-- The line of each word is flushed by one of them. -/
theorem fls_line {off : Int} (h0 : 0 ≤ off) (h8 : off % 8 = 0) (k : Nat) : ∃ t, t ≤ k ∧ (t = 0 ∨ (off + 8 * (t : Int)) % 64 = 0) ∧ (off + 8 * (t : Int)).toNat / 64 = (off + 8 * (k : Int)).toNat / 64 := by
  induction k with
  | zero => exact ⟨0, Nat.le_refl _, .inl rfl, rfl⟩
  | succ k ih =>
    by_cases hc : (off + 8 * ((k + 1 : Nat) : Int)) % 64 = 0
    · exact ⟨k + 1, Nat.le_refl _, .inr hc, rfl⟩
    · obtain ⟨t, h1, h2, h3⟩ := ih
      exact ⟨t, by omega, h2, by rw [h3]; omega⟩
/-- What PutAll leaves that answers OK: these words, durable; all other words as they were. -/
theorem puts_done {off : Int} {l : List Nat} {d : Dv} (hg : d.Good) (h0 : 0 ≤ off) (h8 : off % 8 = 0) (hl : off + 8 * (l.length : Int) ≤ 64 * (d.lines.length : Int)) (hn : ∀ n ∈ l, n < 2 ^ 64) (h : (runL d (puts off l)).2 = 0) :
    (∀ (k x : Nat), l[k]? = some x → (runL d (puts off l)).1.word (off + 8 * (k : Int)).toNat = x ∧ ((runL d (puts off l)).1.at ((off + 8 * (k : Int)).toNat / 64)).over = []) ∧
    (∀ a : Nat, a % 8 = 0 → a < 64 * d.lines.length → (∀ k, k < l.length → (a : Int) ≠ off + 8 * (k : Int)) → (runL d (puts off l)).1.word a = d.word a) := by
  unfold puts at h ⊢
  obtain ⟨h1, h2, h3⟩ := runL_split h
  rw [h3]
  obtain ⟨h4, h5, h6⟩ := runL_split h1
  rw [h6] at h1 h2 ⊢
  have g1 := runL_good (sts off 0 l) hg
  have len1 := runL_len (sts off 0 l) d
  have hw := fun a ha ha2 => sts_word l 0 hg hn h4 a ha ha2
  generalize (runL d (sts off 0 l)).1 = d1 at *
  have len2 := runL_len (fls off 0 l.length) d1
  have hm := fun j hj => fls_marks l.length 0 h5 j hj
  generalize (runL d1 (fls off 0 l.length)).1 = d2 at *
  have e : d2.state = 0 := by
    by_cases e : St.err d2 .fence = 0
    · exact e
    · rw [runL_no _ e] at h2; exact absurd h2 e
  have e2 : d2.left ≠ 0 := by
    intro hl; unfold Dv.state at e; rw [if_pos hl] at e; omega
  have hr : (runL d2 [.fence]).1 = d2.settle.done := by
    have e' : St.err d2 .fence = 0 := e
    rw [runL_ok _ e']
    show d2.fence = _
    unfold Dv.fence; rw [if_neg e2]
  rw [hr]
  have hword : ∀ a, a < 64 * d.lines.length → d2.settle.done.word a = d1.word a := by
    intro a ha
    unfold Dv.word
    rw [settle_at _ _ (by omega), Ln.get_eq, Ln.get_eq]
    show M.gv (d2.at _).now _ _ = _
    rw [(hm (a / 64) (by omega)).1]
  refine ⟨fun k x hk => ?_, fun a ha ha2 hx => ?_⟩
  · have hkl := (List.getElem?_eq_some_iff.1 hk).1
    refine ⟨?_, ?_⟩
    · rw [hword _ (by omega)]
      exact (hw _ (by omega) (by omega)).1 k x hk (by rw [Nat.zero_add]; omega)
    · have hj : (off + 8 * (k : Int)).toNat / 64 < d1.lines.length := by omega
      rw [settle_at _ _ (by omega)]
      obtain ⟨_, m2, m3⟩ := hm _ hj
      obtain ⟨t, t1, t2, t3⟩ := fls_line h0 h8 k
      have hmk := m3 (.inr ⟨t, by omega, by rw [Nat.zero_add]; exact t2, by rw [Nat.zero_add]; exact t3⟩)
      show (d2.at _).over.drop (d2.at _).mark = []
      rw [m2, hmk, List.drop_length]
  · rw [hword a ha2]
    exact (hw a ha ha2).2 (fun k hk => by rw [Nat.zero_add]; exact hx k hk)

/-! ### When steps all go well -/
def St.fits (n : Nat) : St → Prop
  | .store off _ => 0 ≤ off ∧ off < 64 * (n : Int) ∧ off % 8 = 0
  | .flush off => 0 ≤ off ∧ off < 64 * (n : Int)
  | .fence => True
theorem St.goes {n : Nat} {s : St} (h : s.fits n) {d : Dv} (hl : d.lines.length = n) (hd : d.left ≠ 0) : s.err d = 0 ∧ (s.run d).left = (if 0 < d.left then d.left - 1 else d.left) ∧ (s.run d).steps = d.steps + 1 := by
  cases s with
  | store off m =>
    have e : d.err off 8 = 0 := by unfold Dv.err; rw [if_neg hd, if_pos ⟨h.1, by rw [hl]; exact h.2.1, h.2.2⟩]
    refine ⟨e, ?_, ?_⟩
    · show (d.store off m).left = _; rw [Dv.store_ok m e]; rfl
    · show (d.store off m).steps = _; rw [Dv.store_ok m e]; rfl
  | flush off =>
    have e : d.err off 1 = 0 := by unfold Dv.err; rw [if_neg hd, if_pos ⟨h.1, by rw [hl]; exact h.2, by omega⟩]
    refine ⟨e, ?_, ?_⟩
    · show (d.flush off).left = _; rw [Dv.flush_ok e]; rfl
    · show (d.flush off).steps = _; rw [Dv.flush_ok e]; rfl
  | fence =>
    refine ⟨?_, ?_, ?_⟩
    · show d.state = 0; unfold Dv.state; rw [if_neg hd]
    · show d.fence.left = _; unfold Dv.fence; rw [if_neg hd]; rfl
    · show d.fence.steps = _; unfold Dv.fence; rw [if_neg hd]; rfl
theorem runL_goes {n : Nat} : ∀ (l : List St) {d : Dv}, (∀ s ∈ l, s.fits n) → d.lines.length = n → (d.left < 0 ∨ (l.length : Int) ≤ d.left) →
    (runL d l).2 = 0 ∧ (runL d l).1.left = (if d.left < 0 then d.left else d.left - l.length) ∧ (runL d l).1.steps = d.steps + l.length
  | [], d, _, _, hd => by
    refine ⟨rfl, ?_, rfl⟩
    show d.left = _
    split
    · rfl
    · simp
  | s :: l, d, hs, hl, hd => by
    rw [List.length_cons] at hd
    obtain ⟨e, h1, h2⟩ := St.goes (hs s (by simp)) hl (by omega)
    rw [runL_ok _ e]
    obtain ⟨k1, k2, k3⟩ := runL_goes l (d := s.run d) (fun x hx => hs x (List.mem_cons_of_mem _ hx)) (by rw [s.len]; exact hl) (by rw [h1]; split <;> omega)
    refine ⟨k1, ?_, by rw [k3, h2, List.length_cons]; omega⟩
    rw [k2, h1, List.length_cons]
    by_cases hn : d.left < 0
    · rw [if_neg (show ¬ 0 < d.left by omega), if_pos hn, if_pos hn]
    · rw [if_pos (show 0 < d.left by omega), if_neg (by omega), if_neg hn]; omega
/-- What an error of steps that fit tells: the device is down. -/
theorem runL_down {n : Nat} : ∀ (l : List St) {d : Dv}, (∀ s ∈ l, s.fits n) → d.lines.length = n → (runL d l).2 = 0 ∨ (runL d l).2 = 12
  | [], _, _, _ => .inl rfl
  | s :: l, d, hs, hl => by
    by_cases hd : d.left = 0
    · right
      have e : s.err d = 12 := by
        cases s with
        | store off m => show d.err off 8 = 12; unfold Dv.err; rw [if_pos hd]
        | flush off => show d.err off 1 = 12; unfold Dv.err; rw [if_pos hd]
        | fence => show d.state = 12; unfold Dv.state; rw [if_pos hd]
      rw [runL_no _ (by rw [e]; decide)]; exact e
    · obtain ⟨e, _, _⟩ := St.goes (hs s (by simp)) hl hd
      rw [runL_ok _ e]
      exact runL_down l (fun x hx => hs x (List.mem_cons_of_mem _ hx)) (by rw [s.len]; exact hl)
theorem sts_fits {n : Nat} {off : Int} (h0 : 0 ≤ off) (h8 : off % 8 = 0) : ∀ (i : Nat) (l : List Nat), off + 8 * ((i + l.length : Nat) : Int) ≤ 64 * (n : Int) → ∀ s ∈ sts off i l, s.fits n
  | _, [], _, s, h => by cases h
  | i, x :: l, hl, s, h => by
    rw [List.length_cons] at hl
    rcases List.mem_cons.1 h with rfl | h
    · show _ ∧ _ ∧ _; omega
    · exact sts_fits h0 h8 (i + 1) l (by omega) s h
theorem fls_fits {n : Nat} {off : Int} (h0 : 0 ≤ off) (h8 : off % 8 = 0) : ∀ (i k : Nat), off + 8 * ((i + k : Nat) : Int) ≤ 64 * (n : Int) → ∀ s ∈ fls off i k, s.fits n
  | _, 0, _, s, h => by cases h
  | i, k + 1, hl, s, h => by
    rw [fls] at h
    split at h
    · rcases List.mem_cons.1 h with rfl | h
      · show _ ∧ _; omega
      · exact fls_fits h0 h8 (i + 1) k (by omega) s h
    · exact fls_fits h0 h8 (i + 1) k (by omega) s h
theorem puts_fits {n : Nat} {off : Int} {l : List Nat} (h0 : 0 ≤ off) (h8 : off % 8 = 0) (hl : off + 8 * (l.length : Int) ≤ 64 * (n : Int)) : ∀ s ∈ puts off l, s.fits n := by
  intro s hs
  rcases List.mem_append.1 hs with hs | hs
  · rcases List.mem_append.1 hs with hs | hs
    · exact sts_fits h0 h8 0 l (by rw [Nat.zero_add]; exact hl) s hs
    · exact fls_fits h0 h8 0 l.length (by rw [Nat.zero_add]; exact hl) s hs
  · obtain rfl := List.mem_singleton.1 hs
    trivial
theorem puts_length (off : Int) (l : List Nat) : (puts off l).length ≤ 2 * l.length + 1 := by
  have := fls_length off 0 l.length
  simp only [puts, List.length_append, sts_length, List.length_singleton]
  omega
theorem room_zero {d : Dv} {off many : Int} : d.room off many = 0 ↔ 0 ≤ off ∧ off % 8 = 0 ∧ 0 ≤ many ∧ off + 8 * many ≤ 64 * (d.lines.length : Int) := by
  unfold Dv.room
  by_cases hc : 0 ≤ off ∧ off % 8 = 0 ∧ 0 ≤ many ∧ off + 8 * many ≤ 64 * (d.lines.length : Int)
  · rw [if_pos hc]; exact ⟨fun _ => hc, fun _ => rfl⟩
  · rw [if_neg hc]; exact ⟨fun h => by omega, fun h => absurd h hc⟩
theorem newDv_word (n a : Nat) : (newDv n).word a = 0 := by
  have h : (newDv n).at (a / 64) = zeroLn := by
    show ((List.replicate n zeroLn)[a / 64]?).getD zeroLn = zeroLn
    rw [List.getElem?_replicate]; split <;> rfl
  unfold Dv.word
  rw [h, Ln.get_eq]
  refine M.gv_of 0 _ _ (fun i _ => ?_) (by decide)
  show (List.replicate 64 (0 : Int)).getD _ 0 = _
  rw [List.getD_eq_getElem?_getD, List.getElem?_replicate]
  split <;> simp
theorem newDv_len (n : Nat) : (newDv n).lines.length = n := by simp [newDv]
theorem newDv_holds {Q : Nat → Nat → Prop} (n : Nat) (hQ : ∀ a, Q a 0) : Holds Q (newDv n) := by
  intro j hj
  have h : (newDv n).at j = zeroLn := by
    show ((List.replicate n zeroLn)[j]?).getD zeroLn = zeroLn
    rw [List.getElem?_replicate]; split <;> rfl
  refine ⟨fun a _ ha2 => ?_, fun c hc => by rw [h] at hc; cases hc⟩
  have hw := newDv_word n (64 * j + a)
  unfold Dv.word at hw
  rw [show (64 * j + a) / 64 = j by omega, show (64 * j + a) % 64 = a by omega] at hw
  rw [hw]; exact hQ _
theorem words_eq {d : Dv} {off : Int} {k : Nat} (hr : d.room off k = 0) (hl : d.left ≠ 0) (i : Nat) (hi : i < k) : (d.words off k)[i]? = some (d.word (off + 8 * (i : Int)).toNat) := by
  rw [words_get d off k i hi, load_word (room_err hr hl i hi)]
/-- What was put on a new device is got, in pieces. -/
theorem back_put {off : Int} {l : List Nat} (h0 : 0 ≤ off) (h8 : off % 8 = 0) (hl : off + 8 * (l.length : Int) ≤ 512) (hn : ∀ n ∈ l, n < 2 ^ 64) :
    ((newDv 8).putAll off l).2 = 0 ∧ ((newDv 8).putAll off l).1.left ≠ 0 ∧ ((newDv 8).putAll off l).1.lines.length = 8 ∧ ∀ k m : Nat, k + m ≤ l.length → ((newDv 8).putAll off l).1.room (off + 8 * (k : Int)) m = 0 ∧ ((newDv 8).putAll off l).1.words (off + 8 * (k : Int)) m = (l.drop k).take m := by
  have hr : (newDv 8).room off l.length = 0 := room_zero.2 ⟨h0, h8, by omega, by rw [newDv_len]; omega⟩
  have e : (newDv 8).putAll off l = runL (newDv 8) (puts off l) := if_pos hr
  have hlen := newDv_len 8
  have hg := newDv_good (n := 8) (by decide) (by decide)
  obtain ⟨g1, g2, _⟩ := runL_goes (n := 8) (puts off l) (d := newDv 8) (puts_fits h0 h8 (by omega)) hlen (.inl (by decide))
  have g3 := runL_len (puts off l) (newDv 8)
  rw [hlen] at g3
  obtain ⟨p1, _⟩ := puts_done hg h0 h8 (by rw [hlen]; omega) hn g1
  rw [e]
  generalize (runL (newDv 8) (puts off l)).1 = d at *
  have hleft : d.left ≠ 0 := by rw [g2, if_pos (by decide)]; decide
  refine ⟨g1, hleft, g3, fun k m hkm => ?_⟩
  have hr2 : d.room (off + 8 * (k : Int)) m = 0 := room_zero.2 ⟨by omega, by omega, by omega, by rw [g3]; omega⟩
  refine ⟨hr2, ?_⟩
  apply List.ext_getElem?
  intro i
  by_cases hi : i < m
  · rw [words_eq hr2 hleft i hi, List.getElem?_take_of_lt hi, List.getElem?_drop]
    have hx : l[k + i]? = some (l[k + i]'(by omega)) := List.getElem?_eq_getElem (by omega)
    rw [hx, ← (p1 (k + i) _ hx).1]
    congr 2
    omega
  · rw [List.getElem?_eq_none (by rw [words_length]; omega), List.getElem?_eq_none (by rw [List.length_take]; omega)]
theorem sts_mem {off off' : Int} {m : Nat} : ∀ (i : Nat) (l : List Nat), St.store off' m ∈ sts off i l → ∃ k, l[k]? = some m ∧ off' = off + 8 * ((i + k : Nat) : Int)
  | _, [], h => by cases h
  | i, n :: l, h => by
    rw [sts] at h
    rcases List.mem_cons.1 h with h | h
    · simp only [St.store.injEq] at h
      exact ⟨0, by simp [h.2], by rw [Nat.add_zero]; exact h.1⟩
    · obtain ⟨k, h1, h2⟩ := sts_mem (i + 1) l h
      exact ⟨k + 1, by simpa using h1, by rw [h2]; omega⟩
theorem fls_mem {off off' : Int} {m : Nat} : ∀ (i k : Nat), St.store off' m ∈ fls off i k → False
  | _, 0, h => by cases h
  | i, k + 1, h => by
    rw [fls] at h
    split at h
    · rcases List.mem_cons.1 h with h | h
      · cases h
      · exact fls_mem (i + 1) k h
    · exact fls_mem (i + 1) k h
theorem puts_mem {off off' : Int} {m : Nat} {l : List Nat} (h : St.store off' m ∈ puts off l) : ∃ k : Nat, l[k]? = some m ∧ off' = off + 8 * (k : Int) := by
  rcases List.mem_append.1 h with h | h
  · rcases List.mem_append.1 h with h | h
    · obtain ⟨k, h1, h2⟩ := sts_mem 0 l h
      exact ⟨k, h1, by rw [h2, Nat.zero_add]⟩
    · exact (fls_mem 0 l.length h).elim
  · cases List.mem_singleton.1 h
theorem stop_len (d : Dv) (k : Int) : (d.stop k).lines.length = d.lines.length := by unfold Dv.stop; split <;> rfl
theorem stop_steps (d : Dv) (k : Int) : (d.stop k).steps = d.steps := by unfold Dv.stop; split <;> rfl
/-- The statement's own claim of SureDurable. -/
theorem sure_durable {off : Int} {l : List Nat} (h0 : 0 ≤ off) (h8 : off % 8 = 0) (hl : off + 8 * (l.length : Int) ≤ 512) (hn : ∀ n ∈ l, n < 2 ^ 64) (after : Nat) (ha : after ≤ 255) (ps : List Int) :
    (((newDv 8).stop after).putAll off l).1.steps ≤ 2 * l.length + 1 ∧ ((((newDv 8).stop after).putAll off l).2 = 0 ∨ (((newDv 8).stop after).putAll off l).2 = 12) ∧
    ((((newDv 8).stop after).putAll off l).1.crash ps).room off l.length = 0 ∧ ((((newDv 8).stop after).putAll off l).1.crash ps).left ≠ 0 ∧
    ∀ i x : Nat, l[i]? = some x → ∃ y, (((((newDv 8).stop after).putAll off l).1.crash ps).words off l.length)[i]? = some y ∧ (y = x ∨ y = 0) ∧ ((((newDv 8).stop after).putAll off l).2 = 0 → y = x) := by
  have hg := (newDv_good (n := 8) (by decide) (by decide)).stop (after : Int) (by omega)
  have hlen : ((newDv 8).stop after).lines.length = 8 := by rw [stop_len, newDv_len]
  have hst : ((newDv 8).stop after).steps = 0 := stop_steps _ _
  have hr : ((newDv 8).stop after).room off l.length = 0 := room_zero.2 ⟨h0, h8, by omega, by rw [hlen]; omega⟩
  have e : ((newDv 8).stop after).putAll off l = runL ((newDv 8).stop after) (puts off l) := if_pos hr
  have hQ0 : Holds (fun a x => x = 0 ∨ ∃ i : Nat, l[i]? = some x ∧ (a : Int) = off + 8 * (i : Int)) ((newDv 8).stop after) := (newDv_holds 8 (fun a => .inl rfl)).stop _
  rw [e]
  generalize (newDv 8).stop after = d at *
  have hQ := hQ0.runL (puts off l) hg (fun off' m hm => by
    obtain ⟨k, h1, h2⟩ := puts_mem hm
    exact ⟨hn m (List.mem_of_getElem? h1), fun a ha => .inr ⟨k, h1, by omega⟩⟩)
  have g3 := runL_len (puts off l) d
  rw [hlen] at g3
  have g4 := runL_good (puts off l) hg
  have g5 := runL_steps (puts off l) d
  have g6 := puts_length off l
  have hdn := runL_down (n := 8) (puts off l) (d := d) (puts_fits h0 h8 (by omega)) hlen
  have hok := fun h => (puts_done hg h0 h8 (by rw [hlen]; omega) hn h).1
  generalize runL d (puts off l) = r at *
  obtain ⟨d1, er⟩ := r
  dsimp only at *
  have hr2 : (d1.crash ps).room off l.length = 0 := room_zero.2 ⟨h0, h8, by omega, by rw [crash_len, g3]; omega⟩
  have hl2 : (d1.crash ps).left ≠ 0 := by show (-1 : Int) ≠ 0; decide
  refine ⟨by omega, hdn, hr2, hl2, fun i x hx => ?_⟩
  have hi := (List.getElem?_eq_some_iff.1 hx).1
  refine ⟨_, words_eq hr2 hl2 i hi, ?_, fun he => ?_⟩
  · have hw := (hQ.crash g4 ps).word (off + 8 * (i : Int)).toNat (by omega) (by rw [crash_len, g3]; omega)
    rcases hw with hw | ⟨k, h1, h2⟩
    · exact .inr hw
    · left
      have hk : k = i := by omega
      rw [hk, hx] at h1
      exact (Option.some.inj h1).symm
  · obtain ⟨p1, p2⟩ := hok he i x hx
    rw [crash_word ps _ (by rw [g3]; omega) p2, p1]

/-! ### One word, and none -/
theorem alone_one {d : Dv} {off : Int} (n : Nat) (h0 : 0 ≤ off) (h8 : off % 8 = 0) (hl : off + 8 ≤ 64 * (d.lines.length : Int)) : d.putAll off [n] = d.put off n := by
  have hr : d.room off ([n].length : Nat) = 0 := room_zero.2 ⟨h0, h8, by simp, by simp; omega⟩
  have e : puts off [n] = [.store off n, .flush off, .fence] := by
    simp [puts, sts, fls]
  unfold Dv.putAll Dv.put
  rw [if_pos hr, e]
theorem alone_none {d : Dv} {off : Int} (h0 : 0 ≤ off) (h8 : off % 8 = 0) (hl : off ≤ 64 * (d.lines.length : Int)) : d.putAll off [] = (d.fence, d.state) := by
  have hr : d.room off (([] : List Nat).length : Nat) = 0 := room_zero.2 ⟨h0, h8, by simp, by simp; omega⟩
  unfold Dv.putAll
  rw [if_pos hr]
  show runL d [.fence] = _
  by_cases e : St.err d .fence = 0
  · rw [runL_ok _ e]
    have e' : d.state = 0 := e
    rw [e']; rfl
  · rw [runL_no _ e]; rfl
theorem alone_wrong {d : Dv} {off : Int} (n : Nat) (h : ¬ (0 ≤ off ∧ off % 8 = 0 ∧ off + 8 ≤ 64 * (d.lines.length : Int))) : (d.put off n).2 ≠ 0 ∧ (d.putAll off [n]).2 = 4 := by
  have he : d.err off 8 ≠ 0 := by
    intro he
    obtain ⟨_, e2, e3, e4⟩ := err_zero he
    exact h ⟨e2, e4, by omega⟩
  refine ⟨?_, ?_⟩
  · have e' : ¬ (St.store off n).err d = 0 := he
    unfold Dv.put
    rw [runL_no _ e']
    exact he
  · unfold Dv.putAll
    rw [if_neg (fun hr => h (by obtain ⟨a, b, _, c⟩ := room_zero.1 hr; simp at c; exact ⟨a, b, by omega⟩))]
end Go.Proofs.YtmelmiookkeoaaaDoor.V
