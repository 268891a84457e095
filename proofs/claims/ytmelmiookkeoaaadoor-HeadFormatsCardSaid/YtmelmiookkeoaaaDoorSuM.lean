
/- Plain mathematics of layer 4: steps on a device, one behind the other, as far as the first error. Nothing of the program. -/
import Derived.Test.YtmelmiookkeoaaaDoorNvM

namespace Go.Proofs.YtmelmiookkeoaaaDoor.V

open Go.Proofs.YtmelmiookkeoaaaDoor

inductive St where
  | store (off : Int) (n : Nat)
  | flush (off : Int)
  | fence
def St.err (d : Dv) : St → Int
  | .store off _ => d.err off 8
  | .flush off => d.err off 1
  | .fence => d.state
def St.run (d : Dv) : St → Dv
  | .store off n => d.store off n
  | .flush off => d.flush off
  | .fence => d.fence
/-- May it be asked? -/
def St.ok : St → Prop
  | .store off n => (-9223372036854775808 ≤ off ∧ off ≤ 9223372036854775807) ∧ n < 2 ^ 64
  | .flush off => -9223372036854775808 ≤ off ∧ off ≤ 9223372036854775807
  | .fence => True
def runL (d : Dv) : List St → Dv × Int
  | [] => (d, 0)
  | s :: l => if s.err d = 0 then runL (s.run d) l else (s.run d, s.err d)
theorem runL_ok {d : Dv} {s : St} (l : List St) (h : s.err d = 0) : runL d (s :: l) = runL (s.run d) l := by rw [runL, if_pos h]
theorem runL_no {d : Dv} {s : St} (l : List St) (h : ¬ s.err d = 0) : runL d (s :: l) = (s.run d, s.err d) := by rw [runL, if_neg h]
theorem Dv.steps_line (d : Dv) (i : Nat) (f : Ln → Ln) : (d.line i f).done.steps = d.steps + 1 := rfl
theorem St.steps (s : St) (d : Dv) : (s.run d).steps ≤ d.steps + 1 := by
  cases s with
  | store off n =>
    show (d.store off n).steps ≤ _
    unfold Dv.store
    split
    · exact Nat.le_refl _
    · exact Nat.le_succ _
  | flush off =>
    show (d.flush off).steps ≤ _
    unfold Dv.flush
    split
    · exact Nat.le_refl _
    · exact Nat.le_succ _
  | fence =>
    show d.fence.steps ≤ _
    unfold Dv.fence
    split
    · exact Nat.le_succ _
    · exact Nat.le_refl _
theorem runL_steps : ∀ (l : List St) (d : Dv), (runL d l).1.steps ≤ d.steps + l.length
  | [], d => Nat.le_refl _
  | s :: l, d => by
    have h1 := s.steps d
    rw [runL]
    split
    · have := runL_steps l (s.run d)
      rw [List.length_cons]; omega
    · rw [List.length_cons]; show (s.run d).steps ≤ _; omega
/-- What is wrong with so many words at a place. -/
def Dv.room (d : Dv) (off many : Int) : Int := if 0 ≤ off ∧ off % 8 = 0 ∧ 0 ≤ many ∧ off + 8 * many ≤ 64 * (d.lines.length : Int) then 0 else 4
/-- The Stores of words, the Flushes of the lines that have one. -/
def sts (off : Int) : Nat → List Nat → List St
  | _, [] => []
  | i, n :: l => .store (off + 8 * (i : Int)) n :: sts off (i + 1) l
def fls (off : Int) (i : Nat) : Nat → List St
  | 0 => []
  | k + 1 => if i = 0 ∨ (off + 8 * (i : Int)) % 64 = 0 then .flush (off + 8 * (i : Int)) :: fls off (i + 1) k else fls off (i + 1) k
def puts (off : Int) (l : List Nat) : List St := sts off 0 l ++ fls off 0 l.length ++ [.fence]
def Dv.putAll (d : Dv) (off : Int) (l : List Nat) : Dv × Int := if d.room off l.length = 0 then runL d (puts off l) else (d, 4)
def Dv.put (d : Dv) (off : Int) (n : Nat) : Dv × Int := runL d [.store off n, .flush off, .fence]
theorem sts_length (off : Int) : ∀ (i : Nat) (l : List Nat), (sts off i l).length = l.length
  | _, [] => rfl
  | i, n :: l => by rw [sts, List.length_cons, sts_length, List.length_cons]
theorem fls_length (off : Int) : ∀ (i k : Nat), (fls off i k).length ≤ k
  | _, 0 => Nat.le_refl _
  | i, k + 1 => by
    have := fls_length off (i + 1) k
    rw [fls]
    split
    · rw [List.length_cons]; omega
    · omega
theorem sts_append (off : Int) : ∀ (i : Nat) (l m : List Nat), sts off i (l ++ m) = sts off i l ++ sts off (i + l.length) m
  | _, [], _ => rfl
  | i, n :: l, m => by rw [List.cons_append, sts, sts, List.cons_append, sts_append off (i + 1) l m, List.length_cons, show i + 1 + l.length = i + (l.length + 1) by omega]
theorem sts_take (off : Int) (l : List Nat) (j n : Nat) (h : l[j]? = some n) : sts off 0 (l.take (j + 1)) = sts off 0 (l.take j) ++ [.store (off + 8 * (j : Int)) n] := by
  have hj := (List.getElem?_eq_some_iff.1 h).1
  rw [List.take_succ_eq_append_getElem hj, (List.getElem?_eq_some_iff.1 h).2, sts_append, List.length_take, show min j l.length = j by omega, Nat.zero_add]
  rfl
theorem fls_snoc (off : Int) : ∀ (i k : Nat), fls off i (k + 1) = fls off i k ++ (if i + k = 0 ∨ (off + 8 * ((i + k : Nat) : Int)) % 64 = 0 then [.flush (off + 8 * ((i + k : Nat) : Int))] else [])
  | i, 0 => by rw [fls, fls, fls, Nat.add_zero]; split <;> rfl
  | i, k + 1 => by
    rw [fls, fls_snoc off (i + 1) k, fls, show i + 1 + k = i + (k + 1) by omega]
    split <;> rfl
theorem sts_ok {off : Int} : ∀ (i : Nat) (l : List Nat), (0 ≤ off ∧ off + 8 * ((i + l.length : Nat) : Int) ≤ 1000000) → (∀ n ∈ l, n < 2 ^ 64) → ∀ s ∈ sts off i l, s.ok
  | _, [], _, _, s, h => by cases h
  | i, n :: l, ho, hn, s, h => by
    rw [List.length_cons] at ho
    rcases List.mem_cons.1 h with rfl | h
    · exact ⟨by omega, hn n (by simp)⟩
    · exact sts_ok (i + 1) l (by omega) (fun m hm => hn m (List.mem_cons_of_mem _ hm)) s h
theorem fls_ok {off : Int} : ∀ (i k : Nat), (0 ≤ off ∧ off + 8 * ((i + k : Nat) : Int) ≤ 1000000) → ∀ s ∈ fls off i k, s.ok
  | _, 0, _, s, h => by cases h
  | i, k + 1, ho, s, h => by
    rw [fls] at h
    split at h
    · rcases List.mem_cons.1 h with rfl | h
      · show _ ∧ _; omega
      · exact fls_ok (i + 1) k (by omega) s h
    · exact fls_ok (i + 1) k (by omega) s h
theorem puts_ok {off : Int} {l : List Nat} (h0 : 0 ≤ off) (h1 : off ≤ 65536) (h2 : l.length ≤ 8192) (hn : ∀ n ∈ l, n < 2 ^ 64) : ∀ s ∈ puts off l, s.ok := by
  intro s hs
  rcases List.mem_append.1 hs with hs | hs
  · rcases List.mem_append.1 hs with hs | hs
    · exact sts_ok 0 l (by omega) hn s hs
    · exact fls_ok 0 l.length (by omega) s hs
  · obtain rfl := List.mem_singleton.1 hs
    trivial
/-- So many words from a place on. -/
def Dv.words (d : Dv) (off : Int) (k : Nat) : List Nat := (List.range k).map fun i => d.load (off + 8 * ((i : Nat) : Int))
theorem words_length (d : Dv) (off : Int) (k : Nat) : (d.words off k).length = k := by simp [Dv.words]
theorem words_get (d : Dv) (off : Int) (k i : Nat) (hi : i < k) : (d.words off k)[i]? = some (d.load (off + 8 * ((i : Nat) : Int))) := by
  unfold Dv.words
  rw [List.getElem?_map, List.getElem?_range hi]; rfl
theorem load_lt {d : Dv} (h : d.Good) (off : Int) : d.load off < 2 ^ 64 := by
  unfold Dv.load
  split
  · exact (h.at _).get_lt _
  · decide
theorem room_err {d : Dv} {off : Int} {k : Nat} (hr : d.room off k = 0) (hl : d.left ≠ 0) (i : Nat) (hi : i < k) : d.err (off + 8 * (i : Int)) 8 = 0 := by
  have hc : 0 ≤ off ∧ off % 8 = 0 ∧ 0 ≤ (k : Int) ∧ off + 8 * (k : Int) ≤ 64 * (d.lines.length : Int) := by
    unfold Dv.room at hr
    by_cases hc : 0 ≤ off ∧ off % 8 = 0 ∧ 0 ≤ (k : Int) ∧ off + 8 * (k : Int) ≤ 64 * (d.lines.length : Int)
    · exact hc
    · rw [if_neg hc] at hr; omega
  unfold Dv.err
  rw [if_neg hl, if_pos (by omega)]
/-- The first words, and zeros. -/
def fillW (l : List Nat) (j : Nat) : List Nat := l.take j ++ List.replicate (l.length - j) 0
theorem fillW_zero (l : List Nat) : fillW l 0 = List.replicate l.length 0 := by simp [fillW]
theorem fillW_all (l : List Nat) : fillW l l.length = l := by simp [fillW]
theorem fillW_length (l : List Nat) (j : Nat) (hj : j ≤ l.length) : (fillW l j).length = l.length := by simp [fillW]; omega
theorem fillW_step (l : List Nat) (j x : Nat) (h : l[j]? = some x) : (fillW l j).set j x = fillW l (j + 1) := by
  have hj := (List.getElem?_eq_some_iff.1 h).1
  have hx := (List.getElem?_eq_some_iff.1 h).2
  unfold fillW
  rw [List.set_append_right _ _ (by simp; omega), List.take_succ_eq_append_getElem hj, hx, List.length_take, show j - min j l.length = 0 by omega, show l.length - j = (l.length - (j + 1)) + 1 by omega, List.replicate_succ, List.set_cons_zero, List.append_assoc]
  rfl
end Go.Proofs.YtmelmiookkeoaaaDoor.V
