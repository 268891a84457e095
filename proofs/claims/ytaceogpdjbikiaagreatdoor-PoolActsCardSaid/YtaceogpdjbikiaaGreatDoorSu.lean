/- SuM: Plain mathematics of layer 4: steps on a device, one behind the other, as far as the first error. Nothing of the program.
SuA: Layer 4: the steps as function values; the contracts of place, store and flush.
SuB: Layer 4: the contract of inOrder: steps, one behind the other, as far as the first error.
SuC: Layer 4: the contract of PutAll.
SuD: Layer 4: the contracts of Put, Get, Clear.
SuE: Layer 4: the contracts for a device of the call's own; Put of nothing; the statements' own 'alive'.
SuQ: Plain mathematics of layer 4, more: the words of a device; what steps make of them; what a crash may leave.
SuI: Plain mathematics of layers 3 and 4: bytes of a device by its words. -/
import Derived.Test.YtaceogpdjbikiaaGreatDoorNv
import Derived.Test.YtaceogpdjbikiaaGreatDoorNd
import Derived.Test.YtaceogpdjbikiaaGreatDoorBa
namespace Go.Proofs.YtaceogpdjbikiaaGreatDoor.V

open Go.Proofs.YtaceogpdjbikiaaGreatDoor

inductive St where
  | store (off : Int) (n : Nat)
  | flush (off : Int)
  | fence
def St.err (d : Dv) : St → Int
  | .store off _ => d.err off 8
  | .flush off => d.err off 1
  | .fence => d.state
def St.run (d : Dv) : St → Dv
  | .store off n => d.store off n
  | .flush off => d.flush off
  | .fence => d.fence
/-- May it be asked? -/
def St.ok : St → Prop
  | .store off n => (-9223372036854775808 ≤ off ∧ off ≤ 9223372036854775807) ∧ n < 2 ^ 64
  | .flush off => -9223372036854775808 ≤ off ∧ off ≤ 9223372036854775807
  | .fence => True
def runL (d : Dv) : List St → Dv × Int
  | [] => (d, 0)
  | s :: l => if s.err d = 0 then runL (s.run d) l else (s.run d, s.err d)
theorem runL_ok {d : Dv} {s : St} (l : List St) (h : s.err d = 0) : runL d (s :: l) = runL (s.run d) l := by rw [runL, if_pos h]
theorem runL_no {d : Dv} {s : St} (l : List St) (h : ¬ s.err d = 0) : runL d (s :: l) = (s.run d, s.err d) := by rw [runL, if_neg h]
theorem Dv.steps_line (d : Dv) (i : Nat) (f : Ln → Ln) : (d.line i f).done.steps = d.steps + 1 := rfl
theorem St.steps (s : St) (d : Dv) : (s.run d).steps ≤ d.steps + 1 := by
  cases s with
  | store off n =>
    show (d.store off n).steps ≤ _
    unfold Dv.store
    split
    · exact Nat.le_refl _
    · exact Nat.le_succ _
  | flush off =>
    show (d.flush off).steps ≤ _
    unfold Dv.flush
    split
    · exact Nat.le_refl _
    · exact Nat.le_succ _
  | fence =>
    show d.fence.steps ≤ _
    unfold Dv.fence
    split
    · exact Nat.le_succ _
    · exact Nat.le_refl _
theorem runL_steps : ∀ (l : List St) (d : Dv), (runL d l).1.steps ≤ d.steps + l.length
  | [], d => Nat.le_refl _
  | s :: l, d => by
    have h1 := s.steps d
    rw [runL]
    split
    · have := runL_steps l (s.run d)
      rw [List.length_cons]; omega
    · rw [List.length_cons]; show (s.run d).steps ≤ _; omega
/-- What is wrong with so many words at a place. -/
def Dv.room (d : Dv) (off many : Int) : Int := if 0 ≤ off ∧ off % 8 = 0 ∧ 0 ≤ many ∧ off + 8 * many ≤ 64 * (d.lines.length : Int) then 0 else 4
/-- The Stores of words, the Flushes of the lines that have one. -/
def sts (off : Int) : Nat → List Nat → List St
  | _, [] => []
  | i, n :: l => .store (off + 8 * (i : Int)) n :: sts off (i + 1) l
def fls (off : Int) (i : Nat) : Nat → List St
  | 0 => []
  | k + 1 => if i = 0 ∨ (off + 8 * (i : Int)) % 64 = 0 then .flush (off + 8 * (i : Int)) :: fls off (i + 1) k else fls off (i + 1) k
def puts (off : Int) (l : List Nat) : List St := sts off 0 l ++ fls off 0 l.length ++ [.fence]
def Dv.putAll (d : Dv) (off : Int) (l : List Nat) : Dv × Int := if d.room off l.length = 0 then runL d (puts off l) else (d, 4)
def Dv.put (d : Dv) (off : Int) (n : Nat) : Dv × Int := runL d [.store off n, .flush off, .fence]
theorem sts_length (off : Int) : ∀ (i : Nat) (l : List Nat), (sts off i l).length = l.length
  | _, [] => rfl
  | i, n :: l => by rw [sts, List.length_cons, sts_length, List.length_cons]
theorem fls_length (off : Int) : ∀ (i k : Nat), (fls off i k).length ≤ k
  | _, 0 => Nat.le_refl _
  | i, k + 1 => by
    have := fls_length off (i + 1) k
    rw [fls]
    split
    · rw [List.length_cons]; omega
    · omega
theorem sts_append (off : Int) : ∀ (i : Nat) (l m : List Nat), sts off i (l ++ m) = sts off i l ++ sts off (i + l.length) m
  | _, [], _ => rfl
  | i, n :: l, m => by rw [List.cons_append, sts, sts, List.cons_append, sts_append off (i + 1) l m, List.length_cons, show i + 1 + l.length = i + (l.length + 1) by omega]
theorem sts_take (off : Int) (l : List Nat) (j n : Nat) (h : l[j]? = some n) : sts off 0 (l.take (j + 1)) = sts off 0 (l.take j) ++ [.store (off + 8 * (j : Int)) n] := by
  have hj := (List.getElem?_eq_some_iff.1 h).1
  rw [List.take_succ_eq_append_getElem hj, (List.getElem?_eq_some_iff.1 h).2, sts_append, List.length_take, show min j l.length = j by omega, Nat.zero_add]
  rfl
theorem fls_snoc (off : Int) : ∀ (i k : Nat), fls off i (k + 1) = fls off i k ++ (if i + k = 0 ∨ (off + 8 * ((i + k : Nat) : Int)) % 64 = 0 then [.flush (off + 8 * ((i + k : Nat) : Int))] else [])
  | i, 0 => by rw [fls, fls, fls, Nat.add_zero]; split <;> rfl
  | i, k + 1 => by
    rw [fls, fls_snoc off (i + 1) k, fls, show i + 1 + k = i + (k + 1) by omega]
    split <;> rfl
theorem sts_ok {off : Int} : ∀ (i : Nat) (l : List Nat), (0 ≤ off ∧ off + 8 * ((i + l.length : Nat) : Int) ≤ 1000000) → (∀ n ∈ l, n < 2 ^ 64) → ∀ s ∈ sts off i l, s.ok
  | _, [], _, _, s, h => by cases h
  | i, n :: l, ho, hn, s, h => by
    rw [List.length_cons] at ho
    rcases List.mem_cons.1 h with rfl | h
    · exact ⟨by omega, hn n (by simp)⟩
    · exact sts_ok (i + 1) l (by omega) (fun m hm => hn m (List.mem_cons_of_mem _ hm)) s h
theorem fls_ok {off : Int} : ∀ (i k : Nat), (0 ≤ off ∧ off + 8 * ((i + k : Nat) : Int) ≤ 1000000) → ∀ s ∈ fls off i k, s.ok
  | _, 0, _, s, h => by cases h
  | i, k + 1, ho, s, h => by
    rw [fls] at h
    split at h
    · rcases List.mem_cons.1 h with rfl | h
      · show _ ∧ _; omega
      · exact fls_ok (i + 1) k (by omega) s h
    · exact fls_ok (i + 1) k (by omega) s h
theorem puts_ok {off : Int} {l : List Nat} (h0 : 0 ≤ off) (h1 : off ≤ 65536) (h2 : l.length ≤ 8192) (hn : ∀ n ∈ l, n < 2 ^ 64) : ∀ s ∈ puts off l, s.ok := by
  intro s hs
  rcases List.mem_append.1 hs with hs | hs
  · rcases List.mem_append.1 hs with hs | hs
    · exact sts_ok 0 l (by omega) hn s hs
    · exact fls_ok 0 l.length (by omega) s hs
  · obtain rfl := List.mem_singleton.1 hs
    trivial
/-- So many words from a place on. -/
def Dv.words (d : Dv) (off : Int) (k : Nat) : List Nat := (List.range k).map fun i => d.load (off + 8 * ((i : Nat) : Int))
theorem words_length (d : Dv) (off : Int) (k : Nat) : (d.words off k).length = k := by simp [Dv.words]
theorem words_get (d : Dv) (off : Int) (k i : Nat) (hi : i < k) : (d.words off k)[i]? = some (d.load (off + 8 * ((i : Nat) : Int))) := by
  unfold Dv.words
  rw [List.getElem?_map, List.getElem?_range hi]; rfl
theorem load_lt {d : Dv} (h : d.Good) (off : Int) : d.load off < 2 ^ 64 := by
  unfold Dv.load
  split
  · exact (h.at _).get_lt _
  · decide
theorem room_err {d : Dv} {off : Int} {k : Nat} (hr : d.room off k = 0) (hl : d.left ≠ 0) (i : Nat) (hi : i < k) : d.err (off + 8 * (i : Int)) 8 = 0 := by
  have hc : 0 ≤ off ∧ off % 8 = 0 ∧ 0 ≤ (k : Int) ∧ off + 8 * (k : Int) ≤ 64 * (d.lines.length : Int) := by
    unfold Dv.room at hr
    by_cases hc : 0 ≤ off ∧ off % 8 = 0 ∧ 0 ≤ (k : Int) ∧ off + 8 * (k : Int) ≤ 64 * (d.lines.length : Int)
    · exact hc
    · rw [if_neg hc] at hr; omega
  unfold Dv.err
  rw [if_neg hl, if_pos (by omega)]
/-- The first words, and zeros. -/
def fillW (l : List Nat) (j : Nat) : List Nat := l.take j ++ List.replicate (l.length - j) 0
theorem fillW_zero (l : List Nat) : fillW l 0 = List.replicate l.length 0 := by simp [fillW]
theorem fillW_all (l : List Nat) : fillW l l.length = l := by simp [fillW]
theorem fillW_length (l : List Nat) (j : Nat) (hj : j ≤ l.length) : (fillW l j).length = l.length := by simp [fillW]; omega
theorem fillW_step (l : List Nat) (j x : Nat) (h : l[j]? = some x) : (fillW l j).set j x = fillW l (j + 1) := by
  have hj := (List.getElem?_eq_some_iff.1 h).1
  have hx := (List.getElem?_eq_some_iff.1 h).2
  unfold fillW
  rw [List.set_append_right _ _ (by simp; omega), List.take_succ_eq_append_getElem hj, hx, List.length_take, show j - min j l.length = 0 by omega, show l.length - j = (l.length - (j + 1)) + 1 by omega, List.replicate_succ, List.set_cons_zero, List.append_assoc]
  rfl
end Go.Proofs.YtaceogpdjbikiaaGreatDoor.V
namespace Go.Proofs.YtaceogpdjbikiaaGreatDoor

open Go.RowKit

section

variable {w : World} {v : Value} {d : V.Dv} {F : List Nat}

set_option maxRecDepth 100000 in
theorem su_place (h : Dev w v d F) (off many : Int) (hoff : I64 off) (hmany : I64 many) :
    Calls Tryz.prog 91 #[v, .int .i64 off, .int .i64 many] w fun e w' => e = .returned (.int .i64 (d.room off many)) ∧ w = w' := by
  have HS := Lib.hid (dev_size h)
  have hm := h.good.most
  have h1 := h.good.some
  have HR : Hid (d.room off many = if 0 ≤ off ∧ off % 8 = 0 ∧ 0 ≤ many ∧ off + 8 * many ≤ 64 * (d.lines.length : Int) then 0 else 4) := rfl
  have hoff' : -9223372036854775808 ≤ off ∧ off ≤ 9223372036854775807 := hoff
  have hmany' : -9223372036854775808 ≤ many ∧ many ≤ 9223372036854775807 := hmany
  clear h hoff hmany
  generalize d.room off many = res at *
  generalize d.lines.length = n at *
  have hne : (((64 * n : Nat) : Int) == 0) = false := beq_eq_false_iff_ne.2 (by omega)
  rw [show 64 * (n : Int) = ((64 * n : Nat) : Int) by omega] at HR
  have hs8 : (64 * n) % 8 = 0 := by omega
  have hsb : 64 * n ≤ 65536 := by omega
  clear hm h1
  generalize 64 * n = s at *
  by_cases h0 : 0 ≤ off
  · have hw1 : IntKind.i64.wrap ((s : Int) - off) = (s : Int) - off := IntWalk.i64_in _ (by omega)
    obtain ⟨r, hr⟩ : ∃ r, r = ((s : Int) - off).tdiv 8 := ⟨_, rfl⟩
    have hrb : -1152921504606846976 ≤ r ∧ r ≤ 8192 := by
      rw [hr]
      by_cases hq : off ≤ (s : Int)
      · rw [Int.tdiv_eq_ediv_of_nonneg (by omega)]; omega
      · have e : ((s : Int) - off).tdiv 8 = -((off - (s : Int)) / 8) := by
          rw [show (s : Int) - off = -(off - (s : Int)) by omega, Int.neg_tdiv, Int.tdiv_eq_ediv_of_nonneg (by omega)]
        rw [e]; omega
    have hw2 : ((s : Int) - off).tdiv 8 = r := hr.symm
    by_cases h8 : off % 8 = 0
    · have hrv : r = ((s : Int) - off) / 8 := by
        rw [hr]
        by_cases hq : off ≤ (s : Int)
        · rw [Int.tdiv_eq_ediv_of_nonneg (by omega)]
        · rw [show (s : Int) - off = -(off - (s : Int)) by omega, Int.neg_tdiv, Int.tdiv_eq_ediv_of_nonneg (by omega)]
          omega
      have hb8 : ((off % 8) != 0) = false := by simpa using h8
      by_cases hm0 : 0 ≤ many
      · by_cases hmr : many ≤ r
        · have HV : Hid (res = 0) := by show _ = _; rw [HR.out, if_pos (by omega)]
          clear HR hr hrv h8 hs8
          go_enter Tryz.func91, Tryz.ntmps91
          go_wp2_with fail
          refine HS.out.mono ?_
          rintro e w' ⟨rfl, rfl⟩
          go_wp2
          go_ret
          exact ⟨by rw [HV.out]; rfl, rfl⟩
        · have HV : Hid (res = 4) := by show _ = _; rw [HR.out, if_neg (by omega)]
          clear HR hr hrv h8 hs8
          go_enter Tryz.func91, Tryz.ntmps91
          go_wp2_with fail
          refine HS.out.mono ?_
          rintro e w' ⟨rfl, rfl⟩
          go_wp2
          go_ret
          exact ⟨by rw [HV.out]; rfl, rfl⟩
      · have HV : Hid (res = 4) := by show _ = _; rw [HR.out, if_neg (by omega)]
        clear HR hr hrv h8 hs8
        go_enter Tryz.func91, Tryz.ntmps91
        go_wp2_with fail
        refine HS.out.mono ?_
        rintro e w' ⟨rfl, rfl⟩
        go_wp2
        go_ret
        exact ⟨by rw [HV.out]; rfl, rfl⟩
    · have HV : Hid (res = 4) := by show _ = _; rw [HR.out, if_neg (by omega)]
      have hb8 : ((off % 8) != 0) = true := by simpa using h8
      clear HR hr h8 hs8
      go_enter Tryz.func91, Tryz.ntmps91
      go_wp2_with fail
      refine HS.out.mono ?_
      rintro e w' ⟨rfl, rfl⟩
      go_wp2
      go_ret
      exact ⟨by rw [HV.out]; rfl, rfl⟩
  · have HV : Hid (res = 4) := by show _ = _; rw [HR.out, if_neg (by omega)]
    obtain ⟨r, hr⟩ : ∃ r, r = IntKind.i64.wrap ((IntKind.i64.wrap ((s : Int) - off)).tdiv 8) := ⟨_, rfl⟩
    have hw2 : IntKind.i64.wrap ((IntKind.i64.wrap ((s : Int) - off)).tdiv 8) = r := hr.symm
    clear HR hr hs8
    go_enter Tryz.func91, Tryz.ntmps91
    go_wp2_with fail
    refine HS.out.mono ?_
    rintro e w' ⟨rfl, rfl⟩
    go_wp2
    go_ret
    exact ⟨by rw [HV.out]; rfl, rfl⟩
end

/-- A block of one cell, apart from a device. -/
def One (w : World) (F : List Nat) (b : Nat) (t : TypeId) (u : Value) : Prop := w.heap[b]? = some (.cells #[u] t (0, 0)) ∧ b ∉ F
/-- A function value is a step on the device v, whose blocks are F. -/
def StepV (w : World) (v : Value) (F : List Nat) (u : Value) : V.St → Prop
  | .store off n => ∃ a b c, u = .func (.func 109) #[] #[.pointer (some ⟨a, 0, none⟩), .pointer (some ⟨b, 0, none⟩), .pointer (some ⟨c, 0, none⟩)] ∧ One w F a 24 v ∧ One w F b 3 (.int .i64 off) ∧ One w F c 53 (.int .u64 (n : Int))
  | .flush off => ∃ a b, u = .func (.func 110) #[] #[.pointer (some ⟨a, 0, none⟩), .pointer (some ⟨b, 0, none⟩)] ∧ One w F a 24 v ∧ One w F b 3 (.int .i64 off)
  | .fence => u = .func (.func 98) #[v] #[]
theorem One.lt {w : World} {F : List Nat} {b : Nat} {t : TypeId} {u : Value} (h : One w F b t u) : b < w.heap.size := (Array.getElem?_eq_some_iff.1 h.1).1
/-- What touches nothing but F, and takes new blocks. -/
theorem One.step {w w' : World} {F F' G : List Nat} {b : Nat} {t : TypeId} {u : Value} (h : One w F b t u) (ho : Only G w w') (hG : b ∉ G) (hF : ∀ k ∈ F', k ∈ F ∨ w.heap.size ≤ k) : One w' F' b t u :=
  ⟨(ho.block b h.lt hG).trans h.1, fun hf => by rcases hF b hf with e | e; exact h.2 e; have := h.lt; omega⟩
theorem StepV.step {w w' : World} {v u : Value} {F F' : List Nat} {s : V.St} (h : StepV w v F u s) (ho : Only F w w') (hF : ∀ k ∈ F', k ∈ F ∨ w.heap.size ≤ k) : StepV w' v F' u s := by
  cases s with
  | store off n =>
    obtain ⟨a, b, c, h1, h2, h3, h4⟩ := h
    exact ⟨a, b, c, h1, h2.step ho h2.2 hF, h3.step ho h3.2 hF, h4.step ho h4.2 hF⟩
  | flush off =>
    obtain ⟨a, b, h1, h2, h3⟩ := h
    exact ⟨a, b, h1, h2.step ho h2.2 hF, h3.step ho h3.2 hF⟩
  | fence => exact h
/-- What touches no block but one of another type. -/
theorem One.other {w w' : World} {F : List Nat} {b g : Nat} {t : TypeId} {u : Value} (h : One w F b t u) (ho : Only [g] w w') (hg : ∀ cs fr, w.heap[g]? = some (.cells cs t fr) → False) : One w' F b t u :=
  ⟨(ho.block b h.lt (fun hm => by obtain rfl := List.mem_singleton.1 hm; exact hg _ _ h.1)).trans h.1, h.2⟩
theorem StepV.below {w w' : World} {v u : Value} {F : List Nat} {s : V.St} (h : StepV w v F u s) (hb : Below w.heap.size w w') : StepV w' v F u s := h.step (Only.of_below hb) (fun _ hk => .inl hk)

section

variable {w : World} {v : Value} {d : V.Dv} {F : List Nat}

theorem su_store (p : Option Addr) (F : List Nat) (off : Int) (n : Nat) (hF : ∀ k ∈ F, k < w.heap.size) :
    Calls Tryz.prog 95 #[.pointer p, .int .i64 off, .int .u64 (n : Int)] w fun e w' => ∃ f c, e = .returned (.func f #[] c) ∧ StepV w' (.pointer p) F (.func f #[] c) (.store off n) ∧ Below w.heap.size w w' := by
  have HA : Hid (∀ a b c : Obj, Below w.heap.size w (((w.alloc a).alloc b).alloc c)) := fun a b c => ((((Below.refl _ _).alloc (Nat.le_refl _) a).alloc (by simp) b).alloc (by simp; omega) c)
  have HB : Hid (∀ a b c : Obj, (((w.alloc a).alloc b).alloc c).heap[w.heap.size]? = some a ∧ (((w.alloc a).alloc b).alloc c).heap[w.heap.size + 1]? = some b ∧ (((w.alloc a).alloc b).alloc c).heap[w.heap.size + 1 + 1]? = some c) := by
    intro a b c
    refine ⟨?_, ?_, ?_⟩
    · rw [Below.heap_alloc _ _ _ (by simp; omega), Below.heap_alloc _ _ _ (by simp), heap_alloc_new]
    · rw [Below.heap_alloc _ _ _ (by simp), show w.heap.size + 1 = (w.alloc a).heap.size by simp, heap_alloc_new]
    · rw [show w.heap.size + 1 + 1 = ((w.alloc a).alloc b).heap.size by simp, heap_alloc_new]
  go_enter Tryz.func95, Tryz.ntmps95
  go_wp2
  go_ret
  obtain ⟨h1, h2, h3⟩ := HB.out (.cells #[.pointer p] 24) (.cells #[.int .i64 off] 3) (.cells #[.int .u64 (n : Int)] 53)
  exact ⟨_, _, rfl, ⟨_, _, _, rfl, ⟨h1, fun h => by have := hF _ h; omega⟩, ⟨h2, fun h => by have := hF _ h; omega⟩, ⟨h3, fun h => by have := hF _ h; omega⟩⟩, HA.out _ _ _⟩
theorem su_flush (p : Option Addr) (F : List Nat) (off : Int) (hF : ∀ k ∈ F, k < w.heap.size) :
    Calls Tryz.prog 96 #[.pointer p, .int .i64 off] w fun e w' => ∃ f c, e = .returned (.func f #[] c) ∧ StepV w' (.pointer p) F (.func f #[] c) (.flush off) ∧ Below w.heap.size w w' := by
  have HA : Hid (∀ a b : Obj, Below w.heap.size w ((w.alloc a).alloc b)) := fun a b => (((Below.refl _ _).alloc (Nat.le_refl _) a).alloc (by simp) b)
  have HB : Hid (∀ a b : Obj, ((w.alloc a).alloc b).heap[w.heap.size]? = some a ∧ ((w.alloc a).alloc b).heap[w.heap.size + 1]? = some b) := by
    intro a b
    refine ⟨?_, ?_⟩
    · rw [Below.heap_alloc _ _ _ (by simp), heap_alloc_new]
    · rw [show w.heap.size + 1 = (w.alloc a).heap.size by simp, heap_alloc_new]
  go_enter Tryz.func96, Tryz.ntmps96
  go_wp2
  go_ret
  obtain ⟨h1, h2⟩ := HB.out (.cells #[.pointer p] 24) (.cells #[.int .i64 off] 3)
  exact ⟨_, _, rfl, ⟨_, _, rfl, ⟨h1, fun h => by have := hF _ h; omega⟩, ⟨h2, fun h => by have := hF _ h; omega⟩⟩, HA.out _ _⟩
/-- A step that stores, called. -/
theorem su_store1 {d : V.Dv} {p : Option Addr} (h : Dev w (.pointer p) d F) (a b c : Nat) (off : Int) (n : Nat) (ha : One w F a 24 (.pointer p)) (hb : One w F b 3 (.int .i64 off)) (hc : One w F c 53 (.int .u64 (n : Int))) (hoff : I64 off) (hn : n < 2 ^ 64) (hs : d.steps ≤ 1000000000) :
    Calls Tryz.prog 109 #[.pointer (some ⟨a, 0, none⟩), .pointer (some ⟨b, 0, none⟩), .pointer (some ⟨c, 0, none⟩)] w fun e w' => e = .returned (.int .i64 (d.err off 8)) ∧ DevStep w (.pointer p) (d.store off n) F w' := by
  have ca := cell_of_one ha.1
  have cb := cell_of_one hb.1
  have cc := cell_of_one hc.1
  have HS := Lib.hid (dev_store h off hoff n hn hs)
  clear h ha hb hc
  go_enter Tryz.func109, Tryz.ntmps109
  go_wp2_with fail
  refine HS.out.mono ?_
  rintro e w1 ⟨rfl, h1⟩
  have H1 := Lib.hid h1
  clear h1
  go_wp2
  go_ret
  exact ⟨rfl, H1.out⟩
theorem su_flush1 {d : V.Dv} {p : Option Addr} (h : Dev w (.pointer p) d F) (a b : Nat) (off : Int) (ha : One w F a 24 (.pointer p)) (hb : One w F b 3 (.int .i64 off)) (hoff : I64 off) (hs : d.steps ≤ 1000000000) :
    Calls Tryz.prog 110 #[.pointer (some ⟨a, 0, none⟩), .pointer (some ⟨b, 0, none⟩)] w fun e w' => e = .returned (.int .i64 (d.err off 1)) ∧ DevStep w (.pointer p) (d.flush off) F w' := by
  have ca := cell_of_one ha.1
  have cb := cell_of_one hb.1
  have HS := Lib.hid (dev_flush h off hoff hs)
  clear h ha hb
  go_enter Tryz.func110, Tryz.ntmps110
  go_wp2_with fail
  refine HS.out.mono ?_
  rintro e w1 ⟨rfl, h1⟩
  have H1 := Lib.hid h1
  clear h1
  go_wp2
  go_ret
  exact ⟨rfl, H1.out⟩
end

end Go.Proofs.YtaceogpdjbikiaaGreatDoor
namespace Go.Proofs.YtaceogpdjbikiaaGreatDoor

open Go.RowKit

section

variable {w : World} {d : V.Dv} {F : List Nat}

/-- Where it is behind j steps, none of which told an error. -/
def Ran (w : World) (p : Option Addr) (d : V.Dv) (F : List Nat) (l : List V.St) (j : Nat) (wr : World) : Prop :=
  ∃ dj, V.runL d l = V.runL dj (l.drop j) ∧ DevStep w (.pointer p) dj F wr ∧ dj.steps ≤ d.steps + j
/-- A step's call, whatever it is. -/
theorem Ran.call {p : Option Addr} {l : List V.St} {j : Nat} {wr : World} {s : V.St} (h : Ran w p d F l j wr) (hs : l[j]? = some s) (_hF : ∀ k ∈ F, k < w.heap.size) :
    ∃ (dj : V.Dv) (F' : List Nat), Dev wr (.pointer p) dj F' ∧ Only F w wr ∧ (∀ k ∈ F', k ∈ F ∨ w.heap.size ≤ k) ∧ dj.steps ≤ d.steps + j ∧
      (∀ w', DevStep wr (.pointer p) (s.run dj) F' w' → s.err dj = 0 → Ran w p d F l (j + 1) w') ∧
      (∀ w', DevStep wr (.pointer p) (s.run dj) F' w' → s.err dj ≠ 0 → V.runL d l = (s.run dj, s.err dj) ∧ DevStep w (.pointer p) (V.runL d l).1 F w') := by
  obtain ⟨dj, h1, ⟨F', k1, k2, k3⟩, h3⟩ := h
  have e : l.drop j = s :: l.drop (j + 1) := by
    rw [List.drop_eq_getElem_cons (List.getElem?_eq_some_iff.1 hs).1, (List.getElem?_eq_some_iff.1 hs).2]
  have hst : ∀ w', DevStep wr (.pointer p) (s.run dj) F' w' → DevStep w (.pointer p) (s.run dj) F w' := by
    rintro w' ⟨F2, j1, j2, j3⟩
    refine ⟨F2, j1, k2.trans j2 k3, fun k hk => ?_⟩
    rcases j3 k hk with e | e
    · exact k3 k e
    · exact .inr (Nat.le_trans k2.size e)
  refine ⟨dj, F', k1, k2, k3, h3, fun w' hw he => ⟨s.run dj, ?_, hst w' hw, ?_⟩, fun w' hw he => ?_⟩
  · rw [h1, e, V.runL_ok _ he]
  · have := s.steps dj; omega
  · have e2 : V.runL d l = (s.run dj, s.err dj) := by rw [h1, e, V.runL_no _ he]
    refine ⟨e2, ?_⟩
    rw [e2]; exact hst w' hw
set_option maxRecDepth 100000 in
set_option maxHeartbeats 1000000 in
theorem su_inOrder {p : Option Addr} (l : List V.St) (hok : ∀ s ∈ l, s.ok) (h : Dev w (.pointer p) d F) (g cap : Nat) (hg : g ∉ F)
    (hc : ∀ i s, l[i]? = some s → ∃ u, w.cell? ⟨g, i, none⟩ = some u ∧ StepV w (.pointer p) F u s) (hl : l.length ≤ 1000000) (hs : d.steps ≤ 100000000) :
    Calls Tryz.prog 97 #[.slice (some ⟨g, 0, none⟩) l.length cap] w fun e w' => e = .returned (.int .i64 (V.runL d l).2) ∧ DevStep w (.pointer p) (V.runL d l).1 F w' := by
  have HF := Lib.hid h.lt
  have H0 : Hid (Ran w p d F l 0 w) := ⟨d, by rw [List.drop_zero], DevStep.same h 0, Nat.le_refl _⟩
  have HOK := Lib.hid hok
  have HC := Lib.hid hc
  have HG := Lib.hid hg
  have hlen : ∀ i s, l[i]? = some s → i < l.length := fun i s h => (List.getElem?_eq_some_iff.1 h).1
  have HN : Hid (∀ i, i < l.length → ∃ s, l[i]? = some s) := fun i hi => ⟨_, List.getElem?_eq_getElem hi⟩
  have HE : Hid (∀ wr, Ran w p d F l l.length wr → (V.runL d l).2 = 0 ∧ DevStep w (.pointer p) (V.runL d l).1 F wr) := by
    rintro wr ⟨dj, h1, h2, h3⟩
    rw [List.drop_length] at h1
    rw [h1]
    exact ⟨rfl, h2⟩
  clear h hok hc hg hlen
  generalize hn : l.length = n at *
  clear hn
  go_enter Tryz.func97, Tryz.ntmps97
  go_wp2_with fail
  go_loopw [4, 5, 8] (fun _ _ x wr => ∃ j : Nat, j ≤ n ∧ x = .int .i64 j ∧ Hid (Ran w p d F l j wr)) (fun _ _ x _ => n - (intOf x).toNat)
  case atStart => exact ⟨0, by omega, rfl, H0.out⟩
  case round =>
    obtain ⟨j, hj, rfl, hr⟩ := hrel
    by_cases hlt : j < n
    · obtain ⟨s, hsj⟩ := HN.out j hlt
      obtain ⟨dj, F', k1, k2, k3, k4, k5, k6⟩ := hr.out.call hsj HF.out
      obtain ⟨u, hu, hsv⟩ := HC.out j s hsj
      have hcell : wr.cell? ⟨g, j, none⟩ = some u := (World.cell?_of_block (w := w) (a := ⟨g, j, none⟩) (k2.block g (World.block_lt_of_cell? w _ hu) HG.out)).trans hu
      have hsv2 := hsv.step k2 k3
      have hso := HOK.out s (List.mem_of_getElem? hsj)
      have K5 := Lib.hid k5
      have K6 := Lib.hid k6
      have hst : dj.steps ≤ 1000000000 := by omega
      clear hsv k2 k3 k4 k5 k6 hu hsj
      cases s with
      | store off m =>
        obtain ⟨a, b, c, rfl, h2, h3, h4⟩ := hsv2
        have HS := Lib.hid (su_store1 k1 a b c off m h2 h3 h4 hso.1 hso.2 hst)
        clear h2 h3 h4 k1 hso hst
        have hE : V.St.err dj (.store off m) = dj.err off 8 := rfl
        have hR : V.St.run dj (.store off m) = dj.store off m := rfl
        rw [hE, hR] at K5 K6
        clear hE hR
        generalize dj.err off 8 = er at *
        generalize dj.store off m = d2 at *
        by_cases he : er = 0
        · subst he
          have K := Lib.hid (fun w' h => K5.out w' h rfl)
          go_wp2_with fail
          refine HS.out.mono ?_
          rintro e w1 ⟨rfl, h1⟩
          have HR := Lib.hid (K.out w1 h1)
          clear h1
          go_wp2
          go_roundw
          case rel => exact ⟨j + 1, by omega, by go_num, HR⟩
          case measure => simp [intOf]; omega
        · have K := Lib.hid (fun w' h => K6.out w' h he)
          have hb : (er != 0) = true := by simpa using he
          clear he
          go_wp2_with fail
          refine HS.out.mono ?_
          rintro e w1 ⟨rfl, h1⟩
          obtain ⟨h2, h3⟩ := K.out w1 h1
          have H2 := Lib.hid h2; have H3 := Lib.hid h3
          clear h1 h2 h3
          go_wp2
          go_ret
          exact ⟨by rw [H2.out]; rfl, H3.out⟩
      | flush off =>
        obtain ⟨a, b, rfl, h2, h3⟩ := hsv2
        have HS := Lib.hid (su_flush1 k1 a b off h2 h3 hso hst)
        clear h2 h3 k1 hso hst
        have hE : V.St.err dj (.flush off) = dj.err off 1 := rfl
        have hR : V.St.run dj (.flush off) = dj.flush off := rfl
        rw [hE, hR] at K5 K6
        clear hE hR
        generalize dj.err off 1 = er at *
        generalize dj.flush off = d2 at *
        by_cases he : er = 0
        · subst he
          have K := Lib.hid (fun w' h => K5.out w' h rfl)
          go_wp2_with fail
          refine HS.out.mono ?_
          rintro e w1 ⟨rfl, h1⟩
          have HR := Lib.hid (K.out w1 h1)
          clear h1
          go_wp2
          go_roundw
          case rel => exact ⟨j + 1, by omega, by go_num, HR⟩
          case measure => simp [intOf]; omega
        · have K := Lib.hid (fun w' h => K6.out w' h he)
          have hb : (er != 0) = true := by simpa using he
          clear he
          go_wp2_with fail
          refine HS.out.mono ?_
          rintro e w1 ⟨rfl, h1⟩
          obtain ⟨h2, h3⟩ := K.out w1 h1
          have H2 := Lib.hid h2; have H3 := Lib.hid h3
          clear h1 h2 h3
          go_wp2
          go_ret
          exact ⟨by rw [H2.out]; rfl, H3.out⟩
      | fence =>
        have hu : u = .func (.func 98) #[.pointer p] #[] := hsv2
        subst hu
        have HS := Lib.hid (dev_fence k1 hst)
        clear hsv2 k1 hso hst
        have hE : V.St.err dj .fence = dj.state := rfl
        have hR : V.St.run dj .fence = dj.fence := rfl
        rw [hE, hR] at K5 K6
        clear hE hR
        generalize dj.state = er at *
        generalize dj.fence = d2 at *
        by_cases he : er = 0
        · subst he
          have K := Lib.hid (fun w' h => K5.out w' h rfl)
          go_wp2_with fail
          refine HS.out.mono ?_
          rintro e w1 ⟨rfl, h1⟩
          have HR := Lib.hid (K.out w1 h1)
          clear h1
          go_wp2
          go_roundw
          case rel => exact ⟨j + 1, by omega, by go_num, HR⟩
          case measure => simp [intOf]; omega
        · have K := Lib.hid (fun w' h => K6.out w' h he)
          have hb : (er != 0) = true := by simpa using he
          clear he
          go_wp2_with fail
          refine HS.out.mono ?_
          rintro e w1 ⟨rfl, h1⟩
          obtain ⟨h2, h3⟩ := K.out w1 h1
          have H2 := Lib.hid h2; have H3 := Lib.hid h3
          clear h1 h2 h3
          go_wp2
          go_ret
          exact ⟨by rw [H2.out]; rfl, H3.out⟩
    · obtain rfl : j = n := by omega
      obtain ⟨h1, h2⟩ := HE.out wr hr.out
      have H1 := Lib.hid h1; have H2 := Lib.hid h2
      clear h1 h2
      go_wp2
      go_ret
      exact ⟨by rw [H1.out]; rfl, H2.out⟩
end

end Go.Proofs.YtaceogpdjbikiaaGreatDoor
namespace Go.Proofs.YtaceogpdjbikiaaGreatDoor

open Go.RowKit

/-- A slice of words. -/
def IsWords (w : World) (v : Value) (l : List Nat) : Prop := IsInts .u64 w v (l.map fun n : Nat => (n : Int))
theorem IsWords.below {w w' : World} {v : Value} {l : List Nat} (h : IsWords w v l) (hb : Below w.heap.size w w') : IsWords w' v l := IsInts.below h hb
theorem IsWords.len {w : World} {a : Option Addr} {n c : Nat} {l : List Nat} (h : IsWords w (.slice a n c) l) : l.length = n ∧ n ≤ c ∧ c ≤ maxLen := by
  have := IsInts.len' h
  rw [List.length_map] at this
  exact this
theorem IsWords.get {w : World} {a : Option Addr} {n c : Nat} {l : List Nat} (h : IsWords w (.slice a n c) l) (i : Nat) (hi : i < n) :
    ∃ b o x, a = some ⟨b, o, none⟩ ∧ l[i]? = some x ∧ x < 2 ^ 64 ∧ w.cell? ⟨b, o + i, none⟩ = some (.int .u64 (x : Int)) := by
  have hl := h.len.1
  obtain ⟨a', c', e, h1, h2, h3, h4⟩ := h
  simp only [Value.slice.injEq, List.length_map] at e
  obtain ⟨rfl, _, rfl⟩ := e
  rcases h3 with e | ⟨b, o, rfl, hc⟩
  · have e2 := congrArg List.length e
    simp only [List.length_map, List.length_nil] at e2
    omega
  · have hx : l[i]? = some (l[i]'(by omega)) := List.getElem?_eq_getElem (by omega)
    have hw := h4 (((l[i]'(by omega)) : Nat) : Int) (List.mem_map.2 ⟨_, List.getElem_mem _, rfl⟩)
    have hw2 : l[i]'(by omega) < 2 ^ 64 := by
      simp [Lit.wf, IntKind.min, IntKind.max, IntKind.signed, IntKind.bits] at hw
      omega
    refine ⟨b, o, l[i]'(by omega), rfl, hx, hw2, ?_⟩
    have := hc i (by rw [List.length_map]; omega)
    rw [this, List.getD_eq_getElem?_getD, List.getElem?_map, hx]
    rfl

theorem info_step : (Tryz.prog.info? 104).map (fun i => (i.zero, i.size, i.bytes)) = some (some .nilFunc, 1, 8) := by kernel_rfl
/-- A row of the call's own, of function values that are steps. -/
def Steps (w : World) (p : Option Addr) (F : List Nat) (B : Nat) (val : Value) (n : Nat) (l : List V.St) : Prop :=
  ∃ us, n = l.length ∧ w.ownsRow B 104 1 val n us ∧ ∀ (i : Nat) (s : V.St), l[i]? = some s → ∃ u, us[i]? = some u ∧ StepV w (.pointer p) F u s
theorem One.grown {w w' : World} {F : List Nat} {b B n : Nat} {t e : TypeId} {u val : Value} {us : List Value} (h : One w F b t u) (ht : t ≠ e) (ho : w.ownsRow B e 1 val n us) (hg : w.grownBy w' val.ownBlock) : One w' F b t u := by
  refine ⟨(hg.block b h.lt (fun hb => ?_)).trans h.1, h.2⟩
  rcases ho.2 with ⟨rfl, _⟩ | ⟨g, cap, cur, rfl, _, hh, _⟩
  · cases hb
  · simp only [Value.ownBlock, Option.some.injEq] at hb
    subst hb
    rw [h.1] at hh
    simp only [Option.some.injEq, Obj.cells.injEq] at hh
    exact ht hh.2.1
theorem StepV.grown {w w' : World} {v u val : Value} {F : List Nat} {s : V.St} {B n : Nat} {us : List Value} (h : StepV w v F u s) (ho : w.ownsRow B 104 1 val n us) (hg : w.grownBy w' val.ownBlock) : StepV w' v F u s := by
  cases s with
  | store off n =>
    obtain ⟨a, b, c, h1, h2, h3, h4⟩ := h
    exact ⟨a, b, c, h1, h2.grown (by decide) ho hg, h3.grown (by decide) ho hg, h4.grown (by decide) ho hg⟩
  | flush off =>
    obtain ⟨a, b, h1, h2, h3⟩ := h
    exact ⟨a, b, h1, h2.grown (by decide) ho hg, h3.grown (by decide) ho hg⟩
  | fence => exact h
theorem Steps.below {w w' : World} {p : Option Addr} {F : List Nat} {B n : Nat} {val : Value} {l : List V.St} (h : Steps w p F B val n l) (hb : Below w.heap.size w w') : Steps w' p F B val n l := by
  obtain ⟨us, h1, h2, h3⟩ := h
  refine ⟨us, h1, owns_below h2 hb, fun i s hi => ?_⟩
  obtain ⟨u, hu, hs⟩ := h3 i s hi
  exact ⟨u, hu, hs.below hb⟩
theorem Steps.form {w : World} {p : Option Addr} {F : List Nat} {B n : Nat} {val : Value} {l : List V.St} (h : Steps w p F B val n l) : ∃ a cap, val = .slice a n cap := by
  obtain ⟨us, h1, h2, h3⟩ := h
  obtain ⟨a, cap, e, _⟩ := owns_form h2
  exact ⟨a, cap, e⟩
/-- The rows of Steps, for the law on append: what it owns; what it is behind the append. -/
theorem Steps.push {w : World} {p : Option Addr} {F : List Nat} {B n : Nat} {val u : Value} {l : List V.St} {s : V.St} (h : Steps w p F B val n l) (hu : StepV w (.pointer p) F u s) :
    ∃ us, w.ownsRow B 104 1 val n us ∧ ∀ v' w', w'.ownsRow B 104 1 v' (n + 1) (us ++ [u]) → w.grownBy w' val.ownBlock → Steps w' p F B v' (n + 1) (l ++ [s]) := by
  obtain ⟨us, h1, h2, h3⟩ := h
  have hl : us.length = n := by have := h2.1; omega
  refine ⟨us, h2, fun v' w' ho hg => ⟨us ++ [u], by rw [List.length_append, h1]; rfl, ho, fun i t hi => ?_⟩⟩
  by_cases hlt : i < l.length
  · rw [List.getElem?_append_left hlt] at hi
    obtain ⟨x, hx, hs⟩ := h3 i t hi
    exact ⟨x, by rw [List.getElem?_append_left (by omega)]; exact hx, hs.grown h2 hg⟩
  · have hi2 : i = l.length := by
      have := (List.getElem?_eq_some_iff.1 hi).1
      rw [List.length_append] at this
      simp at this; omega
    subst hi2
    rw [List.getElem?_append_right (Nat.le_refl _), Nat.sub_self] at hi
    obtain rfl : s = t := by simpa using hi
    exact ⟨u, by rw [List.getElem?_append_right (by omega), show l.length - us.length = 0 by omega]; rfl, hu.grown h2 hg⟩
theorem Steps.nil (w : World) (p : Option Addr) (F : List Nat) (B : Nat) : Steps w p F B (.slice none 0 0) 0 [] := ⟨[], rfl, owns_nil, fun i s h => by simp at h⟩
/-- As inOrder wants it. -/
theorem Steps.cells {w : World} {p : Option Addr} {F : List Nat} {B n g cap : Nat} {l : List V.St} (h : Steps w p F B (.slice (some ⟨g, 0, none⟩) n cap) n l) (hF : ∀ k ∈ F, k < B) :
    n = l.length ∧ g ∉ F ∧ ∀ (i : Nat) (s : V.St), l[i]? = some s → ∃ u, w.cell? ⟨g, i, none⟩ = some u ∧ StepV w (.pointer p) F u s := by
  obtain ⟨us, h1, h2, h3⟩ := h
  refine ⟨h1, fun hg => ?_, fun i s hi => ?_⟩
  · have := owns_block h2 g rfl
    have := hF g hg
    omega
  · obtain ⟨u, hu, hs⟩ := h3 i s hi
    have hlt := (List.getElem?_eq_some_iff.1 hi).1
    exact ⟨u, by rw [h2.cellAt i (by omega)]; exact hu, hs⟩

section

variable {w : World} {d : V.Dv} {F : List Nat}

set_option maxHeartbeats 2000000 in
set_option maxRecDepth 100000 in
theorem su_putAll {p : Option Addr} (h : Dev w (.pointer p) d F) (off : Int) (hoff : I64 off) (A : Option Addr) (len cap : Nat) (l : List Nat) (hl : IsWords w (.slice A len cap) l) (hs : d.steps ≤ 10000000) :
    Calls Tryz.prog 70 #[.pointer p, .int .i64 off, .slice A len cap] w fun e w' => e = .returned (.int .i64 (d.putAll off l).2) ∧ DevStep w (.pointer p) (d.putAll off l).1 F w' := by
  obtain ⟨hlen, hlc, hlm⟩ := hl.len
  unfold maxLen at hlm
  have hm := h.good.most
  have HP := Lib.hid (su_place h off (len : Int) hoff ⟨by omega, by omega⟩)
  have hru : d.room off (len : Int) = if 0 ≤ off ∧ off % 8 = 0 ∧ 0 ≤ (len : Int) ∧ off + 8 * (len : Int) ≤ 64 * (d.lines.length : Int) then 0 else 4 := rfl
  by_cases hr : d.room off (len : Int) = 0
  · have HV : Hid (d.putAll off l = V.runL d (V.puts off l)) := by show _ = _; unfold V.Dv.putAll; rw [hlen, if_pos hr]
    have hin : 0 ≤ off ∧ off % 8 = 0 ∧ off + 8 * (len : Int) ≤ 65536 := by
      by_cases hc : 0 ≤ off ∧ off % 8 = 0 ∧ 0 ≤ (len : Int) ∧ off + 8 * (len : Int) ≤ 64 * (d.lines.length : Int)
      · omega
      · rw [if_neg hc] at hru; omega
    obtain ⟨hin0, hin8, hin9⟩ := hin
    rw [hr] at HP
    have HD := Lib.hid h
    have HF := Lib.hid h.lt
    have HW := Lib.hid hl
    have HLEN := Lib.hid hlen
    have HIN8 := Lib.hid hin8
    have HOK : Hid (∀ s ∈ V.puts off l, s.ok) := V.puts_ok (by omega) (by omega) (by rw [hlen]; omega) (fun n hn => by
      obtain ⟨i, hi, rfl⟩ := List.mem_iff_getElem.1 hn
      obtain ⟨_, _, x, _, h1, h2, _⟩ := hl.get i (by omega)
      rw [List.getElem?_eq_getElem hi] at h1
      obtain rfl := Option.some.inj h1
      exact h2)
    obtain ⟨i0, hi, hz0, hz1, hz2⟩ := info_parts info_step
    clear hru hr h hl hlen hoff hin8
    go_enter Tryz.func70, Tryz.ntmps70
    go_wp2_with fail
    refine HP.out.mono ?_
    rintro e w' ⟨rfl, rfl⟩
    go_wp2_with fail
    have HB0 := Lib.hid (Below.refl w.heap.size w)
    have HS0 := Lib.hid (Steps.nil w p F w.heap.size)
    go_loopw [8, 9, 10, 23] (fun st _ _ x wr => ∃ j : Nat, j ≤ len ∧ x = .int .i64 j ∧ Hid (Below w.heap.size w wr) ∧ Hid (Steps wr p F w.heap.size st j (V.sts off 0 (l.take j)))) (fun _ _ _ x _ => len - (intOf x).toNat)
    case atStart => exact ⟨0, by omega, rfl, HB0, HS0⟩
    case round =>
      obtain ⟨j, hj, rfl, hbw, hst⟩ := hrel
      by_cases hlt : j < len
      · obtain ⟨b, o, x, rfl, hx, hx64, hcell⟩ := (HW.out.below hbw.out).get j hlt
        obtain ⟨q, hq⟩ : ∃ q : Int, q = off + (j : Int) * 8 := ⟨_, rfl⟩
        have hq2 : off + (j : Int) * 8 = q := hq.symm
        have hq3 : 0 ≤ q ∧ q ≤ 65536 := by omega
        have hq4 : off + 8 * (j : Int) = q := by omega
        have HT := Lib.hid (V.sts_take off l j x hx)
        rw [hq4] at HT
        obtain ⟨av, cv, rfl⟩ := hst.out.form
        have HSU := Lib.hid (su_store (w := wr) p F q x (fun k hk => Nat.lt_of_lt_of_le (HF.out k hk) hbw.out.size))
        clear hq hq4 hx
        go_wp2_with fail
        refine HSU.out.mono ?_
        rintro e w1 ⟨f1, c1, rfl, hu1, hu2⟩
        obtain ⟨us, hus, hpush⟩ := ((hst.out.below hu2).below (w' := w1.alloc (.cells #[.func f1 #[] c1] 104)) ((Below.refl _ _).alloc (Nat.le_refl _) _)).push (hu1.below (w' := w1.alloc (.cells #[.func f1 #[] c1] 104)) ((Below.refl _ _).alloc (Nat.le_refl _) _))
        have HUS := Lib.hid hus
        have HPU := Lib.hid hpush
        have hb1 : Below w.heap.size w (w1.alloc (.cells #[.func f1 #[] c1] 104)) := (hbw.out.trans (hu2.mono hbw.out.size)).alloc (Nat.le_trans hbw.out.size hu2.size) _
        have HB1 := Lib.hid hb1
        clear hus hpush hb1 hu1 hu2 hst
        go_wp2_with (at_builtin; refine wpList_append_own_at _ rfl (.tmp 28) (.tmp 36) 140 rfl w.heap.size 104 i0 _ 1 8 Tryz.underlying140 hi hz0 hz1 hz2 rfl (by decide) _ _ _ rfl HUS.out ⟨w1.heap.size, 0, none⟩ 1 1 [.func f1 #[] c1] rfl rfl (cell_one_new _ _ _) (fun x hx => by obtain rfl := List.mem_singleton.1 hx; rfl) (by unfold maxLen; omega) (by omega) HB1.out.size ?_)
        intro v' w2 hown' hgrow hnil hat
        have HN := Lib.hid (HPU.out v' w2 hown' hgrow)
        have HB2 : Hid (Below w.heap.size w w2) := HB1.out.grown hgrow HB1.out.size (fun k hk => owns_block HUS.out k hk)
        clear hown' hgrow hnil hat
        go_wp2
        go_roundw
        case rel => exact ⟨j + 1, by omega, by go_num, HB2, by rw [HT.out]; exact HN⟩
        case measure => simp [intOf]; omega
      · obtain rfl : j = len := by omega
        obtain ⟨av, cv, rfl⟩ := hst.out.form
        have hst0 : Hid (Steps wr p F w.heap.size (.slice av j cv) j (V.sts off 0 l ++ V.fls off 0 0)) := by
          have := hst.out
          rw [List.take_of_length_le (by have := HLEN.out; omega)] at this
          rw [V.fls, List.append_nil]
          exact this
        clear hst hj hlt
        have hjb : j ≤ 8192 := by omega
        go_wp2_with fail
        go_loopw [8, 11, 12, 41] (fun st _ _ x wr => ∃ i n : Nat, i ≤ j ∧ n ≤ j + i ∧ x = .int .i64 i ∧ Hid (Below w.heap.size w wr) ∧ Hid (Steps wr p F w.heap.size st n (V.sts off 0 l ++ V.fls off 0 i))) (fun _ _ _ x _ => j - (intOf x).toNat)
        case atStart => exact ⟨0, j, by omega, by omega, rfl, hbw, hst0⟩
        case round =>
          obtain ⟨i, n, hi9, hn9, rfl, hbw, hst⟩ := hrel
          by_cases hlt : i < j
          · obtain ⟨q, hq⟩ : ∃ q : Int, q = off + (i : Int) * 8 := ⟨_, rfl⟩
            have hq2 : off + (i : Int) * 8 = q := hq.symm
            have hq3 : 0 ≤ q ∧ q ≤ 65536 := by omega
            have hq4 : off + 8 * (i : Int) = q := by omega
            have HT := Lib.hid (V.fls_snoc off 0 i)
            rw [Nat.zero_add, hq4] at HT
            obtain ⟨av2, cv2, rfl⟩ := hst.out.form
            have HSU := Lib.hid (fun W (hW : Below w.heap.size w W) => su_flush (w := W) p F q (fun k hk => Nat.lt_of_lt_of_le (HF.out k hk) hW.size))
            have HQ := Lib.hid hq
            clear hq hq4
            by_cases hc : i = 0 ∨ q % 64 = 0
            · have HT2 : Hid (V.fls off 0 (i + 1) = V.fls off 0 i ++ [.flush q]) := by show _ = _; rw [HT.out, if_pos hc]
              rcases Classical.em (i = 0) with h0 | h0
              · have hb0 : ((i : Int) == 0) = true := by simpa using h0
                have HC := Lib.hid hc
                have H0 := Lib.hid h0
                clear hc h0
                go_wp2_with fail
                refine (HSU.out wr hbw.out).mono ?_
                rintro e w1 ⟨f1, c1, rfl, hu1, hu2⟩
                obtain ⟨us, hus, hpush⟩ := ((hst.out.below hu2).below (w' := w1.alloc (.cells #[.func f1 #[] c1] 104)) ((Below.refl _ _).alloc (Nat.le_refl _) _)).push (hu1.below (w' := w1.alloc (.cells #[.func f1 #[] c1] 104)) ((Below.refl _ _).alloc (Nat.le_refl _) _))
                have HUS := Lib.hid hus
                have HPU := Lib.hid hpush
                have hb1 : Below w.heap.size w (w1.alloc (.cells #[.func f1 #[] c1] 104)) := (hbw.out.trans (hu2.mono hbw.out.size)).alloc (Nat.le_trans hbw.out.size hu2.size) _
                have HB1 := Lib.hid hb1
                clear hus hpush hb1 hu1 hu2 hst
                go_wp2_with (at_builtin; refine wpList_append_own_at _ rfl (.tmp 55) (.tmp 59) 140 rfl w.heap.size 104 i0 _ 1 8 Tryz.underlying140 hi hz0 hz1 hz2 rfl (by decide) _ _ _ rfl HUS.out ⟨w1.heap.size, 0, none⟩ 1 1 [.func f1 #[] c1] rfl rfl (cell_one_new _ _ _) (fun x hx => by obtain rfl := List.mem_singleton.1 hx; rfl) (by unfold maxLen; omega) (by omega) HB1.out.size ?_)
                intro v' w2 hown' hgrow hnil hat
                have HN := Lib.hid (HPU.out v' w2 hown' hgrow)
                have HB2 : Hid (Below w.heap.size w w2) := HB1.out.grown hgrow HB1.out.size (fun k hk => owns_block HUS.out k hk)
                clear hown' hgrow hnil hat
                go_wp2
                go_roundw
                case rel => exact ⟨i + 1, n + 1, by omega, by omega, by go_num, HB2, by rw [HT2.out, ← List.append_assoc]; exact HN⟩
                case measure => simp [intOf]; omega
              · have hb0 : ((i : Int) == 0) = false := by simpa using h0
                have hq8 : (q % 64 == 0) = true := by simpa using hc.resolve_left h0
                have HC := Lib.hid hc
                clear hc
                go_wp2_with fail
                refine (HSU.out wr hbw.out).mono ?_
                rintro e w1 ⟨f1, c1, rfl, hu1, hu2⟩
                obtain ⟨us, hus, hpush⟩ := ((hst.out.below hu2).below (w' := w1.alloc (.cells #[.func f1 #[] c1] 104)) ((Below.refl _ _).alloc (Nat.le_refl _) _)).push (hu1.below (w' := w1.alloc (.cells #[.func f1 #[] c1] 104)) ((Below.refl _ _).alloc (Nat.le_refl _) _))
                have HUS := Lib.hid hus
                have HPU := Lib.hid hpush
                have hb1 : Below w.heap.size w (w1.alloc (.cells #[.func f1 #[] c1] 104)) := (hbw.out.trans (hu2.mono hbw.out.size)).alloc (Nat.le_trans hbw.out.size hu2.size) _
                have HB1 := Lib.hid hb1
                clear hus hpush hb1 hu1 hu2 hst
                go_wp2_with (at_builtin; refine wpList_append_own_at _ rfl (.tmp 55) (.tmp 59) 140 rfl w.heap.size 104 i0 _ 1 8 Tryz.underlying140 hi hz0 hz1 hz2 rfl (by decide) _ _ _ rfl HUS.out ⟨w1.heap.size, 0, none⟩ 1 1 [.func f1 #[] c1] rfl rfl (cell_one_new _ _ _) (fun x hx => by obtain rfl := List.mem_singleton.1 hx; rfl) (by unfold maxLen; omega) (by omega) HB1.out.size ?_)
                intro v' w2 hown' hgrow hnil hat
                have HN := Lib.hid (HPU.out v' w2 hown' hgrow)
                have HB2 : Hid (Below w.heap.size w w2) := HB1.out.grown hgrow HB1.out.size (fun k hk => owns_block HUS.out k hk)
                clear hown' hgrow hnil hat
                go_wp2
                go_roundw
                case rel => exact ⟨i + 1, n + 1, by omega, by omega, by go_num, HB2, by rw [HT2.out, ← List.append_assoc]; exact HN⟩
                case measure => simp [intOf]; omega
            · have HT2 : Hid (V.fls off 0 (i + 1) = V.fls off 0 i) := by show _ = _; rw [HT.out, if_neg hc, List.append_nil]
              have h0 : ¬ i = 0 := fun h => hc (.inl h)
              have hb0 : ((i : Int) == 0) = false := by simpa using h0
              have hq8 : (q % 64 == 0) = false := by simpa using (fun h => hc (.inr h))
              clear hc
              go_wp2
              go_roundw
              case rel => exact ⟨i + 1, n, by omega, by omega, by go_num, hbw, by rw [HT2.out]; exact hst⟩
              case measure => simp [intOf]; omega
          · obtain rfl : i = j := by omega
            obtain ⟨av2, cv2, rfl⟩ := hst.out.form
            obtain ⟨us, hus, hpush⟩ := (hst.out.below (w' := wr.alloc (.cells #[.func (.func 98) #[.pointer p] #[]] 104)) ((Below.refl _ _).alloc (Nat.le_refl _) _)).push (u := .func (.func 98) #[.pointer p] #[]) (s := .fence) rfl
            have HUS := Lib.hid hus
            have HPU := Lib.hid hpush
            have hb1 : Below w.heap.size w (wr.alloc (.cells #[.func (.func 98) #[.pointer p] #[]] 104)) := hbw.out.alloc hbw.out.size _
            have HB1 := Lib.hid hb1
            clear hus hpush hb1 hst
            go_wp2_with (at_builtin; refine wpList_append_own_at _ rfl (.tmp 62) (.tmp 65) 140 rfl w.heap.size 104 i0 _ 1 8 Tryz.underlying140 hi hz0 hz1 hz2 rfl (by decide) _ _ _ rfl HUS.out ⟨wr.heap.size, 0, none⟩ 1 1 [.func (.func 98) #[.pointer p] #[]] rfl rfl (cell_one_new _ _ _) (fun x hx => by obtain rfl := List.mem_singleton.1 hx; rfl) (by unfold maxLen; omega) (by omega) HB1.out.size ?_)
            intro v' w2 hown' hgrow hnil hat
            have HN := Lib.hid (HPU.out v' w2 hown' hgrow)
            have HB2 : Hid (Below w.heap.size w w2) := HB1.out.grown hgrow HB1.out.size (fun k hk => owns_block HUS.out k hk)
            obtain ⟨g, c', rfl, _⟩ := own_some hown' hnil
            have hpu : V.sts off 0 l ++ V.fls off 0 i ++ [V.St.fence] = V.puts off l := by unfold V.puts; rw [HLEN.out]
            rw [hpu] at HN
            obtain ⟨hc1, hc2, hc3⟩ := HN.out.cells HF.out
            have hdev : Dev w2 (.pointer p) d F := HD.out.only (Only.of_below (F := []) HB2.out) (fun k hk => by cases hk)
            have HIO := Lib.hid (su_inOrder (V.puts off l) (HOK.out) hdev g c' hc2 hc3 (by rw [← hc1]; omega) (by omega))
            rw [show (V.puts off l).length = n + 1 from hc1.symm] at HIO
            clear hown' hgrow hnil hat hc1 hc2 hc3 hdev hpu
            go_wp2_with fail
            refine HIO.out.mono ?_
            rintro e w3 ⟨rfl, h3⟩
            have H3 : Hid (DevStep w (.pointer p) (V.runL d (V.puts off l)).1 F w3) := DevStep.newer HB2.out h3
            clear h3
            go_wp2
            go_ret
            rw [HV.out]
            exact ⟨rfl, H3.out⟩
  · have HV : Hid (d.putAll off l = (d, 4)) := by show _ = _; unfold V.Dv.putAll; rw [hlen, if_neg hr]
    have hr4 : d.room off (len : Int) = 4 := by
      rw [hru] at hr ⊢
      by_cases hc : 0 ≤ off ∧ off % 8 = 0 ∧ 0 ≤ (len : Int) ∧ off + 8 * (len : Int) ≤ 64 * (d.lines.length : Int)
      · rw [if_pos hc] at hr; exact absurd rfl hr
      · rw [if_neg hc]
    rw [hr4] at HP
    have HD := Lib.hid h
    clear h hl hr hru hr4 hlen
    go_enter Tryz.func70, Tryz.ntmps70
    go_wp2_with fail
    refine HP.out.mono ?_
    rintro e w' ⟨rfl, rfl⟩
    go_wp2
    go_ret
    rw [HV.out]
    exact ⟨rfl, DevStep.same HD.out 0⟩
end

end Go.Proofs.YtaceogpdjbikiaaGreatDoor
namespace Go.Proofs.YtaceogpdjbikiaaGreatDoor

open Go.RowKit

section

variable {w : World} {d : V.Dv} {F : List Nat}

set_option maxRecDepth 100000 in
theorem su_put {p : Option Addr} (h : Dev w (.pointer p) d F) (off : Int) (hoff : I64 off) (n : Nat) (hn : n < 2 ^ 64) (hs : d.steps ≤ 10000000) :
    Calls Tryz.prog 83 #[.pointer p, .int .i64 off, .int .u64 (n : Int)] w fun e w' => e = .returned (.int .i64 (d.put off n).2) ∧ DevStep w (.pointer p) (d.put off n).1 F w' := by
  have HF := Lib.hid h.lt
  have HD := Lib.hid h
  have HSU := Lib.hid (su_store (w := w) p F off n h.lt)
  have HOK : Hid (∀ s ∈ [V.St.store off n, .flush off, .fence], s.ok) := by
    intro s hs
    simp only [List.mem_cons, List.not_mem_nil, or_false] at hs
    rcases hs with rfl | rfl | rfl
    · exact ⟨hoff, hn⟩
    · exact hoff
    · trivial
  clear h
  go_enter Tryz.func83, Tryz.ntmps83
  go_wp2_with fail
  refine HSU.out.mono ?_
  rintro e w1 ⟨f1, c1, rfl, h1, hb1⟩
  have H1 := Lib.hid h1
  have HB1 := Lib.hid hb1
  have HFL := Lib.hid (su_flush (w := w1) p F off (fun k hk => Nat.lt_of_lt_of_le (HF.out k hk) hb1.size))
  clear h1 hb1
  go_wp2_with fail
  refine HFL.out.mono ?_
  rintro e w2 ⟨f2, c2, rfl, h2, hb2⟩
  have HA : Below w2.heap.size w2 (w2.alloc (.cells #[.func f1 #[] c1, .func f2 #[] c2, .func (.func 98) #[.pointer p] #[]] 104)) := (Below.refl _ _).alloc (Nat.le_refl _) _
  have HB3 : Hid (Below w.heap.size w (w2.alloc (.cells #[.func f1 #[] c1, .func f2 #[] c2, .func (.func 98) #[.pointer p] #[]] 104))) := (HB1.out.trans (hb2.mono HB1.out.size)).trans (HA.mono (Nat.le_trans HB1.out.size hb2.size))
  have hdev : Dev (w2.alloc (.cells #[.func f1 #[] c1, .func f2 #[] c2, .func (.func 98) #[.pointer p] #[]] 104)) (.pointer p) d F := HD.out.only (Only.of_below (F := []) HB3.out) (fun k hk => by cases hk)
  have HIO := Lib.hid (su_inOrder [V.St.store off n, .flush off, .fence] HOK.out hdev w2.heap.size 3 (fun hf => by have h1 := HF.out _ hf; have h2 := HB1.out.size; have h3 := hb2.size; omega) (fun i s hi => by
    have hr := heap_alloc_new w2 (.cells #[.func f1 #[] c1, .func f2 #[] c2, .func (.func 98) #[.pointer p] #[]] 104)
    match i, hi with
    | 0, hi =>
      obtain rfl : V.St.store off n = s := by simpa using hi
      exact ⟨_, cell_of_row _ _ 0 _ _ _ hr, (H1.out.below hb2).below HA⟩
    | 1, hi =>
      obtain rfl : V.St.flush off = s := by simpa using hi
      exact ⟨_, cell_of_row _ _ 1 _ _ _ hr, h2.below HA⟩
    | 2, hi =>
      obtain rfl : V.St.fence = s := by simpa using hi
      exact ⟨_, cell_of_row _ _ 2 _ _ _ hr, rfl⟩
    | i + 3, hi => simp at hi) (by simp) (by omega))
  clear h2 hb2 HA hdev
  go_wp2_with fail
  refine HIO.out.mono ?_
  rintro e w3 ⟨rfl, h3⟩
  have H3 : Hid (DevStep w (.pointer p) (d.put off n).1 F w3) := DevStep.newer HB3.out h3
  clear h3
  go_wp2
  go_ret
  exact ⟨rfl, H3.out⟩

theorem info_u64 : (Tryz.prog.info? 53).map (fun i => (i.zero, i.size, i.bytes)) = some (some (.int .u64 0), 1, 8) := by kernel_rfl
/-- What a call leaves that hands back words in new memory. -/
def NewWords (w : World) (l : List Nat) (v : Value) (w' : World) : Prop :=
  ∃ g, v = .slice (some ⟨g, 0, none⟩) l.length l.length ∧ w.heap.size ≤ g ∧ IsWords w' v l ∧ Below w.heap.size w w' ∧ g < w'.heap.size
theorem isWords_block {w : World} {g : Nat} {l : List Nat} {t : TypeId} {fr : Nat × Nat} (h : w.heap[g]? = some (.cells (l.map (fun n : Nat => Value.int .u64 (n : Int))).toArray t fr)) (hl : ∀ n ∈ l, n < 2 ^ 64) (hm : l.length ≤ maxLen) :
    IsWords w (.slice (some ⟨g, 0, none⟩) l.length l.length) l := by
  refine ⟨some ⟨g, 0, none⟩, l.length, by rw [List.length_map], by rw [List.length_map]; exact Nat.le_refl _, hm, .inr ⟨g, 0, rfl, fun i hi => ?_⟩, fun z hz => ?_⟩
  · rw [List.length_map] at hi
    rw [Nat.zero_add, cell_of_row w g i _ _ _ h]
    simp [hi]
  · obtain ⟨n, hn, rfl⟩ := List.mem_map.1 hz
    have := hl n hn
    simp [Lit.wf, IntKind.min, IntKind.max, IntKind.signed, IntKind.bits]
    omega
set_option maxHeartbeats 1000000 in
set_option maxRecDepth 100000 in
theorem su_get {p : Option Addr} (h : Dev w (.pointer p) d F) (off : Int) (hoff : I64 off) (k : Nat) (hk : (k : Int) ≤ 9223372036854775807) (hr : d.room off k = 0) (hleft : d.left ≠ 0) :
    Calls Tryz.prog 60 #[.pointer p, .int .i64 off, .int .i64 (k : Int)] w fun e w' => ∃ v, e = .returned (.tuple #[v, .int .i64 0]) ∧ NewWords w (d.words off k) v w' := by
  obtain ⟨i0, hi, hz0, hz1, hz2⟩ := info_parts info_u64
  have hm := h.good.most
  have HP := Lib.hid (su_place h off (k : Int) hoff ⟨by omega, by omega⟩)
  rw [hr] at HP
  have hin : 0 ≤ off ∧ off % 8 = 0 ∧ off + 8 * (k : Int) ≤ 65536 := by
    have hru : d.room off (k : Int) = if 0 ≤ off ∧ off % 8 = 0 ∧ 0 ≤ (k : Int) ∧ off + 8 * (k : Int) ≤ 64 * (d.lines.length : Int) then 0 else 4 := rfl
    by_cases hc : 0 ≤ off ∧ off % 8 = 0 ∧ 0 ≤ (k : Int) ∧ off + 8 * (k : Int) ≤ 64 * (d.lines.length : Int)
    · omega
    · rw [if_neg hc] at hru; omega
  obtain ⟨hin0, hin8, hin9⟩ := hin
  have HLD : Hid (∀ wr, Below w.heap.size w wr → ∀ j, j < k → Calls Tryz.prog 21 #[.pointer p, .int .i64 (off + 8 * ((j : Nat) : Int))] wr fun e w' => e = .returned (.tuple #[.int .u64 (d.load (off + 8 * ((j : Nat) : Int)) : Nat), .int .i64 0]) ∧ ∃ m, w' = wr.drewN m) := by
    intro wr hb j hj
    have h1 := dev_load (h.only (Only.of_below (F := []) hb) (fun k hk => by cases hk)) (off + 8 * ((j : Nat) : Int)) ⟨by omega, by omega⟩
    rw [V.room_err hr hleft j hj] at h1
    exact h1
  have HWG := Lib.hid (fun j hj => V.words_get d off k j hj)
  have HWL := Lib.hid (V.words_length d off k)
  have HWB : Hid (∀ n ∈ d.words off k, n < 2 ^ 64) := by
    intro n hn
    obtain ⟨i, _, rfl⟩ := List.mem_map.1 hn
    exact V.load_lt h.good _
  have HIN8 := Lib.hid hin8
  clear h hr hleft hin8 hm hoff
  go_enter Tryz.func60, Tryz.ntmps60
  go_wp2_with fail
  refine HP.out.mono ?_
  rintro e w' ⟨rfl, rfl⟩
  go_wp2_with (refine wpList_make_full _ rfl _ _ 33 rfl w.heap.size 53 i0 (.int .u64 0) 1 Tryz.underlying33 hi hz0 hz1 .i64 .i64 k k k rfl rfl rfl rfl (by rw [hz2]; omega) (by unfold maxLen; omega) (by simp) ?_)
  intro w1 hown hgr
  have HB1 : Hid (Below w.heap.size w w1) := (Below.refl _ _).grown hgr (Nat.le_refl _) (fun k hk => by cases hk)
  have H0 : Hid (w1.heap[w.heap.size]? = some (.cells ((V.fillW (d.words off k) 0).map (fun n : Nat => Value.int .u64 (n : Int))).toArray 53 (0, 0))) := by
    show _ = _
    rw [V.fillW_zero, HWL.out, List.map_replicate]; exact row_of_made hown
  clear hown hgr
  go_wp2_with fail
  go_loopw [10, 11, 12, 24] (fun _ _ _ x wr => ∃ j : Nat, j ≤ k ∧ x = .int .i64 j ∧ Hid (wr.heap[w.heap.size]? = some (.cells ((V.fillW (d.words off k) j).map (fun n : Nat => Value.int .u64 (n : Int))).toArray 53 (0, 0))) ∧ Hid (Below w.heap.size w wr)) (fun _ _ _ x _ => k - (intOf x).toNat)
  case atStart => exact ⟨0, by omega, rfl, H0, HB1⟩
  case round =>
    obtain ⟨j, hj, rfl, hrow, hbel⟩ := hrel
    by_cases hlt : j < k
    · have HL := Lib.hid (HLD.out wr hbel.out j hlt)
      have hwg := HWG.out j hlt
      generalize d.load (off + 8 * ((j : Nat) : Int)) = x at *
      obtain ⟨q, hq⟩ : ∃ q : Int, q = off + (j : Int) * 8 := ⟨_, rfl⟩
      have hq2 : off + (j : Int) * 8 = q := hq.symm
      have hq3 : 0 ≤ q ∧ q ≤ 65536 := by omega
      rw [show off + 8 * (j : Int) = q by omega] at HL
      have HST := Lib.hid (V.fillW_step _ j x hwg)
      have hcl : (((V.fillW (d.words off k) j).map (fun n : Nat => Value.int .u64 (n : Int))).toArray)[j]? ≠ none := by
        rw [List.getElem?_toArray, List.getElem?_map, List.getElem?_eq_getElem (by rw [V.fillW_length _ _ (by rw [HWL.out]; exact hj), HWL.out]; exact hlt)]
        simp
      obtain ⟨y, hy⟩ := Option.ne_none_iff_exists'.1 hcl
      have hcell : wr.cell? ⟨w.heap.size, j, none⟩ = some y := (cell_of_row wr _ j _ _ _ hrow.out).trans hy
      have hfree : wr.frozen? ⟨w.heap.size, j, none⟩ = false := frozen_of_row wr _ j _ _ hrow.out
      have HB := hbel
      clear hq hwg hcl hy hbel
      go_wp2_with fail
      refine HL.out.mono ?_
      rintro e w' ⟨rfl, m, rfl⟩
      have HR2 : Hid (((wr.drewN m).setCell ⟨w.heap.size, j, none⟩ (.int .u64 (x : Int))).heap[w.heap.size]? = some (.cells ((V.fillW (d.words off k) (j + 1)).map (fun n : Nat => Value.int .u64 (n : Int))).toArray 53 (0, 0))) := by
        show _ = _
        rw [heap_setCell_same (wr.drewN m) w.heap.size j _ _ (.int .u64 (x : Int)) hrow.out, ← HST.out, List.map_set]
        simp
      have HB2 : Hid (Below w.heap.size w ((wr.drewN m).setCell ⟨w.heap.size, j, none⟩ (.int .u64 (x : Int)))) := (below_drewN' HB.out m).setCell (Nat.le_refl _) _
      go_wp2
      go_roundw
      case rel => exact ⟨j + 1, by omega, by go_num, HR2, HB2⟩
      case measure => simp [intOf]; omega
    · obtain rfl : j = k := by omega
      have h1 := hrow.out
      have hfa : V.fillW (d.words off j) j = d.words off j := by
        have := V.fillW_all (d.words off j)
        rw [HWL.out] at this
        exact this
      rw [hfa] at h1
      have H1 := Lib.hid h1
      clear h1 hfa hrow
      go_wp2
      go_ret2
      refine ⟨_, rfl, w.heap.size, by rw [HWL.out]; rfl, Nat.le_refl _, ?_, hbel.out, (Array.getElem?_eq_some_iff.1 H1.out).1⟩
      have := isWords_block H1.out HWB.out (by rw [HWL.out]; unfold maxLen; omega)
      rw [HWL.out] at this
      exact this

/-- What Clear answers, and what it makes of a device. -/
def V.Dv.clear (d : V.Dv) (off lines : Int) : V.Dv × Int := if 0 ≤ lines ∧ lines ≤ 1024 ∧ off % 64 = 0 then d.putAll off (List.replicate (8 * lines.toNat) 0) else (d, 2)
set_option maxHeartbeats 1000000 in
set_option maxRecDepth 100000 in
theorem su_clear {p : Option Addr} (h : Dev w (.pointer p) d F) (off lines : Int) (hoff : I64 off) (hlines : I64 lines) (hs : d.steps ≤ 10000000) :
    Calls Tryz.prog 69 #[.pointer p, .int .i64 off, .int .i64 lines] w fun e w' => e = .returned (.int .i64 (d.clear off lines).2) ∧ DevStep w (.pointer p) (d.clear off lines).1 F w' := by
  have hoff' : -9223372036854775808 ≤ off ∧ off ≤ 9223372036854775807 := hoff
  have hlines' : -9223372036854775808 ≤ lines ∧ lines ≤ 9223372036854775807 := hlines
  have HD := Lib.hid h
  by_cases hc : 0 ≤ lines ∧ lines ≤ 1024 ∧ off % 64 = 0
  · have HV : Hid (d.clear off lines = d.putAll off (List.replicate (8 * lines.toNat) 0)) := if_pos hc
    obtain ⟨h1, h2, h3⟩ := hc
    obtain ⟨n, rfl⟩ := Int.eq_ofNat_of_zero_le h1
    rw [Int.toNat_natCast] at HV
    have hb : (off.tmod 64 != 0) = false := by simpa using Int.tmod_eq_zero_of_dvd (Int.dvd_of_emod_eq_zero h3)
    obtain ⟨i0, hi, hz0, hz1, hz2⟩ := info_parts info_u64
    obtain ⟨k, hk⟩ : ∃ k, k = 8 * n := ⟨_, rfl⟩
    have hki : (n : Int) * 8 = (k : Int) := by omega
    have hk9 : k ≤ 8192 := by omega
    rw [← hk] at HV
    have H3 := Lib.hid h3
    have HK := Lib.hid hk
    have HP := Lib.hid (fun W (hW : Below w.heap.size w W) A c (hl : IsWords W (.slice A k c) (List.replicate k 0)) => su_putAll (h.only (Only.of_below (F := []) hW) (fun k hk => by cases hk)) off hoff A k c (List.replicate k 0) hl hs)
    clear h h3 hoff hlines hk
    go_enter Tryz.func69, Tryz.ntmps69
    go_wp2_with (refine wpList_make_full _ rfl _ _ 33 rfl w.heap.size 53 i0 (.int .u64 0) 1 Tryz.underlying33 hi hz0 hz1 .i64 .i64 k k k rfl rfl rfl rfl (by rw [hz2]; omega) (by unfold maxLen; omega) (by simp) ?_)
    intro w1 hown hgr
    have HB1 : Hid (Below w.heap.size w w1) := (Below.refl _ _).grown hgr (Nat.le_refl _) (fun k hk => by cases hk)
    have H0 : Hid (IsWords w1 (.slice (some ⟨w.heap.size, 0, none⟩) k k) (List.replicate k 0)) := by
      have h1 := row_of_made hown
      have h2 := isWords_block (l := List.replicate k 0) (by rw [List.map_replicate]; exact h1) (fun n hn => by have := List.eq_of_mem_replicate hn; omega) (by rw [List.length_replicate]; unfold maxLen; omega)
      rw [List.length_replicate] at h2
      exact h2
    clear hown hgr
    go_wp2_with fail
    refine (HP.out _ HB1.out _ _ H0.out).mono ?_
    rintro e w3 ⟨rfl, h3⟩
    have HH : Hid (DevStep w (.pointer p) (d.putAll off (List.replicate k 0)).1 F w3) := DevStep.newer HB1.out h3
    clear h3
    go_wp2
    go_ret
    rw [HV.out]
    exact ⟨rfl, HH.out⟩
  · have HV : Hid (d.clear off lines = (d, 2)) := if_neg hc
    have hx : lines < 0 ∨ (0 ≤ lines ∧ 1024 < lines) ∨ (0 ≤ lines ∧ lines ≤ 1024 ∧ off % 64 ≠ 0) := by omega
    clear h hc hoff hlines
    rcases hx with h1 | ⟨h1, h2⟩ | ⟨h1, h2, h3⟩
    · go_enter Tryz.func69, Tryz.ntmps69
      go_wp2
      go_ret
      rw [HV.out]
      exact ⟨rfl, DevStep.same HD.out 0⟩
    · go_enter Tryz.func69, Tryz.ntmps69
      go_wp2
      go_ret
      rw [HV.out]
      exact ⟨rfl, DevStep.same HD.out 0⟩
    · have hb : (off.tmod 64 != 0) = true := by simpa using (fun h => h3 (Int.emod_eq_zero_of_dvd (Int.dvd_of_tmod_eq_zero h)))
      clear h3
      go_enter Tryz.func69, Tryz.ntmps69
      go_wp2
      go_ret
      rw [HV.out]
      exact ⟨rfl, DevStep.same HD.out 0⟩
end

end Go.Proofs.YtaceogpdjbikiaaGreatDoor
namespace Go.Proofs.YtaceogpdjbikiaaGreatDoor

open Go.RowKit

section

variable {w0 wr : World} {d : V.Dv} {p : Option Addr}

theorem in_put (h : DevIn w0 (.pointer p) d wr) (off : Int) (hoff : I64 off) (n : Nat) (hn : n < 2 ^ 64) (hs : d.steps ≤ 10000000) :
    Calls Tryz.prog 83 #[.pointer p, .int .i64 off, .int .u64 (n : Int)] wr fun e w' => e = .returned (.int .i64 (d.put off n).2) ∧ DevIn w0 (.pointer p) (d.put off n).1 w' := by
  obtain ⟨F, h1, h2, h3⟩ := h
  exact (su_put h1 off hoff n hn hs).mono fun e w' ⟨a, b⟩ => ⟨a, DevIn.step h2 h3 b⟩
theorem in_putAll (h : DevIn w0 (.pointer p) d wr) (off : Int) (hoff : I64 off) (A : Option Addr) (len cap : Nat) (l : List Nat) (hl : IsWords wr (.slice A len cap) l) (hs : d.steps ≤ 10000000) :
    Calls Tryz.prog 70 #[.pointer p, .int .i64 off, .slice A len cap] wr fun e w' => e = .returned (.int .i64 (d.putAll off l).2) ∧ DevIn w0 (.pointer p) (d.putAll off l).1 w' := by
  obtain ⟨F, h1, h2, h3⟩ := h
  exact (su_putAll h1 off hoff A len cap l hl hs).mono fun e w' ⟨a, b⟩ => ⟨a, DevIn.step h2 h3 b⟩
theorem in_clear (h : DevIn w0 (.pointer p) d wr) (off lines : Int) (hoff : I64 off) (hlines : I64 lines) (hs : d.steps ≤ 10000000) :
    Calls Tryz.prog 69 #[.pointer p, .int .i64 off, .int .i64 lines] wr fun e w' => e = .returned (.int .i64 (d.clear off lines).2) ∧ DevIn w0 (.pointer p) (d.clear off lines).1 w' := by
  obtain ⟨F, h1, h2, h3⟩ := h
  exact (su_clear h1 off lines hoff hlines hs).mono fun e w' ⟨a, b⟩ => ⟨a, DevIn.step h2 h3 b⟩
theorem in_get (h : DevIn w0 (.pointer p) d wr) (off : Int) (hoff : I64 off) (k : Nat) (hk : (k : Int) ≤ 9223372036854775807) (hr : d.room off k = 0) (hleft : d.left ≠ 0) :
    Calls Tryz.prog 60 #[.pointer p, .int .i64 off, .int .i64 (k : Int)] wr fun e w' => ∃ v, e = .returned (.tuple #[v, .int .i64 0]) ∧ NewWords wr (d.words off k) v w' ∧ DevIn w0 (.pointer p) d w' := by
  have h' := h
  obtain ⟨F, h1, h2, h3⟩ := h
  refine (su_get h1 off hoff k hk hr hleft).mono ?_
  rintro e w' ⟨v, he, hn⟩
  exact ⟨v, he, hn, h'.newer (by obtain ⟨_, _, _, _, hb, _⟩ := hn; exact hb)⟩
end

/-! ### Put of no device -/
theorem nil_store1 {w : World} (a b c : Nat) (off n : Int) (ha : w.heap[a]? = some (.cells #[.pointer none] 24 (0, 0))) (hb : w.heap[b]? = some (.cells #[.int .i64 off] 3 (0, 0))) (hc : w.heap[c]? = some (.cells #[.int .u64 n] 53 (0, 0))) :
    Calls Tryz.prog 109 #[.pointer (some ⟨a, 0, none⟩), .pointer (some ⟨b, 0, none⟩), .pointer (some ⟨c, 0, none⟩)] w fun e w' => e = .returned (.int .i64 1) ∧ w = w' := by
  have ca := cell_of_one ha
  have cb := cell_of_one hb
  have cc := cell_of_one hc
  have HS := Lib.hid (no_store (w := w) (v := .pointer none) (.inl rfl) off n)
  clear ha hb hc
  go_enter Tryz.func109, Tryz.ntmps109
  go_wp2_with fail
  refine HS.out.mono ?_
  rintro e w1 ⟨rfl, rfl⟩
  go_wp2
  go_ret
  exact ⟨rfl, rfl⟩
set_option maxRecDepth 100000 in
theorem nil_inOrder {w : World} (g cap : Nat) (off n : Int) (a b c : Nat) (hg : w.cell? ⟨g, 0, none⟩ = some (.func (.func 109) #[] #[.pointer (some ⟨a, 0, none⟩), .pointer (some ⟨b, 0, none⟩), .pointer (some ⟨c, 0, none⟩)])) (ha : w.heap[a]? = some (.cells #[.pointer none] 24 (0, 0))) (hb : w.heap[b]? = some (.cells #[.int .i64 off] 3 (0, 0))) (hc : w.heap[c]? = some (.cells #[.int .u64 n] 53 (0, 0))) :
    Calls Tryz.prog 97 #[.slice (some ⟨g, 0, none⟩) 3 cap] w fun e w' => e = .returned (.int .i64 1) ∧ w = w' := by
  have HS := Lib.hid (nil_store1 a b c off n ha hb hc)
  clear ha hb hc
  go_enter Tryz.func97, Tryz.ntmps97
  go_wp2_with fail
  go_loopw [4, 5, 8] (fun _ _ x wr => x = .int .i64 ((0 : Nat) : Int) ∧ wr = w) (fun _ _ x _ => 3 - (intOf x).toNat)
  case atStart => exact ⟨rfl, rfl⟩
  case round =>
    obtain ⟨rfl, rfl⟩ := hrel
    go_wp2_with fail
    refine HS.out.mono ?_
    rintro e w1 ⟨rfl, rfl⟩
    go_wp2
    go_ret
    exact ⟨rfl, rfl⟩
set_option maxRecDepth 100000 in
theorem nil_put (w : World) (off : Int) (n : Nat) : Calls Tryz.prog 83 #[.pointer none, .int .i64 off, .int .u64 (n : Int)] w fun e w' => e = .returned (.int .i64 1) ∧ Below w.heap.size w w' := by
  have HSU := Lib.hid (su_store (w := w) none [] off n (fun k hk => by cases hk))
  go_enter Tryz.func83, Tryz.ntmps83
  go_wp2_with fail
  refine HSU.out.mono ?_
  rintro e w1 ⟨f1, c1, rfl, ⟨a, b, c, e1, h1, h2, h3⟩, hb1⟩
  obtain ⟨rfl, rfl⟩ : f1 = .func 109 ∧ c1 = #[.pointer (some ⟨a, 0, none⟩), .pointer (some ⟨b, 0, none⟩), .pointer (some ⟨c, 0, none⟩)] := by
    simpa using e1
  have H1 := Lib.hid h1; have H2 := Lib.hid h2; have H3 := Lib.hid h3
  have HB1 := Lib.hid hb1
  have HFL := Lib.hid (su_flush (w := w1) none [] off (fun k hk => by cases hk))
  clear h1 h2 h3 hb1 e1
  go_wp2_with fail
  refine HFL.out.mono ?_
  rintro e w2 ⟨f2, c2, rfl, _, hb2⟩
  have HA : ∀ o, Below w2.heap.size w2 (w2.alloc o) := fun o => (Below.refl _ _).alloc (Nat.le_refl _) _
  have HB3 : Hid (∀ o, Below w.heap.size w (w2.alloc o)) := fun o => (HB1.out.trans (hb2.mono HB1.out.size)).trans ((HA o).mono (Nat.le_trans HB1.out.size hb2.size))
  have HK : ∀ o k, k < w1.heap.size → (w2.alloc o).heap[k]? = w1.heap[k]? := fun o k hk => ((HA o).block k (Nat.lt_of_lt_of_le hk hb2.size)).trans (hb2.block k hk)
  have HIO := Lib.hid (fun o g hg => nil_inOrder (w := w2.alloc o) g 3 off (n : Int) a b c hg ((HK o a H1.out.lt).trans H1.out.1) ((HK o b H2.out.lt).trans H2.out.1) ((HK o c H3.out.lt).trans H3.out.1))
  clear hb2 HA HK
  go_wp2_with fail
  refine (HIO.out _ _ (cell_of_row _ _ 0 _ _ _ (heap_alloc_new w2 _))).mono ?_
  rintro e w3 ⟨rfl, rfl⟩
  go_wp2
  go_ret
  exact ⟨rfl, HB3.out _⟩

/-! ### alive -/
def B0 : V.Dv := V.newDv 4
def B1 : V.Dv := (B0.put 8 5).1
def B2 : V.Dv := (B1.putAll 16 [1, 2]).1
def B3 : V.Dv := B2.crash [1]
def B4 : V.Dv := (B3.clear 0 1).1
theorem b_put : (B0.put 8 5).2 = 0 ∧ B0.steps ≤ 10000000 ∧ B1.steps = 3 := by decide +kernel
theorem b_all : (B1.putAll 16 [1, 2]).2 = 0 ∧ B2.steps = 7 := by decide +kernel
theorem b_get : B3.room 8 (3 : Nat) = 0 ∧ B3.left ≠ 0 ∧ B3.words 8 3 = [5, 1, 2] ∧ B3.steps = 7 := by decide +kernel
theorem b_clear : (B3.clear 0 1).2 = 0 ∧ B4.steps ≤ 10000000 ∧ (B4.clear 8 1).2 = 2 := by decide +kernel
end Go.Proofs.YtaceogpdjbikiaaGreatDoor
namespace Go.Proofs.YtaceogpdjbikiaaGreatDoor.V

open Go.Proofs.YtaceogpdjbikiaaGreatDoor

theorem ln_get_store {l : Ln} (hl : l.Good) (r m b : Nat) (hr : r % 8 = 0) (hr2 : r + 8 ≤ 64) (hb : b % 8 = 0) (hb2 : b + 8 ≤ 64) (hm : m < 2 ^ 64) : (l.store r m).get b = if r = b then m else l.get b := by
  unfold Ln.store
  by_cases e : l.get r = m
  · rw [if_pos e]
    split
    · rename_i h; rw [← h]; exact e
    · rfl
  · rw [if_neg e, Ln.get_eq]
    show M.gv (M.pv l.now r m 8) b 8 = _
    split
    · rename_i h; subst h; exact M.get_put l.now r m (by rw [hl.len]; exact hr2) hm
    · rename_i h
      rw [M.get_put_other l.now r m b (by rw [hl.len]; exact hb2) (by omega), Ln.get_eq]
theorem line_at (d : Dv) (i j : Nat) (f : Ln → Ln) (hj : j < d.lines.length) : (d.line i f).done.at j = if i = j then f (d.at j) else d.at j := by
  simp only [Dv.at, Dv.line, Dv.done, List.getElem?_modify]
  rw [List.getElem?_eq_getElem hj]
  show (if i = j then f d.lines[j] else d.lines[j]) = _
  rfl
theorem settle_at (d : Dv) (j : Nat) (hj : j < d.lines.length) : d.settle.done.at j = (d.at j).settle := by
  simp only [Dv.at, Dv.settle, Dv.done, List.getElem?_map, List.getElem?_eq_getElem hj]
  rfl
theorem St.len (s : St) (d : Dv) : (s.run d).lines.length = d.lines.length := by
  cases s with
  | store off n => show (d.store off n).lines.length = _; unfold Dv.store; split <;> simp [Dv.line, Dv.done]
  | flush off => show (d.flush off).lines.length = _; unfold Dv.flush; split <;> simp [Dv.line, Dv.done]
  | fence => show d.fence.lines.length = _; unfold Dv.fence; split <;> simp [Dv.settle, Dv.done]
theorem St.good (s : St) {d : Dv} (h : d.Good) : (s.run d).Good := by
  cases s with
  | store off n => exact h.store off n
  | flush off => exact h.flush off
  | fence => exact h.fence
theorem runL_len : ∀ (l : List St) (d : Dv), (runL d l).1.lines.length = d.lines.length
  | [], _ => rfl
  | s :: l, d => by
    rw [runL]
    split
    · rw [runL_len l, s.len]
    · exact s.len d
theorem runL_good : ∀ (l : List St) {d : Dv}, d.Good → (runL d l).1.Good
  | [], _, h => h
  | s :: l, d, h => by
    rw [runL]
    split
    · exact runL_good l (s.good h)
    · exact s.good h

/-! ### Words -/
def Dv.word (d : Dv) (a : Nat) : Nat := (d.at (a / 64)).get (a % 64)
theorem load_word {d : Dv} {off : Int} (h : d.err off 8 = 0) : d.load off = d.word off.toNat := if_pos h
theorem word_store {d : Dv} (hg : d.Good) (off : Int) (m : Nat) (hm : m < 2 ^ 64) (a : Nat) (ha : a % 8 = 0) (hl : a < 64 * d.lines.length) : (d.store off m).word a = if d.err off 8 = 0 ∧ off = (a : Int) then m else d.word a := by
  by_cases e : d.err off 8 = 0
  · obtain ⟨e1, e2, e3, e4⟩ := err_zero e
    obtain ⟨p1, p2⟩ := place_in e2 e4
    unfold Dv.word
    rw [Dv.store_ok m e, line_at _ _ _ _ (by omega)]
    by_cases hj : off.toNat / 64 = a / 64
    · rw [if_pos hj, ln_get_store (hg.at _) _ _ _ p1 p2 (by omega) (by omega) hm]
      by_cases ho : off = (a : Int)
      · rw [if_pos (by omega), if_pos ⟨e, ho⟩]
      · rw [if_neg (by omega), if_neg (fun h => ho h.2)]
    · rw [if_neg hj, if_neg (fun h => hj (by omega))]
  · rw [Dv.store_no m e, if_neg (fun h => e h.1)]
theorem word_flush (d : Dv) (off : Int) (a : Nat) (hl : a < 64 * d.lines.length) : (d.flush off).word a = d.word a := by
  by_cases e : d.err off 1 = 0
  · unfold Dv.word
    rw [Dv.flush_ok e, line_at _ _ _ _ (by omega)]
    split <;> rfl
  · rw [Dv.flush_no e]
theorem word_fence (d : Dv) (a : Nat) (hl : a < 64 * d.lines.length) : d.fence.word a = d.word a := by
  unfold Dv.word Dv.fence
  split
  · rfl
  · rw [settle_at _ _ (by omega)]; rfl
theorem word_stop (d : Dv) (k : Int) (a : Nat) : (d.stop k).word a = d.word a := by
  unfold Dv.stop; split <;> rfl

/-! ### What a device may have, behind whatever crash -/
def Holds (Q : Nat → Nat → Prop) (d : Dv) : Prop := ∀ j, j < d.lines.length → (∀ a, a % 8 = 0 → a + 8 ≤ 64 → Q (64 * j + a) ((d.at j).get a)) ∧ ∀ c ∈ (d.at j).over, Q (64 * j + c.1) c.2
theorem Holds.word {Q : Nat → Nat → Prop} {d : Dv} (h : Holds Q d) (a : Nat) (ha : a % 8 = 0) (hl : a < 64 * d.lines.length) : Q a (d.word a) := by
  have := (h (a / 64) (by omega)).1 (a % 64) (by omega) (by omega)
  rwa [show 64 * (a / 64) + a % 64 = a by omega] at this
theorem Holds.store {Q : Nat → Nat → Prop} {d : Dv} (h : Holds Q d) (hg : d.Good) (off : Int) (m : Nat) (hm : m < 2 ^ 64) (hQ : ∀ a : Nat, off = (a : Int) → Q a m) : Holds Q (d.store off m) := by
  by_cases e : d.err off 8 = 0
  · obtain ⟨e1, e2, e3, e4⟩ := err_zero e
    obtain ⟨p1, p2⟩ := place_in e2 e4
    have hlen : (d.store off m).lines.length = d.lines.length := St.len (.store off m) d
    intro j hj
    rw [hlen] at hj
    rw [Dv.store_ok m e, line_at _ _ _ _ hj]
    by_cases hjj : off.toNat / 64 = j
    · rw [if_pos hjj]
      refine ⟨fun a ha ha2 => ?_, fun c hc => ?_⟩
      · rw [ln_get_store (hg.at _) _ _ _ p1 p2 ha ha2 hm]
        split
        · exact hQ _ (by omega)
        · exact (h j hj).1 a ha ha2
      · unfold Ln.store at hc
        split at hc
        · exact (h j hj).2 c hc
        · rcases List.mem_append.1 hc with hc | hc
          · exact (h j hj).2 c hc
          · obtain rfl := List.mem_singleton.1 hc
            exact (h j hj).1 _ p1 p2
    · rw [if_neg hjj]; exact h j hj
  · rw [Dv.store_no m e]; exact h
theorem Holds.flush {Q : Nat → Nat → Prop} {d : Dv} (h : Holds Q d) (off : Int) : Holds Q (d.flush off) := by
  by_cases e : d.err off 1 = 0
  · have hlen : (d.flush off).lines.length = d.lines.length := St.len (.flush off) d
    intro j hj
    rw [hlen] at hj
    rw [Dv.flush_ok e, line_at _ _ _ _ hj]
    split <;> exact h j hj
  · rw [Dv.flush_no e]; exact h
theorem Holds.fence {Q : Nat → Nat → Prop} {d : Dv} (h : Holds Q d) : Holds Q d.fence := by
  have hlen : d.fence.lines.length = d.lines.length := St.len .fence d
  intro j hj
  rw [hlen] at hj
  unfold Dv.fence
  split
  · exact h j hj
  · rw [settle_at _ _ hj]
    exact ⟨(h j hj).1, fun c hc => (h j hj).2 c (List.mem_of_mem_drop hc)⟩
theorem Holds.stop {Q : Nat → Nat → Prop} {d : Dv} (h : Holds Q d) (k : Int) : Holds Q (d.stop k) := by
  unfold Dv.stop; split <;> exact h
theorem undo_get : ∀ (cs : List (Nat × Nat)) (b : List Int) (a : Nat), b.length = 64 → a % 8 = 0 → a + 8 ≤ 64 → (∀ c ∈ cs, c.1 % 8 = 0 ∧ c.1 + 8 ≤ 64 ∧ c.2 < 2 ^ 64) → M.gv (undo b cs) a 8 = M.gv b a 8 ∨ ∃ c ∈ cs, c.1 = a ∧ M.gv (undo b cs) a 8 = c.2
  | [], _, _, _, _, _, _ => .inl rfl
  | c :: cs, b, a, hb, ha, ha2, hc => by
    have h1 := hc c (by simp)
    rw [undo_cons]
    have hl : (undo b cs).length = 64 := by rw [undo_length, hb]
    by_cases e : c.1 = a
    · right
      refine ⟨c, by simp, e, ?_⟩
      rw [← e]
      exact M.get_put _ _ _ (by omega) h1.2.2
    · rw [M.get_put_other _ _ _ _ (by omega) (by omega)]
      rcases undo_get cs b a hb ha ha2 (fun x hx => hc x (List.mem_cons_of_mem _ hx)) with h | ⟨x, hx, h2, h3⟩
      · exact .inl h
      · exact .inr ⟨x, List.mem_cons_of_mem _ hx, h2, h3⟩
theorem crashed_at : ∀ (ls : List Ln) (ps : List Int) (j : Nat), j < ls.length → ∃ k, k ≤ ((ls[j]?.getD zeroLn)).over.length ∧ ((crashL ls ps)[j]?.getD zeroLn) = ((ls[j]?.getD zeroLn)).back k
  | [], _, _, h => by simp at h
  | l :: ls, ps, 0, _ => by
    unfold crashL
    by_cases h0 : l.over.length = 0
    · rw [if_pos h0]; exact ⟨0, Nat.zero_le _, rfl⟩
    · rw [if_neg h0]
      cases ps with
      | nil => exact ⟨0, Nat.zero_le _, rfl⟩
      | cons p ps => exact ⟨_, Nat.lt_succ_iff.1 (Nat.mod_lt _ (Nat.succ_pos _)), rfl⟩
  | l :: ls, ps, j + 1, h => by
    have hj : j < ls.length := by simpa using h
    unfold crashL
    by_cases h0 : l.over.length = 0
    · rw [if_pos h0, List.getElem?_cons_succ, List.getElem?_cons_succ]; exact crashed_at ls ps j hj
    · rw [if_neg h0]
      cases ps with
      | nil => simp only [List.getElem?_cons_succ]; exact crashed_at ls [] j hj
      | cons p ps => simp only [List.getElem?_cons_succ]; exact crashed_at ls ps j hj
theorem crash_len (d : Dv) (ps : List Int) : (d.crash ps).lines.length = d.lines.length := crashL_length _ _
theorem Holds.crash {Q : Nat → Nat → Prop} {d : Dv} (h : Holds Q d) (hg : d.Good) (ps : List Int) : Holds Q (d.crash ps) := by
  intro j hj
  rw [crash_len] at hj
  obtain ⟨k, _, hk⟩ := crashed_at d.lines ps j hj
  have hk' : (d.crash ps).at j = (d.at j).back k := hk
  rw [hk']
  refine ⟨fun a ha ha2 => ?_, fun c hc => by cases hc⟩
  rw [Ln.get_eq]
  rcases undo_get ((d.at j).over.drop k) (d.at j).now a (hg.at j).len ha ha2 (fun c hc => (hg.at j).over c (List.mem_of_mem_drop hc)) with e | ⟨c, hc, e1, e2⟩
  · show Q _ (M.gv (undo _ _) a 8)
    rw [e, ← Ln.get_eq]; exact (h j hj).1 a ha ha2
  · show Q _ (M.gv (undo _ _) a 8)
    rw [e2, ← e1]; exact (h j hj).2 c (List.mem_of_mem_drop hc)
/-- A line that has one content keeps it. -/
theorem crash_word {d : Dv} (ps : List Int) (a : Nat) (hl : a < 64 * d.lines.length) (ho : (d.at (a / 64)).over = []) : (d.crash ps).word a = d.word a := by
  obtain ⟨k, _, hk⟩ := crashed_at d.lines ps (a / 64) (by omega)
  have hk' : (d.crash ps).at (a / 64) = (d.at (a / 64)).back k := hk
  unfold Dv.word
  rw [hk', Ln.get_eq, Ln.get_eq]
  show M.gv (undo _ ((d.at (a / 64)).over.drop k)) _ _ = _
  rw [ho]; simp [undo]
theorem Holds.run {Q : Nat → Nat → Prop} {d : Dv} (h : Holds Q d) (hg : d.Good) (s : St) (hs : ∀ off m, s = .store off m → m < 2 ^ 64 ∧ ∀ a : Nat, off = (a : Int) → Q a m) : Holds Q (s.run d) := by
  cases s with
  | store off m => exact h.store hg off m (hs off m rfl).1 (hs off m rfl).2
  | flush off => exact h.flush off
  | fence => exact h.fence
theorem Holds.runL {Q : Nat → Nat → Prop} : ∀ (l : List St) {d : Dv}, Holds Q d → d.Good → (∀ off m, St.store off m ∈ l → m < 2 ^ 64 ∧ ∀ a : Nat, off = (a : Int) → Q a m) → Holds Q (runL d l).1
  | [], _, h, _, _ => h
  | s :: l, d, h, hg, hs => by
    have h1 := h.run hg s (fun off m e => hs off m (by rw [e]; simp))
    rw [V.runL]
    split
    · exact Holds.runL l h1 (s.good hg) (fun off m hm => hs off m (List.mem_cons_of_mem _ hm))
    · exact h1

/-! ### Steps that all went well -/
theorem runL_append (d : Dv) (a b : List St) (h : (runL d a).2 = 0) : runL d (a ++ b) = runL (runL d a).1 b := by
  induction a generalizing d with
  | nil => rfl
  | cons s a ih =>
    rw [List.cons_append]
    by_cases e : s.err d = 0
    · rw [runL_ok _ e] at h ⊢
      rw [runL_ok _ e]
      exact ih _ h
    · rw [runL_no _ e] at h
      exact absurd h e
theorem runL_append_no (d : Dv) (a b : List St) (h : (runL d a).2 ≠ 0) : runL d (a ++ b) = runL d a := by
  induction a generalizing d with
  | nil => exact absurd rfl h
  | cons s a ih =>
    rw [List.cons_append]
    by_cases e : s.err d = 0
    · rw [runL_ok _ e] at h ⊢
      rw [runL_ok _ e]
      exact ih _ h
    · rw [runL_no _ e, runL_no _ e]
theorem runL_split {d : Dv} {a b : List St} (h : (runL d (a ++ b)).2 = 0) : (runL d a).2 = 0 ∧ (runL (runL d a).1 b).2 = 0 ∧ runL d (a ++ b) = runL (runL d a).1 b := by
  by_cases e : (runL d a).2 = 0
  · have := runL_append d a b e
    rw [this] at h
    exact ⟨e, h, this⟩
  · rw [runL_append_no d a b e] at h
    exact absurd h e
/-- The words behind Stores that all went well. -/
theorem sts_word {off : Int} : ∀ (l : List Nat) (i : Nat) {d : Dv}, d.Good → (∀ n ∈ l, n < 2 ^ 64) → (runL d (sts off i l)).2 = 0 → ∀ a : Nat, a % 8 = 0 → a < 64 * d.lines.length →
    (∀ k x, l[k]? = some x → (a : Int) = off + 8 * ((i + k : Nat) : Int) → (runL d (sts off i l)).1.word a = x) ∧ ((∀ k, k < l.length → (a : Int) ≠ off + 8 * ((i + k : Nat) : Int)) → (runL d (sts off i l)).1.word a = d.word a)
  | [], _, _, _, _, _, _, _, _ => ⟨fun k x h => by simp at h, fun _ => rfl⟩
  | n :: l, i, d, hg, hn, h, a, ha, hl => by
    have e : (St.store (off + 8 * (i : Int)) n).err d = 0 := by
      by_cases e : (St.store (off + 8 * (i : Int)) n).err d = 0
      · exact e
      · rw [sts, runL_no _ e] at h; exact absurd h e
    have e' : d.err (off + 8 * (i : Int)) 8 = 0 := e
    rw [sts, runL_ok _ e] at h ⊢
    obtain ⟨k1, k2⟩ := sts_word l (i + 1) (d := d.store (off + 8 * (i : Int)) n) (hg.store _ _) (fun m hm => hn m (List.mem_cons_of_mem _ hm)) h a ha (by rw [show (d.store (off + 8 * (i : Int)) n).lines.length = d.lines.length from St.len (.store _ _) d]; exact hl)
    have hw := word_store hg (off + 8 * (i : Int)) n (hn n (by simp)) a ha hl
    refine ⟨fun k x hk hx => ?_, fun hx => ?_⟩
    · cases k with
      | zero =>
        obtain rfl : n = x := by simpa using hk
        show (runL (d.store _ _) _).1.word a = _
        rw [k2 (fun k _ => by rw [hx]; omega), hw, if_pos ⟨e', by rw [hx]; omega⟩]
      | succ k => exact k1 k x (by simpa using hk) (by rw [hx]; omega)
    · show (runL (d.store _ _) _).1.word a = _
      rw [k2 (fun k hk => by have := hx (k + 1) (by simp; omega); rw [show i + 1 + k = i + (k + 1) by omega]; exact this), hw, if_neg (fun h => hx 0 (by simp) (by rw [Nat.add_zero]; exact h.2.symm))]
/-- Flushes that all went well: the lines that they name are marked, and nothing else is changed. -/
theorem fls_marks {off : Int} : ∀ (k i : Nat) {d : Dv}, (runL d (fls off i k)).2 = 0 → ∀ j, j < d.lines.length →
    ((runL d (fls off i k)).1.at j).now = (d.at j).now ∧ ((runL d (fls off i k)).1.at j).over = (d.at j).over ∧
      (((d.at j).mark = (d.at j).over.length ∨ ∃ t, t < k ∧ (i + t = 0 ∨ (off + 8 * ((i + t : Nat) : Int)) % 64 = 0) ∧ (off + 8 * ((i + t : Nat) : Int)).toNat / 64 = j) → ((runL d (fls off i k)).1.at j).mark = (d.at j).over.length)
  | 0, _, d, _, j, _ => ⟨rfl, rfl, fun h => by rcases h with h | ⟨t, ht, _⟩; exact h; omega⟩
  | k + 1, i, d, h, j, hj => by
    rw [fls] at h ⊢
    by_cases hc : i = 0 ∨ (off + 8 * (i : Int)) % 64 = 0
    · rw [if_pos hc] at h ⊢
      have e : (St.flush (off + 8 * (i : Int))).err d = 0 := by
        by_cases e : (St.flush (off + 8 * (i : Int))).err d = 0
        · exact e
        · rw [runL_no _ e] at h; exact absurd h e
      have e' : d.err (off + 8 * (i : Int)) 1 = 0 := e
      rw [runL_ok _ e] at h ⊢
      have hd : (St.flush (off + 8 * (i : Int))).run d = (d.line ((off + 8 * (i : Int)).toNat / 64) Ln.flush).done := Dv.flush_ok e'
      have hlen : ((St.flush (off + 8 * (i : Int))).run d).lines.length = d.lines.length := St.len _ d
      obtain ⟨m1, m2, m3⟩ := fls_marks k (i + 1) h j (by rw [hlen]; exact hj)
      have hat : ((St.flush (off + 8 * (i : Int))).run d).at j = if (off + 8 * (i : Int)).toNat / 64 = j then (d.at j).flush else d.at j := by rw [hd, line_at _ _ _ _ hj]
      rw [hat] at m1 m2 m3
      by_cases hjj : (off + 8 * (i : Int)).toNat / 64 = j
      · rw [if_pos hjj] at m1 m2 m3
        exact ⟨m1, m2, fun _ => m3 (.inl rfl)⟩
      · rw [if_neg hjj] at m1 m2 m3
        refine ⟨m1, m2, fun hh => m3 ?_⟩
        rcases hh with hh | ⟨t, h1, h2, h3⟩
        · exact .inl hh
        · cases t with
          | zero => exact absurd h3 hjj
          | succ t => exact .inr ⟨t, by omega, by rw [show i + 1 + t = i + (t + 1) by omega]; exact h2, by rw [show i + 1 + t = i + (t + 1) by omega]; exact h3⟩
    · rw [if_neg hc] at h ⊢
      obtain ⟨m1, m2, m3⟩ := fls_marks k (i + 1) h j hj
      refine ⟨m1, m2, fun hh => m3 ?_⟩
      rcases hh with hh | ⟨t, h1, h2, h3⟩
      · exact .inl hh
      · cases t with
        | zero => exact absurd h2 (by rw [Nat.add_zero]; exact hc)
        | succ t => exact .inr ⟨t, by omega, by rw [show i + 1 + t = i + (t + 1) by omega]; exact h2, by rw [show i + 1 + t = i + (t + 1) by omega]; exact h3⟩
/-- The line of each word is flushed by one of them. -/
theorem fls_line {off : Int} (h0 : 0 ≤ off) (h8 : off % 8 = 0) (k : Nat) : ∃ t, t ≤ k ∧ (t = 0 ∨ (off + 8 * (t : Int)) % 64 = 0) ∧ (off + 8 * (t : Int)).toNat / 64 = (off + 8 * (k : Int)).toNat / 64 := by
  induction k with
  | zero => exact ⟨0, Nat.le_refl _, .inl rfl, rfl⟩
  | succ k ih =>
    by_cases hc : (off + 8 * ((k + 1 : Nat) : Int)) % 64 = 0
    · exact ⟨k + 1, Nat.le_refl _, .inr hc, rfl⟩
    · obtain ⟨t, h1, h2, h3⟩ := ih
      exact ⟨t, by omega, h2, by rw [h3]; omega⟩
/-- What PutAll leaves that answers OK: these words, durable; all other words as they were. -/
theorem puts_done {off : Int} {l : List Nat} {d : Dv} (hg : d.Good) (h0 : 0 ≤ off) (h8 : off % 8 = 0) (hl : off + 8 * (l.length : Int) ≤ 64 * (d.lines.length : Int)) (hn : ∀ n ∈ l, n < 2 ^ 64) (h : (runL d (puts off l)).2 = 0) :
    (∀ (k x : Nat), l[k]? = some x → (runL d (puts off l)).1.word (off + 8 * (k : Int)).toNat = x ∧ ((runL d (puts off l)).1.at ((off + 8 * (k : Int)).toNat / 64)).over = []) ∧
    (∀ a : Nat, a % 8 = 0 → a < 64 * d.lines.length → (∀ k, k < l.length → (a : Int) ≠ off + 8 * (k : Int)) → (runL d (puts off l)).1.word a = d.word a) := by
  unfold puts at h ⊢
  obtain ⟨h1, h2, h3⟩ := runL_split h
  rw [h3]
  obtain ⟨h4, h5, h6⟩ := runL_split h1
  rw [h6] at h1 h2 ⊢
  have g1 := runL_good (sts off 0 l) hg
  have len1 := runL_len (sts off 0 l) d
  have hw := fun a ha ha2 => sts_word l 0 hg hn h4 a ha ha2
  generalize (runL d (sts off 0 l)).1 = d1 at *
  have len2 := runL_len (fls off 0 l.length) d1
  have hm := fun j hj => fls_marks l.length 0 h5 j hj
  generalize (runL d1 (fls off 0 l.length)).1 = d2 at *
  have e : d2.state = 0 := by
    by_cases e : St.err d2 .fence = 0
    · exact e
    · rw [runL_no _ e] at h2; exact absurd h2 e
  have e2 : d2.left ≠ 0 := by
    intro hl; unfold Dv.state at e; rw [if_pos hl] at e; omega
  have hr : (runL d2 [.fence]).1 = d2.settle.done := by
    have e' : St.err d2 .fence = 0 := e
    rw [runL_ok _ e']
    show d2.fence = _
    unfold Dv.fence; rw [if_neg e2]
  rw [hr]
  have hword : ∀ a, a < 64 * d.lines.length → d2.settle.done.word a = d1.word a := by
    intro a ha
    unfold Dv.word
    rw [settle_at _ _ (by omega), Ln.get_eq, Ln.get_eq]
    show M.gv (d2.at _).now _ _ = _
    rw [(hm (a / 64) (by omega)).1]
  refine ⟨fun k x hk => ?_, fun a ha ha2 hx => ?_⟩
  · have hkl := (List.getElem?_eq_some_iff.1 hk).1
    refine ⟨?_, ?_⟩
    · rw [hword _ (by omega)]
      exact (hw _ (by omega) (by omega)).1 k x hk (by rw [Nat.zero_add]; omega)
    · have hj : (off + 8 * (k : Int)).toNat / 64 < d1.lines.length := by omega
      rw [settle_at _ _ (by omega)]
      obtain ⟨_, m2, m3⟩ := hm _ hj
      obtain ⟨t, t1, t2, t3⟩ := fls_line h0 h8 k
      have hmk := m3 (.inr ⟨t, by omega, by rw [Nat.zero_add]; exact t2, by rw [Nat.zero_add]; exact t3⟩)
      show (d2.at _).over.drop (d2.at _).mark = []
      rw [m2, hmk, List.drop_length]
  · rw [hword a ha2]
    exact (hw a ha ha2).2 (fun k hk => by rw [Nat.zero_add]; exact hx k hk)

/-! ### When steps all go well -/
def St.fits (n : Nat) : St → Prop
  | .store off _ => 0 ≤ off ∧ off < 64 * (n : Int) ∧ off % 8 = 0
  | .flush off => 0 ≤ off ∧ off < 64 * (n : Int)
  | .fence => True
theorem St.goes {n : Nat} {s : St} (h : s.fits n) {d : Dv} (hl : d.lines.length = n) (hd : d.left ≠ 0) : s.err d = 0 ∧ (s.run d).left = (if 0 < d.left then d.left - 1 else d.left) ∧ (s.run d).steps = d.steps + 1 := by
  cases s with
  | store off m =>
    have e : d.err off 8 = 0 := by unfold Dv.err; rw [if_neg hd, if_pos ⟨h.1, by rw [hl]; exact h.2.1, h.2.2⟩]
    refine ⟨e, ?_, ?_⟩
    · show (d.store off m).left = _; rw [Dv.store_ok m e]; rfl
    · show (d.store off m).steps = _; rw [Dv.store_ok m e]; rfl
  | flush off =>
    have e : d.err off 1 = 0 := by unfold Dv.err; rw [if_neg hd, if_pos ⟨h.1, by rw [hl]; exact h.2, by omega⟩]
    refine ⟨e, ?_, ?_⟩
    · show (d.flush off).left = _; rw [Dv.flush_ok e]; rfl
    · show (d.flush off).steps = _; rw [Dv.flush_ok e]; rfl
  | fence =>
    refine ⟨?_, ?_, ?_⟩
    · show d.state = 0; unfold Dv.state; rw [if_neg hd]
    · show d.fence.left = _; unfold Dv.fence; rw [if_neg hd]; rfl
    · show d.fence.steps = _; unfold Dv.fence; rw [if_neg hd]; rfl
theorem runL_goes {n : Nat} : ∀ (l : List St) {d : Dv}, (∀ s ∈ l, s.fits n) → d.lines.length = n → (d.left < 0 ∨ (l.length : Int) ≤ d.left) →
    (runL d l).2 = 0 ∧ (runL d l).1.left = (if d.left < 0 then d.left else d.left - l.length) ∧ (runL d l).1.steps = d.steps + l.length
  | [], d, _, _, hd => by
    refine ⟨rfl, ?_, rfl⟩
    show d.left = _
    split
    · rfl
    · simp
  | s :: l, d, hs, hl, hd => by
    rw [List.length_cons] at hd
    obtain ⟨e, h1, h2⟩ := St.goes (hs s (by simp)) hl (by omega)
    rw [runL_ok _ e]
    obtain ⟨k1, k2, k3⟩ := runL_goes l (d := s.run d) (fun x hx => hs x (List.mem_cons_of_mem _ hx)) (by rw [s.len]; exact hl) (by rw [h1]; split <;> omega)
    refine ⟨k1, ?_, by rw [k3, h2, List.length_cons]; omega⟩
    rw [k2, h1, List.length_cons]
    by_cases hn : d.left < 0
    · rw [if_neg (show ¬ 0 < d.left by omega), if_pos hn, if_pos hn]
    · rw [if_pos (show 0 < d.left by omega), if_neg (by omega), if_neg hn]; omega
/-- What an error of steps that fit tells: the device is down. -/
theorem runL_down {n : Nat} : ∀ (l : List St) {d : Dv}, (∀ s ∈ l, s.fits n) → d.lines.length = n → (runL d l).2 = 0 ∨ (runL d l).2 = 12
  | [], _, _, _ => .inl rfl
  | s :: l, d, hs, hl => by
    by_cases hd : d.left = 0
    · right
      have e : s.err d = 12 := by
        cases s with
        | store off m => show d.err off 8 = 12; unfold Dv.err; rw [if_pos hd]
        | flush off => show d.err off 1 = 12; unfold Dv.err; rw [if_pos hd]
        | fence => show d.state = 12; unfold Dv.state; rw [if_pos hd]
      rw [runL_no _ (by rw [e]; decide)]; exact e
    · obtain ⟨e, _, _⟩ := St.goes (hs s (by simp)) hl hd
      rw [runL_ok _ e]
      exact runL_down l (fun x hx => hs x (List.mem_cons_of_mem _ hx)) (by rw [s.len]; exact hl)
theorem sts_fits {n : Nat} {off : Int} (h0 : 0 ≤ off) (h8 : off % 8 = 0) : ∀ (i : Nat) (l : List Nat), off + 8 * ((i + l.length : Nat) : Int) ≤ 64 * (n : Int) → ∀ s ∈ sts off i l, s.fits n
  | _, [], _, s, h => by cases h
  | i, x :: l, hl, s, h => by
    rw [List.length_cons] at hl
    rcases List.mem_cons.1 h with rfl | h
    · show _ ∧ _ ∧ _; omega
    · exact sts_fits h0 h8 (i + 1) l (by omega) s h
theorem fls_fits {n : Nat} {off : Int} (h0 : 0 ≤ off) (h8 : off % 8 = 0) : ∀ (i k : Nat), off + 8 * ((i + k : Nat) : Int) ≤ 64 * (n : Int) → ∀ s ∈ fls off i k, s.fits n
  | _, 0, _, s, h => by cases h
  | i, k + 1, hl, s, h => by
    rw [fls] at h
    split at h
    · rcases List.mem_cons.1 h with rfl | h
      · show _ ∧ _; omega
      · exact fls_fits h0 h8 (i + 1) k (by omega) s h
    · exact fls_fits h0 h8 (i + 1) k (by omega) s h
theorem puts_fits {n : Nat} {off : Int} {l : List Nat} (h0 : 0 ≤ off) (h8 : off % 8 = 0) (hl : off + 8 * (l.length : Int) ≤ 64 * (n : Int)) : ∀ s ∈ puts off l, s.fits n := by
  intro s hs
  rcases List.mem_append.1 hs with hs | hs
  · rcases List.mem_append.1 hs with hs | hs
    · exact sts_fits h0 h8 0 l (by rw [Nat.zero_add]; exact hl) s hs
    · exact fls_fits h0 h8 0 l.length (by rw [Nat.zero_add]; exact hl) s hs
  · obtain rfl := List.mem_singleton.1 hs
    trivial
theorem puts_length (off : Int) (l : List Nat) : (puts off l).length ≤ 2 * l.length + 1 := by
  have := fls_length off 0 l.length
  simp only [puts, List.length_append, sts_length, List.length_singleton]
  omega
theorem room_zero {d : Dv} {off many : Int} : d.room off many = 0 ↔ 0 ≤ off ∧ off % 8 = 0 ∧ 0 ≤ many ∧ off + 8 * many ≤ 64 * (d.lines.length : Int) := by
  unfold Dv.room
  by_cases hc : 0 ≤ off ∧ off % 8 = 0 ∧ 0 ≤ many ∧ off + 8 * many ≤ 64 * (d.lines.length : Int)
  · rw [if_pos hc]; exact ⟨fun _ => hc, fun _ => rfl⟩
  · rw [if_neg hc]; exact ⟨fun h => by omega, fun h => absurd h hc⟩
theorem newDv_word (n a : Nat) : (newDv n).word a = 0 := by
  have h : (newDv n).at (a / 64) = zeroLn := by
    show ((List.replicate n zeroLn)[a / 64]?).getD zeroLn = zeroLn
    rw [List.getElem?_replicate]; split <;> rfl
  unfold Dv.word
  rw [h, Ln.get_eq]
  refine M.gv_of 0 _ _ (fun i _ => ?_) (by decide)
  show (List.replicate 64 (0 : Int)).getD _ 0 = _
  rw [List.getD_eq_getElem?_getD, List.getElem?_replicate]
  split <;> simp
theorem newDv_len (n : Nat) : (newDv n).lines.length = n := by simp [newDv]
theorem newDv_holds {Q : Nat → Nat → Prop} (n : Nat) (hQ : ∀ a, Q a 0) : Holds Q (newDv n) := by
  intro j hj
  have h : (newDv n).at j = zeroLn := by
    show ((List.replicate n zeroLn)[j]?).getD zeroLn = zeroLn
    rw [List.getElem?_replicate]; split <;> rfl
  refine ⟨fun a _ ha2 => ?_, fun c hc => by rw [h] at hc; cases hc⟩
  have hw := newDv_word n (64 * j + a)
  unfold Dv.word at hw
  rw [show (64 * j + a) / 64 = j by omega, show (64 * j + a) % 64 = a by omega] at hw
  rw [hw]; exact hQ _
theorem words_eq {d : Dv} {off : Int} {k : Nat} (hr : d.room off k = 0) (hl : d.left ≠ 0) (i : Nat) (hi : i < k) : (d.words off k)[i]? = some (d.word (off + 8 * (i : Int)).toNat) := by
  rw [words_get d off k i hi, load_word (room_err hr hl i hi)]
/-- What was put on a new device is got, in pieces. -/
theorem back_put {off : Int} {l : List Nat} (h0 : 0 ≤ off) (h8 : off % 8 = 0) (hl : off + 8 * (l.length : Int) ≤ 512) (hn : ∀ n ∈ l, n < 2 ^ 64) :
    ((newDv 8).putAll off l).2 = 0 ∧ ((newDv 8).putAll off l).1.left ≠ 0 ∧ ((newDv 8).putAll off l).1.lines.length = 8 ∧ ∀ k m : Nat, k + m ≤ l.length → ((newDv 8).putAll off l).1.room (off + 8 * (k : Int)) m = 0 ∧ ((newDv 8).putAll off l).1.words (off + 8 * (k : Int)) m = (l.drop k).take m := by
  have hr : (newDv 8).room off l.length = 0 := room_zero.2 ⟨h0, h8, by omega, by rw [newDv_len]; omega⟩
  have e : (newDv 8).putAll off l = runL (newDv 8) (puts off l) := if_pos hr
  have hlen := newDv_len 8
  have hg := newDv_good (n := 8) (by decide) (by decide)
  obtain ⟨g1, g2, _⟩ := runL_goes (n := 8) (puts off l) (d := newDv 8) (puts_fits h0 h8 (by omega)) hlen (.inl (by decide))
  have g3 := runL_len (puts off l) (newDv 8)
  rw [hlen] at g3
  obtain ⟨p1, _⟩ := puts_done hg h0 h8 (by rw [hlen]; omega) hn g1
  rw [e]
  generalize (runL (newDv 8) (puts off l)).1 = d at *
  have hleft : d.left ≠ 0 := by rw [g2, if_pos (by decide)]; decide
  refine ⟨g1, hleft, g3, fun k m hkm => ?_⟩
  have hr2 : d.room (off + 8 * (k : Int)) m = 0 := room_zero.2 ⟨by omega, by omega, by omega, by rw [g3]; omega⟩
  refine ⟨hr2, ?_⟩
  apply List.ext_getElem?
  intro i
  by_cases hi : i < m
  · rw [words_eq hr2 hleft i hi, List.getElem?_take_of_lt hi, List.getElem?_drop]
    have hx : l[k + i]? = some (l[k + i]'(by omega)) := List.getElem?_eq_getElem (by omega)
    rw [hx, ← (p1 (k + i) _ hx).1]
    congr 2
    omega
  · rw [List.getElem?_eq_none (by rw [words_length]; omega), List.getElem?_eq_none (by rw [List.length_take]; omega)]
theorem sts_mem {off off' : Int} {m : Nat} : ∀ (i : Nat) (l : List Nat), St.store off' m ∈ sts off i l → ∃ k, l[k]? = some m ∧ off' = off + 8 * ((i + k : Nat) : Int)
  | _, [], h => by cases h
  | i, n :: l, h => by
    rw [sts] at h
    rcases List.mem_cons.1 h with h | h
    · simp only [St.store.injEq] at h
      exact ⟨0, by simp [h.2], by rw [Nat.add_zero]; exact h.1⟩
    · obtain ⟨k, h1, h2⟩ := sts_mem (i + 1) l h
      exact ⟨k + 1, by simpa using h1, by rw [h2]; omega⟩
theorem fls_mem {off off' : Int} {m : Nat} : ∀ (i k : Nat), St.store off' m ∈ fls off i k → False
  | _, 0, h => by cases h
  | i, k + 1, h => by
    rw [fls] at h
    split at h
    · rcases List.mem_cons.1 h with h | h
      · cases h
      · exact fls_mem (i + 1) k h
    · exact fls_mem (i + 1) k h
theorem puts_mem {off off' : Int} {m : Nat} {l : List Nat} (h : St.store off' m ∈ puts off l) : ∃ k : Nat, l[k]? = some m ∧ off' = off + 8 * (k : Int) := by
  rcases List.mem_append.1 h with h | h
  · rcases List.mem_append.1 h with h | h
    · obtain ⟨k, h1, h2⟩ := sts_mem 0 l h
      exact ⟨k, h1, by rw [h2, Nat.zero_add]⟩
    · exact (fls_mem 0 l.length h).elim
  · cases List.mem_singleton.1 h
theorem stop_len (d : Dv) (k : Int) : (d.stop k).lines.length = d.lines.length := by unfold Dv.stop; split <;> rfl
theorem stop_steps (d : Dv) (k : Int) : (d.stop k).steps = d.steps := by unfold Dv.stop; split <;> rfl
/-- The statement's own claim of SureDurable. -/
theorem sure_durable {off : Int} {l : List Nat} (h0 : 0 ≤ off) (h8 : off % 8 = 0) (hl : off + 8 * (l.length : Int) ≤ 512) (hn : ∀ n ∈ l, n < 2 ^ 64) (after : Nat) (ha : after ≤ 255) (ps : List Int) :
    (((newDv 8).stop after).putAll off l).1.steps ≤ 2 * l.length + 1 ∧ ((((newDv 8).stop after).putAll off l).2 = 0 ∨ (((newDv 8).stop after).putAll off l).2 = 12) ∧
    ((((newDv 8).stop after).putAll off l).1.crash ps).room off l.length = 0 ∧ ((((newDv 8).stop after).putAll off l).1.crash ps).left ≠ 0 ∧
    ∀ i x : Nat, l[i]? = some x → ∃ y, (((((newDv 8).stop after).putAll off l).1.crash ps).words off l.length)[i]? = some y ∧ (y = x ∨ y = 0) ∧ ((((newDv 8).stop after).putAll off l).2 = 0 → y = x) := by
  have hg := (newDv_good (n := 8) (by decide) (by decide)).stop (after : Int) (by omega)
  have hlen : ((newDv 8).stop after).lines.length = 8 := by rw [stop_len, newDv_len]
  have hst : ((newDv 8).stop after).steps = 0 := stop_steps _ _
  have hr : ((newDv 8).stop after).room off l.length = 0 := room_zero.2 ⟨h0, h8, by omega, by rw [hlen]; omega⟩
  have e : ((newDv 8).stop after).putAll off l = runL ((newDv 8).stop after) (puts off l) := if_pos hr
  have hQ0 : Holds (fun a x => x = 0 ∨ ∃ i : Nat, l[i]? = some x ∧ (a : Int) = off + 8 * (i : Int)) ((newDv 8).stop after) := (newDv_holds 8 (fun a => .inl rfl)).stop _
  rw [e]
  generalize (newDv 8).stop after = d at *
  have hQ := hQ0.runL (puts off l) hg (fun off' m hm => by
    obtain ⟨k, h1, h2⟩ := puts_mem hm
    exact ⟨hn m (List.mem_of_getElem? h1), fun a ha => .inr ⟨k, h1, by omega⟩⟩)
  have g3 := runL_len (puts off l) d
  rw [hlen] at g3
  have g4 := runL_good (puts off l) hg
  have g5 := runL_steps (puts off l) d
  have g6 := puts_length off l
  have hdn := runL_down (n := 8) (puts off l) (d := d) (puts_fits h0 h8 (by omega)) hlen
  have hok := fun h => (puts_done hg h0 h8 (by rw [hlen]; omega) hn h).1
  generalize runL d (puts off l) = r at *
  obtain ⟨d1, er⟩ := r
  dsimp only at *
  have hr2 : (d1.crash ps).room off l.length = 0 := room_zero.2 ⟨h0, h8, by omega, by rw [crash_len, g3]; omega⟩
  have hl2 : (d1.crash ps).left ≠ 0 := by show (-1 : Int) ≠ 0; decide
  refine ⟨by omega, hdn, hr2, hl2, fun i x hx => ?_⟩
  have hi := (List.getElem?_eq_some_iff.1 hx).1
  refine ⟨_, words_eq hr2 hl2 i hi, ?_, fun he => ?_⟩
  · have hw := (hQ.crash g4 ps).word (off + 8 * (i : Int)).toNat (by omega) (by rw [crash_len, g3]; omega)
    rcases hw with hw | ⟨k, h1, h2⟩
    · exact .inr hw
    · left
      have hk : k = i := by omega
      rw [hk, hx] at h1
      exact (Option.some.inj h1).symm
  · obtain ⟨p1, p2⟩ := hok he i x hx
    rw [crash_word ps _ (by rw [g3]; omega) p2, p1]

/-! ### One word, and none -/
theorem alone_one {d : Dv} {off : Int} (n : Nat) (h0 : 0 ≤ off) (h8 : off % 8 = 0) (hl : off + 8 ≤ 64 * (d.lines.length : Int)) : d.putAll off [n] = d.put off n := by
  have hr : d.room off ([n].length : Nat) = 0 := room_zero.2 ⟨h0, h8, by simp, by simp; omega⟩
  have e : puts off [n] = [.store off n, .flush off, .fence] := by
    simp [puts, sts, fls]
  unfold Dv.putAll Dv.put
  rw [if_pos hr, e]
theorem alone_none {d : Dv} {off : Int} (h0 : 0 ≤ off) (h8 : off % 8 = 0) (hl : off ≤ 64 * (d.lines.length : Int)) : d.putAll off [] = (d.fence, d.state) := by
  have hr : d.room off (([] : List Nat).length : Nat) = 0 := room_zero.2 ⟨h0, h8, by simp, by simp; omega⟩
  unfold Dv.putAll
  rw [if_pos hr]
  show runL d [.fence] = _
  by_cases e : St.err d .fence = 0
  · rw [runL_ok _ e]
    have e' : d.state = 0 := e
    rw [e']; rfl
  · rw [runL_no _ e]; rfl
theorem alone_wrong {d : Dv} {off : Int} (n : Nat) (h : ¬ (0 ≤ off ∧ off % 8 = 0 ∧ off + 8 ≤ 64 * (d.lines.length : Int))) : (d.put off n).2 ≠ 0 ∧ (d.putAll off [n]).2 = 4 := by
  have he : d.err off 8 ≠ 0 := by
    intro he
    obtain ⟨_, e2, e3, e4⟩ := err_zero he
    exact h ⟨e2, e4, by omega⟩
  refine ⟨?_, ?_⟩
  · have e' : ¬ (St.store off n).err d = 0 := he
    unfold Dv.put
    rw [runL_no _ e']
    exact he
  · unfold Dv.putAll
    rw [if_neg (fun hr => h (by obtain ⟨a, b, _, c⟩ := room_zero.1 hr; simp at c; exact ⟨a, b, by omega⟩))]
end Go.Proofs.YtaceogpdjbikiaaGreatDoor.V
namespace Go.Proofs.YtaceogpdjbikiaaGreatDoor.V

open Go.Proofs.YtaceogpdjbikiaaGreatDoor

theorem flat_byte : ∀ (ls : List Ln), (∀ l ∈ ls, l.Good) → ∀ i, i < 64 * ls.length → (ls.flatMap (·.now)).getD i 0 = ((ls[i / 64]?.getD zeroLn).now).getD (i % 64) 0
  | [], _, i, h => by simp at h
  | l :: ls, hg, i, h => by
    have hl := (hg l (by simp)).len
    rw [List.flatMap_cons]
    by_cases hi : i < 64
    · rw [List.getD_eq_getElem?_getD, List.getElem?_append_left (by omega), Nat.div_eq_of_lt hi, Nat.mod_eq_of_lt hi, List.getD_eq_getElem?_getD]
      rfl
    · have e1 : i / 64 = (i - 64) / 64 + 1 := by omega
      have e2 : i % 64 = (i - 64) % 64 := by omega
      rw [List.getD_eq_getElem?_getD, List.getElem?_append_right (by omega), hl, e1, e2, List.getElem?_cons_succ, ← flat_byte ls (fun x hx => hg x (List.mem_cons_of_mem _ hx)) (i - 64) (by simp at h; omega), List.getD_eq_getElem?_getD]
theorem gv_byte {zs : List Int} (hz : ∀ z ∈ zs, 0 ≤ z ∧ z ≤ 255) (a j k : Nat) (hj : j < k) : M.gv zs a k / 256 ^ j % 256 = (zs.getD (a + j) 0).toNat := by
  induction k with
  | zero => omega
  | succ k ih =>
    have hr := M.getD_range hz (a + k)
    show (M.gv zs a k + (zs.getD (a + k) 0).toNat * 256 ^ k) / 256 ^ j % 256 = _
    by_cases e : j = k
    · subst e
      rw [Nat.add_mul_div_right _ _ (Nat.pow_pos (by decide)), Nat.div_eq_of_lt (M.gv_lt hz a j), Nat.zero_add]
      omega
    · have hjk : j < k := by omega
      have e1 : 256 ^ k = 256 * 256 ^ (k - j - 1) * 256 ^ j := by
        rw [show 256 * 256 ^ (k - j - 1) = 256 ^ (k - j - 1 + 1) by rw [Nat.pow_succ]; omega, ← Nat.pow_add]; congr 1; omega
      rw [e1, ← Nat.mul_assoc, Nat.add_mul_div_right _ _ (Nat.pow_pos (by decide)), Nat.mul_left_comm, Nat.add_mul_mod_self_left]
      exact ih hjk
/-- A byte of a device is that of its word. -/
theorem image_byte {d : Dv} (hg : d.Good) (i : Nat) (hi : i < 64 * d.lines.length) : d.image.getD i 0 = ((d.word (8 * (i / 8)) / 256 ^ (i % 8) % 256 : Nat) : Int) := by
  have h1 : d.image.getD i 0 = ((d.at (i / 64)).now).getD (i % 64) 0 := flat_byte d.lines hg.lines i hi
  have h2 := gv_byte (hg.at (i / 64)).byte (8 * (i / 8) % 64) (i % 8) 8 (by omega)
  have hr := M.getD_range (hg.at (i / 64)).byte (i % 64)
  unfold Dv.word
  rw [h1, Ln.get_eq, show 8 * (i / 8) / 64 = i / 64 by omega, h2, show 8 * (i / 8) % 64 + i % 8 = i % 64 by omega]
  omega
end Go.Proofs.YtaceogpdjbikiaaGreatDoor.V
