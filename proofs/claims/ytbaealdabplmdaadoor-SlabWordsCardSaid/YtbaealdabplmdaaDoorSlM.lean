
/- Plain mathematics of layer 6: a slab's word as a class and what is taken; lists of bits, how many. Nothing of the program; no condition but the ranges named. -/
import Derived.Test.YtbaealdabplmdaaDoorMath

namespace Go.Proofs.YtbaealdabplmdaaDoor.S

def blk (c : Int) : Nat := if c = 1 then 16 else if c = 2 then 4 else 0
def lns (c : Int) : Nat := if c = 1 then 1 else if c = 2 then 4 else 0
/-- May a slab have that word? -/
def rgt (n : Nat) : Bool := decide (n = 0 ∨ 65536 < n ∧ n < 131072 ∨ 131072 < n ∧ n < 131088)
/-- Its class, and the bits of what is taken. -/
def cls (n : Nat) : Nat := if rgt n then n / 65536 else 0
def tkn (n : Nat) : Nat := if rgt n then n % 65536 else 0
def has (n : Nat) (a : Int) : Bool := decide (0 ≤ a) && (tkn n).testBit a.toNat
def sui (n : Nat) (c : Int) : Bool := decide ((c = 1 ∨ c = 2) ∧ (n = 0 ∨ (cls n : Int) = c))
def nxt (n : Nat) (c : Int) : Int := if sui n c then M.lowS n (blk c) else -1
def tak (n : Nat) (c a : Int) : Bool := sui n c && (decide (0 ≤ a ∧ a < (blk c : Int)) && !has n a)
def tkW (n : Nat) (c a : Int) : Nat := if tak n c a then c.toNat * 65536 + (tkn n + 2 ^ a.toNat) else n
def drW (n : Nat) (a : Int) : Nat := if has n a then (if tkn n = 2 ^ a.toNat then 0 else n - 2 ^ a.toNat) else n
/-- How many bits are set below a place, and which. -/
def pc (t : Nat) : Nat → Nat
  | 0 => 0
  | k + 1 => pc t k + (if t.testBit k then 1 else 0)
def ls (t : Nat) : Nat → List Int
  | 0 => []
  | k + 1 => ls t k ++ (if t.testBit k then [(k : Int)] else [])

theorem shape (n : Nat) : (rgt n = false ∧ n ≠ 0 ∧ cls n = 0 ∧ tkn n = 0) ∨ (rgt n = true ∧ n = cls n * 65536 + tkn n ∧ (cls n = 0 ∧ tkn n = 0 ∨ cls n = 1 ∧ 0 < tkn n ∧ tkn n < 65536 ∨ cls n = 2 ∧ 0 < tkn n ∧ tkn n < 16)) := by
  cases h : rgt n with
  | false =>
    refine .inl ⟨rfl, ?_, by simp [cls, h], by simp [tkn, h]⟩
    rintro rfl
    revert h; decide
  | true =>
    right
    have h2 := of_decide_eq_true h
    simp only [cls, tkn, h, if_true, true_and]
    omega
/-- A word made of a class and what is taken. -/
theorem made {c t : Nat} (h : c = 0 ∧ t = 0 ∨ c = 1 ∧ 0 < t ∧ t < 65536 ∨ c = 2 ∧ 0 < t ∧ t < 16) : rgt (c * 65536 + t) = true ∧ cls (c * 65536 + t) = c ∧ tkn (c * 65536 + t) = t := by
  have h1 : rgt (c * 65536 + t) = true := decide_eq_true (by omega)
  simp only [cls, tkn, h1, if_true, true_and]
  omega
theorem tkn_lt (n : Nat) : tkn n < 65536 := by rcases shape n with ⟨_, _, _, h⟩ | ⟨_, _, h⟩ <;> omega
theorem cls_le (n : Nat) : cls n ≤ 2 := by rcases shape n with ⟨_, _, h, _⟩ | ⟨_, _, h⟩ <;> omega
theorem tkn_cls (n : Nat) : tkn n < 2 ^ blk (cls n) := by
  rcases shape n with ⟨_, _, h1, h2⟩ | ⟨_, _, ⟨h1, h2⟩ | ⟨h1, h2, h3⟩ | ⟨h1, h2, h3⟩⟩
  · rw [h1, h2]; decide
  · rw [h1, h2]; decide
  · rw [h1]; exact h3
  · rw [h1]; exact h3
theorem blk_le (c : Int) : blk c ≤ 16 := by unfold blk; split; omega; split <;> omega
theorem tkn_high {n i : Nat} (h : blk (cls n) ≤ i) : (tkn n).testBit i = false :=
  Nat.testBit_lt_two_pow (Nat.lt_of_lt_of_le (tkn_cls n) (Nat.pow_le_pow_right (by decide) h))
theorem tkn_zero {n : Nat} (h : tkn n = 0) (hr : rgt n = true) : n = 0 := by
  rcases shape n with ⟨h1, _⟩ | ⟨_, h1, h2⟩
  · rw [h1] at hr; cases hr
  · omega
theorem bit_of {n i : Nat} (h : rgt n = true) (hi : i < 16) : n.testBit i = (tkn n).testBit i := by
  have e : tkn n = n % 2 ^ 16 := by simp [tkn, h]
  rw [e, Nat.testBit_mod_two_pow, decide_eq_true hi, Bool.true_and]
theorem has_lt {n : Nat} {a : Int} (h : has n a = true) : 0 ≤ a ∧ a < (blk (cls n) : Int) := by
  unfold has at h
  rw [Bool.and_eq_true, decide_eq_true_eq] at h
  refine ⟨h.1, ?_⟩
  apply Int.not_le.1
  intro h2
  have := tkn_high (n := n) (i := a.toNat) (by omega)
  rw [this] at h
  cases h.2
theorem has_rgt {n : Nat} {a : Int} (h : has n a = true) : rgt n = true := by
  rcases shape n with ⟨_, _, h1, h2⟩ | ⟨h1, _⟩
  · unfold has at h
    rw [h2, Nat.zero_testBit, Bool.and_false] at h
    cases h
  · exact h1
theorem sui_rgt {n : Nat} {c : Int} (h : sui n c = true) : rgt n = true := by
  have h := of_decide_eq_true h
  rcases shape n with ⟨_, h1, h2, _⟩ | ⟨h1, _⟩
  · omega
  · exact h1
theorem sui_blk {n : Nat} {c : Int} (h : sui n c = true) : (c = 1 ∨ c = 2) ∧ (n = 0 ∨ (cls n : Int) = c) := of_decide_eq_true h
/-- The lowest one that is not taken. -/
theorem nxt_of {n : Nat} {c : Int} (hn : n < 2 ^ 64) (h : sui n c = true) :
    (nxt n c = -1 ∧ ∀ i : Nat, i < blk c → (tkn n).testBit i = true) ∨ ∃ k : Nat, nxt n c = (k : Int) ∧ k < blk c ∧ (tkn n).testBit k = false ∧ ∀ i : Nat, i < k → (tkn n).testBit i = true := by
  obtain ⟨h1, h2, h3⟩ := M.low1_spec n hn
  have hr := sui_rgt h
  have hb := blk_le c
  unfold nxt
  rw [if_pos h]
  unfold M.lowS
  by_cases hk : (M.low1 n : Int) < min (blk c : Int) 64
  · right
    rw [if_pos hk]
    refine ⟨M.low1 n, rfl, by omega, ?_, fun i hi => ?_⟩
    · rw [← bit_of hr (by omega)]; exact h3 (by omega)
    · rw [← bit_of hr (by omega)]; exact h2 i hi
  · left
    rw [if_neg hk]
    exact ⟨rfl, fun i hi => by rw [← bit_of hr (by omega)]; exact h2 i (by omega)⟩
theorem nxt_not {n : Nat} {c : Int} (h : sui n c = false) : nxt n c = -1 := by unfold nxt; rw [h]; rfl

theorem fld_mod (n k : Nat) : M.fld n 0 k = n % 2 ^ k := by unfold M.fld; simp
/-- What Right asks. -/
theorem rgt_code (n : Nat) (hn : n < 2 ^ 64) : rgt n = (decide (n = 0) || (decide (M.fld n 0 16 ≠ 0) && (decide (M.fld (M.fld n 0 16) (blk (M.fld n 16 2)) 16 = 0) && decide (M.fld n 18 64 = 0)))) := by
  have e0 : M.fld n 0 16 = n % 65536 := fld_mod n 16
  have e1 : M.fld n 16 2 = n / 65536 % 4 := rfl
  have e2 : M.fld n 18 64 = n / 262144 := by
    show n / 262144 % 18446744073709551616 = _
    exact Nat.mod_eq_of_lt (by omega)
  rw [e0, e1, e2]
  have h4 : n / 65536 % 4 = 0 ∨ n / 65536 % 4 = 1 ∨ n / 65536 % 4 = 2 ∨ n / 65536 % 4 = 3 := by omega
  have e3 : ∀ t b : Nat, M.fld t b 16 = t / 2 ^ b % 65536 := fun _ _ => rfl
  rw [e3]
  have key : rgt n = true ↔ n = 0 ∨ (n % 65536 ≠ 0 ∧ (n % 65536 / 2 ^ blk ((n / 65536 % 4 : Nat) : Int) % 65536 = 0 ∧ n / 262144 = 0)) := by
    unfold rgt
    rw [decide_eq_true_eq]
    rcases h4 with h | h | h | h
    · rw [h, show (2 : Nat) ^ blk ((0 : Nat) : Int) = 1 by decide]; omega
    · rw [h, show (2 : Nat) ^ blk ((1 : Nat) : Int) = 65536 by decide]; omega
    · rw [h, show (2 : Nat) ^ blk ((2 : Nat) : Int) = 16 by decide]; omega
    · rw [h, show (2 : Nat) ^ blk ((3 : Nat) : Int) = 1 by decide]; omega
  rw [Bool.eq_iff_iff, key]
  simp
theorem cls_code {n : Nat} (h : rgt n = true) : M.fld n 16 2 = cls n := by
  have e1 : M.fld n 16 2 = n / 65536 % 4 := rfl
  rw [e1]
  rcases shape n with ⟨h1, _⟩ | ⟨_, h1, h2⟩
  · rw [h1] at h; cases h
  · omega
theorem fld_bit (n i : Nat) : M.fld n i 1 = if n.testBit i then 1 else 0 := by
  have h := M.bit_iff n i
  show n / 2 ^ i % 2 ^ 1 = _
  split
  · rename_i hb; have := h.2 hb; omega
  · rename_i hb; have : ¬ n / 2 ^ i % 2 = 1 := fun hx => hb (h.1 hx); omega
theorem set_bit (x i : Nat) (hx : x < 2 ^ 64) (hi : i < 64) (hb : x.testBit i = false) : M.wth x i 1 1 = x + 2 ^ i := by
  rw [M.add_bit _ _ hb]
  apply Nat.eq_of_testBit_eq
  intro j
  rw [M.testBit_wth _ _ _ _ _ hx, Nat.testBit_or, Nat.testBit_two_pow]
  by_cases h : j = i
  · subst h
    rw [if_pos (by omega), Nat.sub_self]; simp
  · rw [if_neg (by omega), decide_eq_false (by omega), Bool.or_false]
theorem clear_bit (x i : Nat) (hx : x < 2 ^ 64) (hi : i < 64) (hb : x.testBit i = true) : M.wth x i 1 0 = x - 2 ^ i ∧ 2 ^ i ≤ x := by
  obtain ⟨h1, h2⟩ := M.sub_bit x i hb
  refine ⟨?_, h2⟩
  rw [h1]
  apply Nat.eq_of_testBit_eq
  intro j
  rw [M.testBit_wth _ _ _ _ _ hx, Nat.testBit_xor, Nat.testBit_two_pow]
  by_cases h : j = i
  · subst h
    rw [if_pos (by omega), Nat.sub_self, hb]; simp
  · rw [if_neg (by omega), decide_eq_false (by omega), Bool.xor_false]
theorem four_lt {c i : Nat} (h : c < 4) (hi : 2 ≤ i) : c < 2 ^ i := Nat.lt_of_lt_of_le (m := 2 ^ 2) h (Nat.pow_le_pow_right (by decide) hi)
theorem set_cls (c' c t : Nat) (hc' : c' < 4) (hc : c < 4) (ht : t < 65536) : M.wth (c' * 65536 + t) 16 2 c = c * 65536 + t := by
  have hx : c' * 65536 + t < 2 ^ 64 := by omega
  have e : ∀ d i : Nat, (d * 65536 + t).testBit i = if i < 16 then t.testBit i else d.testBit (i - 16) := by
    intro d i
    rw [show d * 65536 + t = 2 ^ 16 * d + t by omega, Nat.testBit_two_pow_mul_add _ ht]
  apply Nat.eq_of_testBit_eq
  intro i
  rw [M.testBit_wth _ _ _ _ _ hx, e, e]
  by_cases h1 : i < 16
  · rw [if_neg (by omega), if_pos h1]; simp [h1]
  · rw [if_neg h1, if_neg h1]
    by_cases h2 : i < 18
    · rw [if_pos (by omega)]
    · rw [if_neg (by omega)]
      rw [Nat.testBit_lt_two_pow (x := c') (i := i - 16) (four_lt hc' (by omega)),
        Nat.testBit_lt_two_pow (x := c) (i := i - 16) (four_lt hc (by omega))]

theorem two_lt {k b : Nat} (h : k < b) : 2 ^ k < 2 ^ b := Nat.pow_lt_pow_right (by decide) h
/-- One more bit keeps below the same power. -/
theorem add_lt {t k b : Nat} (ht : t < 2 ^ b) (hk : k < b) (hb : t.testBit k = false) : t + 2 ^ k < 2 ^ b := by
  rw [M.add_bit _ _ hb]
  exact Nat.or_lt_two_pow ht (two_lt hk)
/-- What a Take that is one leaves. -/
theorem take_of {n : Nat} {c a : Int} (h : tak n c a = true) : ∃ k : Nat, a = (k : Int) ∧ k < blk c ∧ k < 16 ∧ (c = 1 ∨ c = 2) ∧ (n = 0 ∨ (cls n : Int) = c) ∧ (tkn n).testBit k = false ∧ tkn n + 2 ^ k < 2 ^ blk c ∧
    rgt n = true ∧ tkW n c a = c.toNat * 65536 + (tkn n + 2 ^ k) ∧ rgt (tkW n c a) = true ∧ cls (tkW n c a) = c.toNat ∧ tkn (tkW n c a) = tkn n + 2 ^ k := by
  have h0 := h
  unfold tak at h
  rw [Bool.and_eq_true, Bool.and_eq_true, decide_eq_true_eq] at h
  obtain ⟨hs, ⟨ha0, ha1⟩, hh⟩ := h
  obtain ⟨hc, hcl⟩ := sui_blk hs
  have hr := sui_rgt hs
  obtain ⟨k, rfl⟩ := Int.eq_ofNat_of_zero_le ha0
  have hb := blk_le c
  have hbit : (tkn n).testBit k = false := by
    unfold has at hh
    rw [decide_eq_true ha0] at hh
    simpa using hh
  have hlt : tkn n < 2 ^ blk c := by
    rcases hcl with rfl | hcl
    · rw [show tkn 0 = 0 from rfl]; exact Nat.two_pow_pos _
    · have := tkn_cls n; rwa [hcl] at this
  have hsum := add_lt hlt (by omega : k < blk c) hbit
  have hp := Nat.two_pow_pos k
  have e : tkW n c (k : Int) = c.toNat * 65536 + (tkn n + 2 ^ k) := by
    unfold tkW
    rw [if_pos h0, Int.toNat_natCast]
  have hm := made (c := c.toNat) (t := tkn n + 2 ^ k) (by
    rcases hc with rfl | rfl
    · exact .inr (.inl ⟨rfl, by omega, hsum⟩)
    · exact .inr (.inr ⟨rfl, by omega, hsum⟩))
  exact ⟨k, rfl, by omega, by omega, hc, hcl, hbit, hsum, hr, e, by rw [e]; exact hm.1, by rw [e]; exact hm.2.1, by rw [e]; exact hm.2.2⟩
theorem take_not {n : Nat} {c a : Int} (h : tak n c a = false) : tkW n c a = n := by unfold tkW; rw [h]; rfl
theorem tkW_lt {n : Nat} (hn : n < 2 ^ 64) (c a : Int) : tkW n c a < 2 ^ 64 := by
  cases h : tak n c a with
  | false => rw [take_not h]; exact hn
  | true =>
    obtain ⟨k, _, _, _, hc, _, _, h2, _, h3, _⟩ := take_of h
    have := Nat.pow_le_pow_right (n := 2) (by decide) (blk_le c)
    rw [h3]; omega
/-- What a Drop that is one leaves. -/
theorem drop_of {n : Nat} {a : Int} (h : has n a = true) : ∃ k : Nat, a = (k : Int) ∧ k < blk (cls n) ∧ k < 16 ∧ (cls n = 1 ∨ cls n = 2) ∧ (tkn n).testBit k = true ∧ 2 ^ k ≤ tkn n ∧ rgt n = true ∧ n = cls n * 65536 + tkn n ∧
    drW n a = (if tkn n = 2 ^ k then 0 else n - 2 ^ k) ∧ rgt (drW n a) = true ∧ cls (drW n a) = (if tkn n = 2 ^ k then 0 else cls n) ∧ tkn (drW n a) = tkn n - 2 ^ k := by
  obtain ⟨h0, h1⟩ := has_lt h
  have hr := has_rgt h
  obtain ⟨k, rfl⟩ := Int.eq_ofNat_of_zero_le h0
  have hbit : (tkn n).testBit k = true := by
    unfold has at h
    rw [decide_eq_true h0] at h
    simpa using h
  have hle := (M.sub_bit _ _ hbit).2
  have hp := Nat.two_pow_pos k
  have hb := blk_le (cls n)
  have e : drW n (k : Int) = (if tkn n = 2 ^ k then 0 else n - 2 ^ k) := by
    unfold drW
    rw [if_pos h, Int.toNat_natCast]
  rcases shape n with ⟨h2, _⟩ | ⟨_, h2, h3⟩
  · rw [h2] at hr; cases hr
  refine ⟨k, rfl, by omega, by omega, by omega, hbit, hle, hr, h2, e, ?_⟩
  rw [e]
  by_cases h4 : tkn n = 2 ^ k
  · rw [if_pos h4, if_pos h4, h4, Nat.sub_self]
    exact ⟨rfl, rfl, rfl⟩
  · rw [if_neg h4, if_neg h4, show n - 2 ^ k = cls n * 65536 + (tkn n - 2 ^ k) by omega]
    exact made (by omega)
theorem drop_not {n : Nat} {a : Int} (h : has n a = false) : drW n a = n := by unfold drW; rw [h]; rfl
theorem drW_lt {n : Nat} (hn : n < 2 ^ 64) (a : Int) : drW n a < 2 ^ 64 := by
  unfold drW
  split
  · split
    · exact Nat.two_pow_pos _
    · exact Nat.lt_of_le_of_lt (Nat.sub_le _ _) hn
  · exact hn
/-- The bits of a sum and a difference by one bit. -/
theorem bit_add {t k : Nat} (h : t.testBit k = false) (i : Nat) : (t + 2 ^ k).testBit i = (t.testBit i || decide (k = i)) := by
  rw [M.add_bit _ _ h, Nat.testBit_or, Nat.testBit_two_pow]
theorem bit_sub {t k : Nat} (h : t.testBit k = true) (i : Nat) : (t - 2 ^ k).testBit i = (t.testBit i && !decide (k = i)) := by
  rw [(M.sub_bit _ _ h).1, Nat.testBit_xor, Nat.testBit_two_pow]
  by_cases hk : k = i
  · subst hk; simp [h]
  · simp [hk]

theorem ls_length (t k : Nat) : (ls t k).length = pc t k := by
  induction k with
  | zero => rfl
  | succ k ih =>
    simp only [ls, pc, List.length_append, ih]
    split <;> rfl
theorem pc_le (t k : Nat) : pc t k ≤ k := by
  induction k with
  | zero => exact Nat.le_refl _
  | succ k ih => simp only [pc]; split <;> omega
theorem ls_range (t k : Nat) : ∀ z ∈ ls t k, 0 ≤ z ∧ z < (k : Int) := by
  induction k with
  | zero => intro z h; cases h
  | succ k ih =>
    intro z h
    simp only [ls, List.mem_append] at h
    rcases h with h | h
    · have := ih z h; omega
    · split at h
      · simp at h; omega
      · cases h
theorem ls_more {t k : Nat} (j : Nat) (h : ∀ i, k ≤ i → t.testBit i = false) : ls t (k + j) = ls t k := by
  induction j with
  | zero => rfl
  | succ j ih =>
    rw [← Nat.add_assoc]
    simp only [ls, ih, h (k + j) (by omega)]
    simp
theorem ls_blk (n : Nat) : ls (tkn n) (blk (cls n)) = ls (tkn n) 16 := by
  have := ls_more (t := tkn n) (k := blk (cls n)) (16 - blk (cls n)) (fun i hi => tkn_high hi)
  rw [← this]
  congr 1
  have := blk_le (cls n)
  omega
theorem pc_zero {t k : Nat} (h : pc t k = 0) : ∀ i, i < k → t.testBit i = false := by
  induction k with
  | zero => intro i hi; omega
  | succ k ih =>
    intro i hi
    simp only [pc] at h
    cases hb : t.testBit k with
    | true => rw [hb] at h; simp at h
    | false =>
      by_cases e : i = k
      · rw [e]; exact hb
      · exact ih (by omega) i (by omega)
theorem pc_none {t : Nat} (ht : t < 65536) : pc t 16 = 0 ↔ t = 0 := by
  constructor
  · intro h
    apply Nat.eq_of_testBit_eq
    intro i
    rw [Nat.zero_testBit]
    by_cases hi : i < 16
    · exact pc_zero h i hi
    · exact Nat.testBit_lt_two_pow (Nat.lt_of_lt_of_le (m := 2 ^ 16) ht (Nat.pow_le_pow_right (by decide) (by omega)))
  · rintro rfl
    decide
theorem pc_add {t k : Nat} (h : t.testBit k = false) : ∀ b, pc (t + 2 ^ k) b = pc t b + (if k < b then 1 else 0)
  | 0 => rfl
  | b + 1 => by
    simp only [pc]
    rw [pc_add h b, bit_add h]
    by_cases e : k = b
    · subst e; simp [h]
    · by_cases e2 : k < b
      · simp [e, e2, show k < b + 1 by omega]; omega
      · simp [e, e2, show ¬ k < b + 1 by omega]
theorem pc_sub {t k : Nat} (h : t.testBit k = true) (b : Nat) (hk : k < b) : pc (t - 2 ^ k) b + 1 = pc t b := by
  have h1 : (t - 2 ^ k).testBit k = false := by rw [bit_sub h]; simp
  have h2 := pc_add h1 b
  rw [if_pos hk, Nat.sub_add_cancel (M.sub_bit _ _ h).2] at h2
  exact h2.symm
/-- Which bits are set tells the number. -/
theorem ls_mem (t k : Nat) (z : Int) : z ∈ ls t k ↔ 0 ≤ z ∧ z < (k : Int) ∧ t.testBit z.toNat = true := by
  induction k with
  | zero => simp [ls]; omega
  | succ k ih =>
    simp only [ls, List.mem_append, ih]
    cases hb : t.testBit k with
    | true =>
      simp only [if_true, List.mem_singleton]
      constructor
      · rintro (⟨h1, h2, h3⟩ | rfl)
        · exact ⟨h1, by omega, h3⟩
        · exact ⟨by omega, by omega, by simpa using hb⟩
      · rintro ⟨h1, h2, h3⟩
        by_cases e : z = (k : Int)
        · exact .inr e
        · exact .inl ⟨h1, by omega, h3⟩
    | false =>
      simp only [Bool.false_eq_true, if_false, List.not_mem_nil, or_false]
      constructor
      · rintro ⟨h1, h2, h3⟩; exact ⟨h1, by omega, h3⟩
      · rintro ⟨h1, h2, h3⟩
        refine ⟨h1, ?_, h3⟩
        apply Int.not_le.1
        intro h4
        rw [show z.toNat = k by omega, hb] at h3
        cases h3
theorem ls_inj {s t : Nat} (hs : s < 65536) (ht : t < 65536) (h : ls s 16 = ls t 16) : s = t := by
  apply Nat.eq_of_testBit_eq
  intro i
  by_cases hi : i < 16
  · have h1 := ls_mem s 16 (i : Int)
    have h2 := ls_mem t 16 (i : Int)
    rw [h] at h1
    have h3 := h1.symm.trans h2
    simp only [Int.toNat_natCast] at h3
    have h4 : s.testBit i = true ↔ t.testBit i = true := by
      constructor
      · intro x; exact (h3.1 ⟨by omega, by omega, x⟩).2.2
      · intro x; exact (h3.2 ⟨by omega, by omega, x⟩).2.2
    exact Bool.eq_iff_iff.2 h4
  · rw [Nat.testBit_lt_two_pow (Nat.lt_of_lt_of_le (m := 2 ^ 16) hs (Nat.pow_le_pow_right (by decide) (by omega))), Nat.testBit_lt_two_pow (Nat.lt_of_lt_of_le (m := 2 ^ 16) ht (Nat.pow_le_pow_right (by decide) (by omega)))]
/-- Two words that may be are one if their classes and their lists are. -/
theorem same_of {v w : Nat} (hv : rgt v = true) (hw : rgt w = true) (hc : cls v = cls w) (hl : ls (tkn v) 16 = ls (tkn w) 16) : v = w := by
  have ht := ls_inj (tkn_lt v) (tkn_lt w) hl
  rcases shape v with ⟨h, _⟩ | ⟨_, h1, _⟩
  · rw [h] at hv; cases hv
  rcases shape w with ⟨h, _⟩ | ⟨_, h2, _⟩
  · rw [h] at hw; cases hw
  rw [h1, h2, hc, ht]
end Go.Proofs.YtbaealdabplmdaaDoor.S
