/- SlM: Plain mathematics of layer 6: a slab's word as a class and what is taken; lists of bits, how many. Nothing of the program; no condition but the ranges named.
SlA: Contracts of layer 6's functions that only read: what each call returns; nothing is written. No condition but the ranges named.
SlB: The contract of slab.List: the blocks that are taken, in new memory. No condition but the word's range. -/
import Derived.Test.YtaceogpdjbikiaaGreatDoorBa
import Derived.Handy
namespace Go.Proofs.YtaceogpdjbikiaaGreatDoor.S

def blk (c : Int) : Nat := if c = 1 then 16 else if c = 2 then 4 else 0
def lns (c : Int) : Nat := if c = 1 then 1 else if c = 2 then 4 else 0
/-- May a slab have that word? -/
def rgt (n : Nat) : Bool := decide (n = 0 ∨ 65536 < n ∧ n < 131072 ∨ 131072 < n ∧ n < 131088)
/-- Its class, and the bits of what is taken. -/
def cls (n : Nat) : Nat := if rgt n then n / 65536 else 0
def tkn (n : Nat) : Nat := if rgt n then n % 65536 else 0
def has (n : Nat) (a : Int) : Bool := decide (0 ≤ a) && (tkn n).testBit a.toNat
def sui (n : Nat) (c : Int) : Bool := decide ((c = 1 ∨ c = 2) ∧ (n = 0 ∨ (cls n : Int) = c))
def nxt (n : Nat) (c : Int) : Int := if sui n c then M.lowS n (blk c) else -1
def tak (n : Nat) (c a : Int) : Bool := sui n c && (decide (0 ≤ a ∧ a < (blk c : Int)) && !has n a)
def tkW (n : Nat) (c a : Int) : Nat := if tak n c a then c.toNat * 65536 + (tkn n + 2 ^ a.toNat) else n
def drW (n : Nat) (a : Int) : Nat := if has n a then (if tkn n = 2 ^ a.toNat then 0 else n - 2 ^ a.toNat) else n
/-- How many bits are set below a place, and which. -/
def pc (t : Nat) : Nat → Nat
  | 0 => 0
  | k + 1 => pc t k + (if t.testBit k then 1 else 0)
def ls (t : Nat) : Nat → List Int
  | 0 => []
  | k + 1 => ls t k ++ (if t.testBit k then [(k : Int)] else [])

theorem shape (n : Nat) : (rgt n = false ∧ n ≠ 0 ∧ cls n = 0 ∧ tkn n = 0) ∨ (rgt n = true ∧ n = cls n * 65536 + tkn n ∧ (cls n = 0 ∧ tkn n = 0 ∨ cls n = 1 ∧ 0 < tkn n ∧ tkn n < 65536 ∨ cls n = 2 ∧ 0 < tkn n ∧ tkn n < 16)) := by
  cases h : rgt n with
  | false =>
    refine .inl ⟨rfl, ?_, by simp [cls, h], by simp [tkn, h]⟩
    rintro rfl
    revert h; decide
  | true =>
    right
    have h2 := of_decide_eq_true h
    simp only [cls, tkn, h, if_true, true_and]
    omega
/-- A word made of a class and what is taken. -/
theorem made {c t : Nat} (h : c = 0 ∧ t = 0 ∨ c = 1 ∧ 0 < t ∧ t < 65536 ∨ c = 2 ∧ 0 < t ∧ t < 16) : rgt (c * 65536 + t) = true ∧ cls (c * 65536 + t) = c ∧ tkn (c * 65536 + t) = t := by
  have h1 : rgt (c * 65536 + t) = true := decide_eq_true (by omega)
  simp only [cls, tkn, h1, if_true, true_and]
  omega
theorem tkn_lt (n : Nat) : tkn n < 65536 := by rcases shape n with ⟨_, _, _, h⟩ | ⟨_, _, h⟩ <;> omega
theorem cls_le (n : Nat) : cls n ≤ 2 := by rcases shape n with ⟨_, _, h, _⟩ | ⟨_, _, h⟩ <;> omega
theorem tkn_cls (n : Nat) : tkn n < 2 ^ blk (cls n) := by
  rcases shape n with ⟨_, _, h1, h2⟩ | ⟨_, _, ⟨h1, h2⟩ | ⟨h1, h2, h3⟩ | ⟨h1, h2, h3⟩⟩
  · rw [h1, h2]; decide
  · rw [h1, h2]; decide
  · rw [h1]; exact h3
  · rw [h1]; exact h3
theorem blk_le (c : Int) : blk c ≤ 16 := by unfold blk; split; omega; split <;> omega
theorem tkn_high {n i : Nat} (h : blk (cls n) ≤ i) : (tkn n).testBit i = false :=
  Nat.testBit_lt_two_pow (Nat.lt_of_lt_of_le (tkn_cls n) (Nat.pow_le_pow_right (by decide) h))
theorem tkn_zero {n : Nat} (h : tkn n = 0) (hr : rgt n = true) : n = 0 := by
  rcases shape n with ⟨h1, _⟩ | ⟨_, h1, h2⟩
  · rw [h1] at hr; cases hr
  · omega
theorem bit_of {n i : Nat} (h : rgt n = true) (hi : i < 16) : n.testBit i = (tkn n).testBit i := by
  have e : tkn n = n % 2 ^ 16 := by simp [tkn, h]
  rw [e, Nat.testBit_mod_two_pow, decide_eq_true hi, Bool.true_and]
theorem has_lt {n : Nat} {a : Int} (h : has n a = true) : 0 ≤ a ∧ a < (blk (cls n) : Int) := by
  unfold has at h
  rw [Bool.and_eq_true, decide_eq_true_eq] at h
  refine ⟨h.1, ?_⟩
  apply Int.not_le.1
  intro h2
  have := tkn_high (n := n) (i := a.toNat) (by omega)
  rw [this] at h
  cases h.2
theorem has_rgt {n : Nat} {a : Int} (h : has n a = true) : rgt n = true := by
  rcases shape n with ⟨_, _, h1, h2⟩ | ⟨h1, _⟩
  · unfold has at h
    rw [h2, Nat.zero_testBit, Bool.and_false] at h
    cases h
  · exact h1
theorem sui_rgt {n : Nat} {c : Int} (h : sui n c = true) : rgt n = true := by
  have h := of_decide_eq_true h
  rcases shape n with ⟨_, h1, h2, _⟩ | ⟨h1, _⟩
  · omega
  · exact h1
theorem sui_blk {n : Nat} {c : Int} (h : sui n c = true) : (c = 1 ∨ c = 2) ∧ (n = 0 ∨ (cls n : Int) = c) := of_decide_eq_true h
/-- The lowest one that is not taken. -/
theorem nxt_of {n : Nat} {c : Int} (hn : n < 2 ^ 64) (h : sui n c = true) :
    (nxt n c = -1 ∧ ∀ i : Nat, i < blk c → (tkn n).testBit i = true) ∨ ∃ k : Nat, nxt n c = (k : Int) ∧ k < blk c ∧ (tkn n).testBit k = false ∧ ∀ i : Nat, i < k → (tkn n).testBit i = true := by
  obtain ⟨h1, h2, h3⟩ := M.low1_spec n hn
  have hr := sui_rgt h
  have hb := blk_le c
  unfold nxt
  rw [if_pos h]
  unfold M.lowS
  by_cases hk : (M.low1 n : Int) < min (blk c : Int) 64
  · right
    rw [if_pos hk]
    refine ⟨M.low1 n, rfl, by omega, ?_, fun i hi => ?_⟩
    · rw [← bit_of hr (by omega)]; exact h3 (by omega)
    · rw [← bit_of hr (by omega)]; exact h2 i hi
  · left
    rw [if_neg hk]
    exact ⟨rfl, fun i hi => by rw [← bit_of hr (by omega)]; exact h2 i (by omega)⟩
theorem nxt_not {n : Nat} {c : Int} (h : sui n c = false) : nxt n c = -1 := by unfold nxt; rw [h]; rfl

theorem fld_mod (n k : Nat) : M.fld n 0 k = n % 2 ^ k := by unfold M.fld; simp
/-- What Right asks. -/
theorem rgt_code (n : Nat) (hn : n < 2 ^ 64) : rgt n = (decide (n = 0) || (decide (M.fld n 0 16 ≠ 0) && (decide (M.fld (M.fld n 0 16) (blk (M.fld n 16 2)) 16 = 0) && decide (M.fld n 18 64 = 0)))) := by
  have e0 : M.fld n 0 16 = n % 65536 := fld_mod n 16
  have e1 : M.fld n 16 2 = n / 65536 % 4 := rfl
  have e2 : M.fld n 18 64 = n / 262144 := by
    show n / 262144 % 18446744073709551616 = _
    exact Nat.mod_eq_of_lt (by omega)
  rw [e0, e1, e2]
  have h4 : n / 65536 % 4 = 0 ∨ n / 65536 % 4 = 1 ∨ n / 65536 % 4 = 2 ∨ n / 65536 % 4 = 3 := by omega
  have e3 : ∀ t b : Nat, M.fld t b 16 = t / 2 ^ b % 65536 := fun _ _ => rfl
  rw [e3]
  have key : rgt n = true ↔ n = 0 ∨ (n % 65536 ≠ 0 ∧ (n % 65536 / 2 ^ blk ((n / 65536 % 4 : Nat) : Int) % 65536 = 0 ∧ n / 262144 = 0)) := by
    unfold rgt
    rw [decide_eq_true_eq]
    rcases h4 with h | h | h | h
    · rw [h, show (2 : Nat) ^ blk ((0 : Nat) : Int) = 1 by decide]; omega
    · rw [h, show (2 : Nat) ^ blk ((1 : Nat) : Int) = 65536 by decide]; omega
    · rw [h, show (2 : Nat) ^ blk ((2 : Nat) : Int) = 16 by decide]; omega
    · rw [h, show (2 : Nat) ^ blk ((3 : Nat) : Int) = 1 by decide]; omega
  rw [Bool.eq_iff_iff, key]
  simp
theorem cls_code {n : Nat} (h : rgt n = true) : M.fld n 16 2 = cls n := by
  have e1 : M.fld n 16 2 = n / 65536 % 4 := rfl
  rw [e1]
  rcases shape n with ⟨h1, _⟩ | ⟨_, h1, h2⟩
  · rw [h1] at h; cases h
  · omega
theorem fld_bit (n i : Nat) : M.fld n i 1 = if n.testBit i then 1 else 0 := by
  have h := M.bit_iff n i
  show n / 2 ^ i % 2 ^ 1 = _
  split
  · rename_i hb; have := h.2 hb; omega
  · rename_i hb; have : ¬ n / 2 ^ i % 2 = 1 := fun hx => hb (h.1 hx); omega
theorem set_bit (x i : Nat) (hx : x < 2 ^ 64) (hi : i < 64) (hb : x.testBit i = false) : M.wth x i 1 1 = x + 2 ^ i := by
  rw [M.add_bit _ _ hb]
  apply Nat.eq_of_testBit_eq
  intro j
  rw [M.testBit_wth _ _ _ _ _ hx, Nat.testBit_or, Nat.testBit_two_pow]
  by_cases h : j = i
  · subst h
    rw [if_pos (by omega), Nat.sub_self]; simp
  · rw [if_neg (by omega), decide_eq_false (by omega), Bool.or_false]
theorem clear_bit (x i : Nat) (hx : x < 2 ^ 64) (hi : i < 64) (hb : x.testBit i = true) : M.wth x i 1 0 = x - 2 ^ i ∧ 2 ^ i ≤ x := by
  obtain ⟨h1, h2⟩ := M.sub_bit x i hb
  refine ⟨?_, h2⟩
  rw [h1]
  apply Nat.eq_of_testBit_eq
  intro j
  rw [M.testBit_wth _ _ _ _ _ hx, Nat.testBit_xor, Nat.testBit_two_pow]
  by_cases h : j = i
  · subst h
    rw [if_pos (by omega), Nat.sub_self, hb]; simp
  · rw [if_neg (by omega), decide_eq_false (by omega), Bool.xor_false]
theorem four_lt {c i : Nat} (h : c < 4) (hi : 2 ≤ i) : c < 2 ^ i := Nat.lt_of_lt_of_le (m := 2 ^ 2) h (Nat.pow_le_pow_right (by decide) hi)
theorem set_cls (c' c t : Nat) (hc' : c' < 4) (hc : c < 4) (ht : t < 65536) : M.wth (c' * 65536 + t) 16 2 c = c * 65536 + t := by
  have hx : c' * 65536 + t < 2 ^ 64 := by omega
  have e : ∀ d i : Nat, (d * 65536 + t).testBit i = if i < 16 then t.testBit i else d.testBit (i - 16) := by
    intro d i
    rw [show d * 65536 + t = 2 ^ 16 * d + t by omega, Nat.testBit_two_pow_mul_add _ ht]
  apply Nat.eq_of_testBit_eq
  intro i
  rw [M.testBit_wth _ _ _ _ _ hx, e, e]
  by_cases h1 : i < 16
  · rw [if_neg (by omega), if_pos h1]; simp [h1]
  · rw [if_neg h1, if_neg h1]
    by_cases h2 : i < 18
    · rw [if_pos (by omega)]
    · rw [if_neg (by omega)]
      rw [Nat.testBit_lt_two_pow (x := c') (i := i - 16) (four_lt hc' (by omega)),
        Nat.testBit_lt_two_pow (x := c) (i := i - 16) (four_lt hc (by omega))]

theorem two_lt {k b : Nat} (h : k < b) : 2 ^ k < 2 ^ b := Nat.pow_lt_pow_right (by decide) h
/-- One more bit keeps below the same power. -/
theorem add_lt {t k b : Nat} (ht : t < 2 ^ b) (hk : k < b) (hb : t.testBit k = false) : t + 2 ^ k < 2 ^ b := by
  rw [M.add_bit _ _ hb]
  exact Nat.or_lt_two_pow ht (two_lt hk)
/-- What a Take that is one leaves. -/
theorem take_of {n : Nat} {c a : Int} (h : tak n c a = true) : ∃ k : Nat, a = (k : Int) ∧ k < blk c ∧ k < 16 ∧ (c = 1 ∨ c = 2) ∧ (n = 0 ∨ (cls n : Int) = c) ∧ (tkn n).testBit k = false ∧ tkn n + 2 ^ k < 2 ^ blk c ∧
    rgt n = true ∧ tkW n c a = c.toNat * 65536 + (tkn n + 2 ^ k) ∧ rgt (tkW n c a) = true ∧ cls (tkW n c a) = c.toNat ∧ tkn (tkW n c a) = tkn n + 2 ^ k := by
  have h0 := h
  unfold tak at h
  rw [Bool.and_eq_true, Bool.and_eq_true, decide_eq_true_eq] at h
  obtain ⟨hs, ⟨ha0, ha1⟩, hh⟩ := h
  obtain ⟨hc, hcl⟩ := sui_blk hs
  have hr := sui_rgt hs
  obtain ⟨k, rfl⟩ := Int.eq_ofNat_of_zero_le ha0
  have hb := blk_le c
  have hbit : (tkn n).testBit k = false := by
    unfold has at hh
    rw [decide_eq_true ha0] at hh
    simpa using hh
  have hlt : tkn n < 2 ^ blk c := by
    rcases hcl with rfl | hcl
    · rw [show tkn 0 = 0 from rfl]; exact Nat.two_pow_pos _
    · have := tkn_cls n; rwa [hcl] at this
  have hsum := add_lt hlt (by omega : k < blk c) hbit
  have hp := Nat.two_pow_pos k
  have e : tkW n c (k : Int) = c.toNat * 65536 + (tkn n + 2 ^ k) := by
    unfold tkW
    rw [if_pos h0, Int.toNat_natCast]
  have hm := made (c := c.toNat) (t := tkn n + 2 ^ k) (by
    rcases hc with rfl | rfl
    · exact .inr (.inl ⟨rfl, by omega, hsum⟩)
    · exact .inr (.inr ⟨rfl, by omega, hsum⟩))
  exact ⟨k, rfl, by omega, by omega, hc, hcl, hbit, hsum, hr, e, by rw [e]; exact hm.1, by rw [e]; exact hm.2.1, by rw [e]; exact hm.2.2⟩
theorem take_not {n : Nat} {c a : Int} (h : tak n c a = false) : tkW n c a = n := by unfold tkW; rw [h]; rfl
theorem tkW_lt {n : Nat} (hn : n < 2 ^ 64) (c a : Int) : tkW n c a < 2 ^ 64 := by
  cases h : tak n c a with
  | false => rw [take_not h]; exact hn
  | true =>
    obtain ⟨k, _, _, _, hc, _, _, h2, _, h3, _⟩ := take_of h
    have := Nat.pow_le_pow_right (n := 2) (by decide) (blk_le c)
    rw [h3]; omega
/-- What a Drop that is one leaves. -/
theorem drop_of {n : Nat} {a : Int} (h : has n a = true) : ∃ k : Nat, a = (k : Int) ∧ k < blk (cls n) ∧ k < 16 ∧ (cls n = 1 ∨ cls n = 2) ∧ (tkn n).testBit k = true ∧ 2 ^ k ≤ tkn n ∧ rgt n = true ∧ n = cls n * 65536 + tkn n ∧
    drW n a = (if tkn n = 2 ^ k then 0 else n - 2 ^ k) ∧ rgt (drW n a) = true ∧ cls (drW n a) = (if tkn n = 2 ^ k then 0 else cls n) ∧ tkn (drW n a) = tkn n - 2 ^ k := by
  obtain ⟨h0, h1⟩ := has_lt h
  have hr := has_rgt h
  obtain ⟨k, rfl⟩ := Int.eq_ofNat_of_zero_le h0
  have hbit : (tkn n).testBit k = true := by
    unfold has at h
    rw [decide_eq_true h0] at h
    simpa using h
  have hle := (M.sub_bit _ _ hbit).2
  have hp := Nat.two_pow_pos k
  have hb := blk_le (cls n)
  have e : drW n (k : Int) = (if tkn n = 2 ^ k then 0 else n - 2 ^ k) := by
    unfold drW
    rw [if_pos h, Int.toNat_natCast]
  rcases shape n with ⟨h2, _⟩ | ⟨_, h2, h3⟩
  · rw [h2] at hr; cases hr
  refine ⟨k, rfl, by omega, by omega, by omega, hbit, hle, hr, h2, e, ?_⟩
  rw [e]
  by_cases h4 : tkn n = 2 ^ k
  · rw [if_pos h4, if_pos h4, h4, Nat.sub_self]
    exact ⟨rfl, rfl, rfl⟩
  · rw [if_neg h4, if_neg h4, show n - 2 ^ k = cls n * 65536 + (tkn n - 2 ^ k) by omega]
    exact made (by omega)
theorem drop_not {n : Nat} {a : Int} (h : has n a = false) : drW n a = n := by unfold drW; rw [h]; rfl
theorem drW_lt {n : Nat} (hn : n < 2 ^ 64) (a : Int) : drW n a < 2 ^ 64 := by
  unfold drW
  split
  · split
    · exact Nat.two_pow_pos _
    · exact Nat.lt_of_le_of_lt (Nat.sub_le _ _) hn
  · exact hn
/-- The bits of a sum and a difference by one bit. -/
theorem bit_add {t k : Nat} (h : t.testBit k = false) (i : Nat) : (t + 2 ^ k).testBit i = (t.testBit i || decide (k = i)) := by
  rw [M.add_bit _ _ h, Nat.testBit_or, Nat.testBit_two_pow]
theorem bit_sub {t k : Nat} (h : t.testBit k = true) (i : Nat) : (t - 2 ^ k).testBit i = (t.testBit i && !decide (k = i)) := by
  rw [(M.sub_bit _ _ h).1, Nat.testBit_xor, Nat.testBit_two_pow]
  by_cases hk : k = i
  · subst hk; simp [h]
  · simp [hk]

theorem ls_length (t k : Nat) : (ls t k).length = pc t k := by
  induction k with
  | zero => rfl
  | succ k ih =>
    simp only [ls, pc, List.length_append, ih]
    split <;> rfl
theorem pc_le (t k : Nat) : pc t k ≤ k := by
  induction k with
  | zero => exact Nat.le_refl _
  | succ k ih => simp only [pc]; split <;> omega
theorem ls_range (t k : Nat) : ∀ z ∈ ls t k, 0 ≤ z ∧ z < (k : Int) := by
  induction k with
  | zero => intro z h; cases h
  | succ k ih =>
    intro z h
    simp only [ls, List.mem_append] at h
    rcases h with h | h
    · have := ih z h; omega
    · split at h
      · simp at h; omega
      · cases h
theorem ls_more {t k : Nat} (j : Nat) (h : ∀ i, k ≤ i → t.testBit i = false) : ls t (k + j) = ls t k := by
  induction j with
  | zero => rfl
  | succ j ih =>
    rw [← Nat.add_assoc]
    simp only [ls, ih, h (k + j) (by omega)]
    simp
theorem ls_blk (n : Nat) : ls (tkn n) (blk (cls n)) = ls (tkn n) 16 := by
  have := ls_more (t := tkn n) (k := blk (cls n)) (16 - blk (cls n)) (fun i hi => tkn_high hi)
  rw [← this]
  congr 1
  have := blk_le (cls n)
  omega
theorem pc_zero {t k : Nat} (h : pc t k = 0) : ∀ i, i < k → t.testBit i = false := by
  induction k with
  | zero => intro i hi; omega
  | succ k ih =>
    intro i hi
    simp only [pc] at h
    cases hb : t.testBit k with
    | true => rw [hb] at h; simp at h
    | false =>
      by_cases e : i = k
      · rw [e]; exact hb
      · exact ih (by omega) i (by omega)
theorem pc_none {t : Nat} (ht : t < 65536) : pc t 16 = 0 ↔ t = 0 := by
  constructor
  · intro h
    apply Nat.eq_of_testBit_eq
    intro i
    rw [Nat.zero_testBit]
    by_cases hi : i < 16
    · exact pc_zero h i hi
    · exact Nat.testBit_lt_two_pow (Nat.lt_of_lt_of_le (m := 2 ^ 16) ht (Nat.pow_le_pow_right (by decide) (by omega)))
  · rintro rfl
    decide
theorem pc_add {t k : Nat} (h : t.testBit k = false) : ∀ b, pc (t + 2 ^ k) b = pc t b + (if k < b then 1 else 0)
  | 0 => rfl
  | b + 1 => by
    simp only [pc]
    rw [pc_add h b, bit_add h]
    by_cases e : k = b
    · subst e; simp [h]
    · by_cases e2 : k < b
      · simp [e, e2, show k < b + 1 by omega]; omega
      · simp [e, e2, show ¬ k < b + 1 by omega]
theorem pc_sub {t k : Nat} (h : t.testBit k = true) (b : Nat) (hk : k < b) : pc (t - 2 ^ k) b + 1 = pc t b := by
  have h1 : (t - 2 ^ k).testBit k = false := by rw [bit_sub h]; simp
  have h2 := pc_add h1 b
  rw [if_pos hk, Nat.sub_add_cancel (M.sub_bit _ _ h).2] at h2
  exact h2.symm
/-- Which bits are set tells the number. -/
theorem ls_mem (t k : Nat) (z : Int) : z ∈ ls t k ↔ 0 ≤ z ∧ z < (k : Int) ∧ t.testBit z.toNat = true := by
  induction k with
  | zero => simp [ls]; omega
  | succ k ih =>
    simp only [ls, List.mem_append, ih]
    cases hb : t.testBit k with
    | true =>
      simp only [if_true, List.mem_singleton]
      constructor
      · rintro (⟨h1, h2, h3⟩ | rfl)
        · exact ⟨h1, by omega, h3⟩
        · exact ⟨by omega, by omega, by simpa using hb⟩
      · rintro ⟨h1, h2, h3⟩
        by_cases e : z = (k : Int)
        · exact .inr e
        · exact .inl ⟨h1, by omega, h3⟩
    | false =>
      simp only [Bool.false_eq_true, if_false, List.not_mem_nil, or_false]
      constructor
      · rintro ⟨h1, h2, h3⟩; exact ⟨h1, by omega, h3⟩
      · rintro ⟨h1, h2, h3⟩
        refine ⟨h1, ?_, h3⟩
        apply Int.not_le.1
        intro h4
        rw [show z.toNat = k by omega, hb] at h3
        cases h3
theorem ls_inj {s t : Nat} (hs : s < 65536) (ht : t < 65536) (h : ls s 16 = ls t 16) : s = t := by
  apply Nat.eq_of_testBit_eq
  intro i
  by_cases hi : i < 16
  · have h1 := ls_mem s 16 (i : Int)
    have h2 := ls_mem t 16 (i : Int)
    rw [h] at h1
    have h3 := h1.symm.trans h2
    simp only [Int.toNat_natCast] at h3
    have h4 : s.testBit i = true ↔ t.testBit i = true := by
      constructor
      · intro x; exact (h3.1 ⟨by omega, by omega, x⟩).2.2
      · intro x; exact (h3.2 ⟨by omega, by omega, x⟩).2.2
    exact Bool.eq_iff_iff.2 h4
  · rw [Nat.testBit_lt_two_pow (Nat.lt_of_lt_of_le (m := 2 ^ 16) hs (Nat.pow_le_pow_right (by decide) (by omega))), Nat.testBit_lt_two_pow (Nat.lt_of_lt_of_le (m := 2 ^ 16) ht (Nat.pow_le_pow_right (by decide) (by omega)))]
/-- Two words that may be are one if their classes and their lists are. -/
theorem same_of {v w : Nat} (hv : rgt v = true) (hw : rgt w = true) (hc : cls v = cls w) (hl : ls (tkn v) 16 = ls (tkn w) 16) : v = w := by
  have ht := ls_inj (tkn_lt v) (tkn_lt w) hl
  rcases shape v with ⟨h, _⟩ | ⟨_, h1, _⟩
  · rw [h] at hv; cases hv
  rcases shape w with ⟨h, _⟩ | ⟨_, h2, _⟩
  · rw [h] at hw; cases hw
  rw [h1, h2, hc, ht]
end Go.Proofs.YtaceogpdjbikiaaGreatDoor.S
namespace Go.Proofs.YtaceogpdjbikiaaGreatDoor

open Go.RowKit

theorem sl_lines (c : Int) (w : World) :
    Calls Tryz.prog 72 #[.int .i64 c] w fun e w' => e = .returned (.int .i64 (S.lns c : Nat)) ∧ ∃ m, w' = w.drewN m := by
  by_cases h1 : c = 1
  · subst h1
    go_enter Tryz.func72, Tryz.ntmps72
    go_wp2
    go_ret
    exact ⟨rfl, nodraw _⟩
  · by_cases h2 : c = 2
    · subst h2
      go_enter Tryz.func72, Tryz.ntmps72
      go_wp2
      go_ret
      exact ⟨rfl, nodraw _⟩
    · have HN : Hid (S.lns c = 0) := by show _ = _; unfold S.lns; rw [if_neg h1, if_neg h2]
      go_enter Tryz.func72, Tryz.ntmps72
      go_wp2
      go_ret
      exact ⟨ret_int (by rw [HN.out]; rfl), nodraw _⟩
theorem sl_blocks (c : Int) (w : World) :
    Calls Tryz.prog 32 #[.int .i64 c] w fun e w' => e = .returned (.int .i64 (S.blk c : Nat)) ∧ ∃ m, w' = w.drewN m := by
  by_cases h1 : c = 1
  · subst h1
    go_enter Tryz.func32, Tryz.ntmps32
    go_wp2_with fail
    refine (sl_lines _ _).mono ?_
    rintro e w' ⟨rfl, m, rfl⟩
    rw [show ((S.lns 1 : Nat) : Int) = 1 from rfl]
    go_wp2
    go_ret
    exact ⟨rfl, _, rfl⟩
  · by_cases h2 : c = 2
    · subst h2
      go_enter Tryz.func32, Tryz.ntmps32
      go_wp2_with fail
      refine (sl_lines _ _).mono ?_
      rintro e w' ⟨rfl, m, rfl⟩
      rw [show ((S.lns 2 : Nat) : Int) = 4 from rfl]
      go_wp2
      go_ret
      exact ⟨rfl, _, rfl⟩
    · have HL : Hid (((S.lns c : Nat) : Int) = 0) := by show _ = _; unfold S.lns; rw [if_neg h1, if_neg h2]; rfl
      have HN : Hid (((S.blk c : Nat) : Int) = 0) := by show _ = _; unfold S.blk; rw [if_neg h1, if_neg h2]; rfl
      go_enter Tryz.func32, Tryz.ntmps32
      go_wp2_with fail
      refine (sl_lines _ _).mono ?_
      rintro e w' ⟨rfl, m, rfl⟩
      rw [HL.out]
      go_wp2
      go_ret
      exact ⟨ret_int (by rw [HN.out]), _, rfl⟩
theorem sl_classOf (n : Nat) (w : World) (hn : n < 2 ^ 64) :
    Calls Tryz.prog 92 #[.int .u64 n] w fun e w' => e = .returned (.int .i64 (M.fld n 16 2 : Nat)) ∧ ∃ m, w' = w.drewN m := by
  have hlt : M.fld n 16 2 < 4 := Nat.mod_lt _ (by decide)
  have HF : Hid (∀ W : World, Calls Tryz.prog 82 #[.int .u64 n, .int .i64 16, .int .i64 2] W fun e w' => e = .returned (.int .u64 (M.fld n 16 2 : Nat)) ∧ ∃ m, w' = W.drewN m) := fun W => field_any n 16 2 W hn
  clear hn
  generalize M.fld n 16 2 = x at *
  go_enter Tryz.func92, Tryz.ntmps92
  go_wp2_with fail
  refine (HF.out _).mono ?_
  rintro e w' ⟨rfl, m, rfl⟩
  go_wp2
  go_ret
  exact ⟨rfl, _, rfl⟩
theorem sl_right (n : Nat) (w : World) (hn : n < 2 ^ 64) :
    Calls Tryz.prog 62 #[.int .u64 n] w fun e w' => e = .returned (.bool (S.rgt n)) ∧ ∃ m, w' = w.drewN m := by
  rw [S.rgt_code n hn]
  have HF : Hid (∀ W : World, Calls Tryz.prog 82 #[.int .u64 n, .int .i64 0, .int .i64 16] W fun e w' => e = .returned (.int .u64 (M.fld n 0 16 : Nat)) ∧ ∃ m, w' = W.drewN m) := fun W => field_any n 0 16 W hn
  have HR : Hid (∀ W : World, Calls Tryz.prog 82 #[.int .u64 n, .int .i64 18, .int .i64 64] W fun e w' => e = .returned (.int .u64 (M.fld n 18 64 : Nat)) ∧ ∃ m, w' = W.drewN m) := fun W => field_any n 18 64 W hn
  have HC : Hid (∀ W : World, Calls Tryz.prog 92 #[.int .u64 n] W fun e w' => e = .returned (.int .i64 (M.fld n 16 2 : Nat)) ∧ ∃ m, w' = W.drewN m) := fun W => sl_classOf n W hn
  have ht : M.fld n 0 16 < 2 ^ 64 := M.fld_lt n 0 16 hn
  have HB : Hid (∀ W : World, Calls Tryz.prog 82 #[.int .u64 (M.fld n 0 16 : Nat), .int .i64 (S.blk (M.fld n 16 2 : Nat) : Nat), .int .i64 16] W fun e w' => e = .returned (.int .u64 (M.fld (M.fld n 0 16) (S.blk (M.fld n 16 2 : Nat)) 16 : Nat)) ∧ ∃ m, w' = W.drewN m) := by
    intro W
    have := field_any (M.fld n 0 16) (S.blk (M.fld n 16 2 : Nat) : Nat) 16 W ht
    rwa [Int.toNat_natCast] at this
  clear ht hn
  generalize M.fld (M.fld n 0 16) (S.blk (M.fld n 16 2 : Nat)) 16 = z at *
  generalize M.fld n 0 16 = x at *
  generalize M.fld n 16 2 = y at *
  generalize M.fld n 18 64 = r at *
  by_cases h0 : n = 0
  · subst h0
    go_enter Tryz.func62, Tryz.ntmps62
    go_wp2
    go_ret
    exact ⟨ret_bool (by simp), nodraw _⟩
  · have e0 : (decide (n = 0)) = false := decide_eq_false h0
    rw [e0, Bool.false_or]
    clear e0
    by_cases hx : x = 0
    · subst hx
      go_enter Tryz.func62, Tryz.ntmps62
      go_wp2_with fail
      refine (HF.out _).mono ?_
      rintro e w' ⟨rfl, m1, rfl⟩
      go_wp2_with fail
      refine (HC.out _).mono ?_
      rintro e w' ⟨rfl, m2, rfl⟩
      go_wp2_with fail
      refine (sl_blocks _ _).mono ?_
      rintro e w' ⟨rfl, m3, rfl⟩
      go_wp2_with fail
      refine (HB.out _).mono ?_
      rintro e w' ⟨rfl, m4, rfl⟩
      go_wp2_with fail
      refine (HR.out _).mono ?_
      rintro e w' ⟨rfl, m5, rfl⟩
      go_wp2
      go_ret
      exact ⟨ret_bool (by simp), _, rfl⟩
    · by_cases hz : z = 0
      · subst hz
        go_enter Tryz.func62, Tryz.ntmps62
        go_wp2_with fail
        refine (HF.out _).mono ?_
        rintro e w' ⟨rfl, m1, rfl⟩
        go_wp2_with fail
        refine (HC.out _).mono ?_
        rintro e w' ⟨rfl, m2, rfl⟩
        go_wp2_with fail
        refine (sl_blocks _ _).mono ?_
        rintro e w' ⟨rfl, m3, rfl⟩
        go_wp2_with fail
        refine (HB.out _).mono ?_
        rintro e w' ⟨rfl, m4, rfl⟩
        go_wp2_with fail
        refine (HR.out _).mono ?_
        rintro e w' ⟨rfl, m5, rfl⟩
        go_wp2
        go_ret
        exact ⟨ret_bool (by rw [Bool.eq_iff_iff]; simp [hx]), _, rfl⟩
      · go_enter Tryz.func62, Tryz.ntmps62
        go_wp2_with fail
        refine (HF.out _).mono ?_
        rintro e w' ⟨rfl, m1, rfl⟩
        go_wp2_with fail
        refine (HC.out _).mono ?_
        rintro e w' ⟨rfl, m2, rfl⟩
        go_wp2_with fail
        refine (sl_blocks _ _).mono ?_
        rintro e w' ⟨rfl, m3, rfl⟩
        go_wp2_with fail
        refine (HB.out _).mono ?_
        rintro e w' ⟨rfl, m4, rfl⟩
        go_wp2_with fail
        refine (HR.out _).mono ?_
        rintro e w' ⟨rfl, m5, rfl⟩
        go_wp2
        go_ret
        exact ⟨ret_bool (by simp [hx, hz]), _, rfl⟩
theorem sl_class (n : Nat) (w : World) (hn : n < 2 ^ 64) :
    Calls Tryz.prog 85 #[.int .u64 n] w fun e w' => e = .returned (.int .i64 (S.cls n : Nat)) ∧ ∃ m, w' = w.drewN m := by
  have HR : Hid (∀ W : World, Calls Tryz.prog 62 #[.int .u64 n] W fun e w' => e = .returned (.bool (S.rgt n)) ∧ ∃ m, w' = W.drewN m) := fun W => sl_right n W hn
  cases h : S.rgt n with
  | false =>
    have e0 : S.cls n = 0 := by rcases S.shape n with ⟨_, _, h1, _⟩ | ⟨h1, _⟩; exact h1; rw [h1] at h; cases h
    rw [h] at HR
    rw [e0]
    clear e0 h
    go_enter Tryz.func85, Tryz.ntmps85
    go_wp2_with fail
    refine (HR.out _).mono ?_
    rintro e w' ⟨rfl, m1, rfl⟩
    go_wp2
    go_ret
    exact ⟨rfl, _, rfl⟩
  | true =>
    have HC : Hid (∀ W : World, Calls Tryz.prog 92 #[.int .u64 n] W fun e w' => e = .returned (.int .i64 (S.cls n : Nat)) ∧ ∃ m, w' = W.drewN m) := by
      intro W
      have := sl_classOf n W hn
      rwa [S.cls_code h] at this
    rw [h] at HR
    clear h
    generalize S.cls n = c at *
    go_enter Tryz.func85, Tryz.ntmps85
    go_wp2_with fail
    refine (HR.out _).mono ?_
    rintro e w' ⟨rfl, m1, rfl⟩
    go_wp2_with fail
    refine (HC.out _).mono ?_
    rintro e w' ⟨rfl, m2, rfl⟩
    go_wp2
    go_ret
    exact ⟨rfl, _, rfl⟩
theorem sl_stands (c a : Int) (w : World) :
    Calls Tryz.prog 84 #[.int .i64 c, .int .i64 a] w fun e w' => e = .returned (.bool (decide (0 ≤ a ∧ a < (S.blk c : Int)))) ∧ ∃ m, w' = w.drewN m := by
  have HB : Hid (∀ W : World, Calls Tryz.prog 32 #[.int .i64 c] W fun e w' => e = .returned (.int .i64 (S.blk c : Nat)) ∧ ∃ m, w' = W.drewN m) := fun W => sl_blocks c W
  generalize S.blk c = b at *
  by_cases h0 : 0 ≤ a
  · go_enter Tryz.func84, Tryz.ntmps84
    go_wp2_with fail
    refine (HB.out _).mono ?_
    rintro e w' ⟨rfl, m1, rfl⟩
    go_wp2
    go_ret
    exact ⟨ret_bool (by simp [h0]), _, rfl⟩
  · go_enter Tryz.func84, Tryz.ntmps84
    go_wp2
    go_ret
    exact ⟨ret_bool (by simp; omega), nodraw _⟩
theorem has_code (n : Nat) (a : Int) : S.has n a = (decide (0 ≤ a ∧ a < (S.blk (S.cls n) : Int)) && decide (M.fld n a.toNat 1 = 1)) := by
  rw [Bool.eq_iff_iff, Bool.and_eq_true, decide_eq_true_eq, decide_eq_true_eq, S.fld_bit]
  constructor
  · intro h
    have h1 := S.has_lt h
    refine ⟨h1, ?_⟩
    have hb := S.blk_le (S.cls n)
    rw [S.bit_of (S.has_rgt h) (by omega)]
    unfold S.has at h
    rw [Bool.and_eq_true] at h
    rw [h.2]; rfl
  · rintro ⟨h1, h2⟩
    have hb := S.blk_le (S.cls n)
    have hr : S.rgt n = true := by
      rcases S.shape n with ⟨_, _, h3, _⟩ | ⟨h3, _⟩
      · rw [h3] at h1
        have : S.blk ((0 : Nat) : Int) = 0 := rfl
        omega
      · exact h3
    rw [S.bit_of hr (by omega)] at h2
    unfold S.has
    rw [Bool.and_eq_true, decide_eq_true_eq]
    refine ⟨h1.1, ?_⟩
    cases hb : (S.tkn n).testBit a.toNat with
    | true => rfl
    | false => rw [hb] at h2; simp at h2
theorem sl_has (n : Nat) (a : Int) (w : World) (hn : n < 2 ^ 64) :
    Calls Tryz.prog 48 #[.int .u64 n, .int .i64 a] w fun e w' => e = .returned (.bool (S.has n a)) ∧ ∃ m, w' = w.drewN m := by
  rw [has_code]
  have HC : Hid (∀ W : World, Calls Tryz.prog 85 #[.int .u64 n] W fun e w' => e = .returned (.int .i64 (S.cls n : Nat)) ∧ ∃ m, w' = W.drewN m) := fun W => sl_class n W hn
  have HF : Hid (∀ W : World, Calls Tryz.prog 82 #[.int .u64 n, .int .i64 a, .int .i64 1] W fun e w' => e = .returned (.int .u64 (M.fld n a.toNat 1 : Nat)) ∧ ∃ m, w' = W.drewN m) := fun W => field_any n a 1 W hn
  have HS : Hid (∀ W : World, Calls Tryz.prog 84 #[.int .i64 (S.cls n : Nat), .int .i64 a] W fun e w' => e = .returned (.bool (decide (0 ≤ a ∧ a < (S.blk (S.cls n) : Int)))) ∧ ∃ m, w' = W.drewN m) := fun W => sl_stands _ a W
  clear hn
  generalize S.cls n = c at *
  generalize M.fld n a.toNat 1 = x at *
  generalize decide (0 ≤ a ∧ a < (S.blk c : Int)) = b at *
  cases b with
  | false =>
    go_enter Tryz.func48, Tryz.ntmps48
    go_wp2_with fail
    refine (HC.out _).mono ?_
    rintro e w' ⟨rfl, m1, rfl⟩
    go_wp2_with fail
    refine (HS.out _).mono ?_
    rintro e w' ⟨rfl, m2, rfl⟩
    go_wp2
    go_ret
    exact ⟨ret_bool (by simp), _, rfl⟩
  | true =>
    go_enter Tryz.func48, Tryz.ntmps48
    go_wp2_with fail
    refine (HC.out _).mono ?_
    rintro e w' ⟨rfl, m1, rfl⟩
    go_wp2_with fail
    refine (HS.out _).mono ?_
    rintro e w' ⟨rfl, m2, rfl⟩
    go_wp2_with fail
    refine (HF.out _).mono ?_
    rintro e w' ⟨rfl, m3, rfl⟩
    go_wp2
    go_ret
    exact ⟨ret_bool (by rw [Bool.eq_iff_iff]; simp; omega), _, rfl⟩
theorem sl_suits (n : Nat) (c : Int) (w : World) (hn : n < 2 ^ 64) :
    Calls Tryz.prog 86 #[.int .u64 n, .int .i64 c] w fun e w' => e = .returned (.bool (S.sui n c)) ∧ ∃ m, w' = w.drewN m := by
  have HC : Hid (∀ W : World, Calls Tryz.prog 85 #[.int .u64 n] W fun e w' => e = .returned (.int .i64 (S.cls n : Nat)) ∧ ∃ m, w' = W.drewN m) := fun W => sl_class n W hn
  by_cases hc : c = 1 ∨ c = 2
  · have HB : Hid (0 < (S.blk c : Int)) := by
      show 0 < (S.blk c : Int)
      rcases hc with rfl | rfl <;> decide
    by_cases h0 : n = 0
    · subst h0
      have HS : Hid (S.sui 0 c = true) := decide_eq_true ⟨hc, .inl rfl⟩
      have hb := HB.out
      have HBL : Hid (∀ W : World, Calls Tryz.prog 32 #[.int .i64 c] W fun e w' => e = .returned (.int .i64 (S.blk c : Nat)) ∧ ∃ m, w' = W.drewN m) := fun W => sl_blocks c W
      generalize S.blk c = b at *
      go_enter Tryz.func86, Tryz.ntmps86
      go_wp2_with fail
      refine (HBL.out _).mono ?_
      rintro e w' ⟨rfl, m1, rfl⟩
      go_wp2
      go_ret
      exact ⟨ret_bool (by rw [HS.out]), _, rfl⟩
    · have HS : Hid (S.sui n c = decide ((S.cls n : Int) = c)) := by
        show _ = _
        unfold S.sui
        rw [decide_eq_decide]
        constructor
        · rintro ⟨_, h | h⟩
          · exact absurd h h0
          · exact h
        · intro h; exact ⟨hc, .inr h⟩
      have hb := HB.out
      have HBL : Hid (∀ W : World, Calls Tryz.prog 32 #[.int .i64 c] W fun e w' => e = .returned (.int .i64 (S.blk c : Nat)) ∧ ∃ m, w' = W.drewN m) := fun W => sl_blocks c W
      clear hc
      generalize S.blk c = b at *
      generalize S.cls n = k at *
      go_enter Tryz.func86, Tryz.ntmps86
      go_wp2_with fail
      refine (HBL.out _).mono ?_
      rintro e w' ⟨rfl, m1, rfl⟩
      go_wp2_with fail
      refine (HC.out _).mono ?_
      rintro e w' ⟨rfl, m2, rfl⟩
      go_wp2
      go_ret
      exact ⟨ret_bool (by rw [HS.out, Bool.eq_iff_iff]; simp; omega), _, rfl⟩
  · have HB : Hid (((S.blk c : Nat) : Int) = 0) := by show _ = _; unfold S.blk; rw [if_neg (by omega), if_neg (by omega)]; rfl
    have HS : Hid (S.sui n c = false) := decide_eq_false (fun h => hc h.1)
    clear hc
    go_enter Tryz.func86, Tryz.ntmps86
    go_wp2_with fail
    refine (sl_blocks _ _).mono ?_
    rintro e w' ⟨rfl, m1, rfl⟩
    rw [HB.out]
    go_wp2
    go_ret
    exact ⟨ret_bool (by rw [HS.out]), _, rfl⟩
theorem sl_next (n : Nat) (c : Int) (w : World) (hn : n < 2 ^ 64) (hT : TabAt 1 Lib.deBruijn64tab w) :
    Calls Tryz.prog 75 #[.int .u64 n, .int .i64 c] w fun e w' => e = .returned (.int .i64 (S.nxt n c)) ∧ ∃ m, w' = w.drewN m := by
  have HS : Hid (∀ W : World, Calls Tryz.prog 86 #[.int .u64 n, .int .i64 c] W fun e w' => e = .returned (.bool (S.sui n c)) ∧ ∃ m, w' = W.drewN m) := fun W => sl_suits n c W hn
  have HT := Lib.hid hT; clear hT
  unfold S.nxt
  cases h : S.sui n c with
  | false =>
    rw [h] at HS
    rw [if_neg (by decide)]
    clear h
    go_enter Tryz.func75, Tryz.ntmps75
    go_wp2_with fail
    refine (HS.out _).mono ?_
    rintro e w' ⟨rfl, m1, rfl⟩
    go_wp2
    go_ret
    exact ⟨rfl, _, rfl⟩
  | true =>
    rw [h] at HS
    rw [if_pos rfl]
    clear h
    go_enter Tryz.func75, Tryz.ntmps75
    go_wp2_with fail
    refine (HS.out _).mono ?_
    rintro e w' ⟨rfl, m1, rfl⟩
    go_wp2_with fail
    refine (sl_blocks _ _).mono ?_
    rintro e w' ⟨rfl, m2, rfl⟩
    go_wp2_with fail
    refine (low_any n _ _ hn (by exact HT.out)).mono ?_
    rintro e w' ⟨rfl, m3, rfl⟩
    go_wp2
    go_ret
    exact ⟨rfl, _, rfl⟩
/-- What Take puts together. -/
theorem take_code {n : Nat} {c a : Int} (_hn : n < 2 ^ 64) (h : S.tak n c a = true) : M.wth (M.wth n 16 2 c.toNat) a.toNat 1 1 = S.tkW n c a := by
  obtain ⟨k, rfl, h1, h2, hc, hcl, hb, hs, hr, e, _⟩ := S.take_of h
  have hlt := S.tkn_lt n
  have hcle := S.cls_le n
  rcases S.shape n with ⟨h3, _⟩ | ⟨_, h3, _⟩
  · rw [h3] at hr; cases hr
  rw [e, Int.toNat_natCast]
  have e1 : M.wth n 16 2 c.toNat = c.toNat * 65536 + S.tkn n := by
    conv => lhs; rw [h3]
    exact S.set_cls _ _ _ (by omega) (by omega) hlt
  have hbit : (c.toNat * 65536 + S.tkn n).testBit k = false := by
    rw [show c.toNat * 65536 + S.tkn n = 2 ^ 16 * c.toNat + S.tkn n by omega, Nat.testBit_two_pow_mul_add _ hlt, if_pos h2]
    exact hb
  rw [e1, S.set_bit _ _ (by omega) (by omega) hbit]
  omega
theorem sl_take (n : Nat) (c a : Int) (w : World) (hn : n < 2 ^ 64) :
    Calls Tryz.prog 49 #[.int .u64 n, .int .i64 c, .int .i64 a] w fun e w' => e = .returned (.tuple #[.int .u64 (S.tkW n c a : Nat), .bool (S.tak n c a)]) ∧ ∃ m, w' = w.drewN m := by
  have HS : Hid (∀ W : World, Calls Tryz.prog 86 #[.int .u64 n, .int .i64 c] W fun e w' => e = .returned (.bool (S.sui n c)) ∧ ∃ m, w' = W.drewN m) := fun W => sl_suits n c W hn
  have HD : Hid (∀ W : World, Calls Tryz.prog 84 #[.int .i64 c, .int .i64 a] W fun e w' => e = .returned (.bool (decide (0 ≤ a ∧ a < (S.blk c : Int)))) ∧ ∃ m, w' = W.drewN m) := fun W => sl_stands c a W
  have HH : Hid (∀ W : World, Calls Tryz.prog 48 #[.int .u64 n, .int .i64 a] W fun e w' => e = .returned (.bool (S.has n a)) ∧ ∃ m, w' = W.drewN m) := fun W => sl_has n a W hn
  cases hs : S.sui n c with
  | false =>
    have ht : S.tak n c a = false := by unfold S.tak; rw [hs]; rfl
    rw [hs] at HS
    rw [S.take_not ht, ht]
    clear ht hs
    go_enter Tryz.func49, Tryz.ntmps49
    go_wp2_with fail
    refine (HS.out _).mono ?_
    rintro e w' ⟨rfl, m1, rfl⟩
    go_wp2
    go_ret2
    exact ⟨rfl, _, rfl⟩
  | true =>
    cases hd : decide (0 ≤ a ∧ a < (S.blk c : Int)) with
    | false =>
      have ht : S.tak n c a = false := by unfold S.tak; rw [hs, hd]; rfl
      rw [hs] at HS
      rw [hd] at HD
      rw [S.take_not ht, ht]
      clear ht hs hd
      go_enter Tryz.func49, Tryz.ntmps49
      go_wp2_with fail
      refine (HS.out _).mono ?_
      rintro e w' ⟨rfl, m1, rfl⟩
      go_wp2_with fail
      refine (HD.out _).mono ?_
      rintro e w' ⟨rfl, m2, rfl⟩
      go_wp2
      go_ret2
      exact ⟨rfl, _, rfl⟩
    | true =>
      cases hh : S.has n a with
      | true =>
        have ht : S.tak n c a = false := by unfold S.tak; rw [hs, hd, hh]; rfl
        rw [hs] at HS
        rw [hd] at HD
        rw [hh] at HH
        rw [S.take_not ht, ht]
        clear ht hs hd hh
        go_enter Tryz.func49, Tryz.ntmps49
        go_wp2_with fail
        refine (HS.out _).mono ?_
        rintro e w' ⟨rfl, m1, rfl⟩
        go_wp2_with fail
        refine (HD.out _).mono ?_
        rintro e w' ⟨rfl, m2, rfl⟩
        go_wp2_with fail
        refine (HH.out _).mono ?_
        rintro e w' ⟨rfl, m3, rfl⟩
        go_wp2
        go_ret2
        exact ⟨rfl, _, rfl⟩
      | false =>
        have ht : S.tak n c a = true := by unfold S.tak; rw [hs, hd, hh]; rfl
        have HW1 : Hid (∀ W : World, Calls Tryz.prog 81 #[.int .u64 n, .int .i64 16, .int .i64 2, .int .u64 c] W fun e w' => e = .returned (.int .u64 (M.wth n 16 2 c.toNat : Nat)) ∧ ∃ m, w' = W.drewN m) := by
          intro W
          have hc := (S.sui_blk hs).1
          have := with_any n c.toNat 16 2 W hn (by omega)
          rwa [show ((c.toNat : Nat) : Int) = c by omega] at this
        have HW2 : Hid (∀ W : World, Calls Tryz.prog 81 #[.int .u64 (M.wth n 16 2 c.toNat : Nat), .int .i64 a, .int .i64 1, .int .u64 1] W fun e w' => e = .returned (.int .u64 (S.tkW n c a : Nat)) ∧ ∃ m, w' = W.drewN m) := by
          intro W
          have := with_any (M.wth n 16 2 c.toNat) 1 a 1 W (M.wth_lt _ _ _ _) (by decide)
          rwa [show Int.toNat 1 = 1 from rfl, take_code hn ht] at this
        have hc12 := (S.sui_blk hs).1
        rw [hs] at HS
        rw [hd] at HD
        rw [hh] at HH
        rw [ht]
        clear ht hs hd hh
        generalize S.tkW n c a = x at *
        generalize M.wth n 16 2 c.toNat = y at *
        go_enter Tryz.func49, Tryz.ntmps49
        go_wp2_with fail
        refine (HS.out _).mono ?_
        rintro e w' ⟨rfl, m1, rfl⟩
        go_wp2_with fail
        refine (HD.out _).mono ?_
        rintro e w' ⟨rfl, m2, rfl⟩
        go_wp2_with fail
        refine (HH.out _).mono ?_
        rintro e w' ⟨rfl, m3, rfl⟩
        go_wp2_with fail
        refine (HW1.out _).mono ?_
        rintro e w' ⟨rfl, m4, rfl⟩
        go_wp2_with fail
        refine (HW2.out _).mono ?_
        rintro e w' ⟨rfl, m5, rfl⟩
        go_wp2
        go_ret2
        exact ⟨rfl, _, rfl⟩
/-- What Drop puts together. -/
theorem drop_code {n : Nat} {a : Int} (hn : n < 2 ^ 64) (h : S.has n a = true) : S.drW n a = (if M.fld (M.wth n a.toNat 1 0) 0 16 = 0 then 0 else M.wth n a.toNat 1 0) := by
  obtain ⟨k, rfl, h1, h2, hc, hb, hle, hr, h3, e, _⟩ := S.drop_of h
  have hlt := S.tkn_lt n
  have hp := Nat.two_pow_pos k
  have hbit : n.testBit k = true := by rw [S.bit_of hr h2]; exact hb
  rw [e, Int.toNat_natCast, (S.clear_bit n k hn (by omega) hbit).1, S.fld_mod]
  have e1 : (n - 2 ^ k) % 2 ^ 16 = S.tkn n - 2 ^ k := by
    rw [show n - 2 ^ k = S.cls n * 65536 + (S.tkn n - 2 ^ k) by omega]
    omega
  rw [e1]
  by_cases h4 : S.tkn n = 2 ^ k
  · rw [if_pos h4, if_pos (by omega)]
  · rw [if_neg h4, if_neg (by omega)]
theorem sl_drop (n : Nat) (a : Int) (w : World) (hn : n < 2 ^ 64) :
    Calls Tryz.prog 44 #[.int .u64 n, .int .i64 a] w fun e w' => e = .returned (.tuple #[.int .u64 (S.drW n a : Nat), .bool (S.has n a)]) ∧ ∃ m, w' = w.drewN m := by
  have HH : Hid (∀ W : World, Calls Tryz.prog 48 #[.int .u64 n, .int .i64 a] W fun e w' => e = .returned (.bool (S.has n a)) ∧ ∃ m, w' = W.drewN m) := fun W => sl_has n a W hn
  cases hh : S.has n a with
  | false =>
    rw [S.drop_not hh]
    rw [hh] at HH
    clear hh
    go_enter Tryz.func44, Tryz.ntmps44
    go_wp2_with fail
    refine (HH.out _).mono ?_
    rintro e w' ⟨rfl, m1, rfl⟩
    go_wp2
    go_ret2
    exact ⟨rfl, _, rfl⟩
  | true =>
    rw [drop_code hn hh]
    rw [hh] at HH
    have HW : Hid (∀ W : World, Calls Tryz.prog 81 #[.int .u64 n, .int .i64 a, .int .i64 1, .int .u64 0] W fun e w' => e = .returned (.int .u64 (M.wth n a.toNat 1 0 : Nat)) ∧ ∃ m, w' = W.drewN m) := fun W => with_any n 0 a 1 W hn (by decide)
    have HF : Hid (∀ W : World, Calls Tryz.prog 82 #[.int .u64 (M.wth n a.toNat 1 0 : Nat), .int .i64 0, .int .i64 16] W fun e w' => e = .returned (.int .u64 (M.fld (M.wth n a.toNat 1 0) 0 16 : Nat)) ∧ ∃ m, w' = W.drewN m) := fun W => field_any _ 0 16 W (M.wth_lt _ _ _ _)
    clear hh
    generalize M.fld (M.wth n a.toNat 1 0) 0 16 = z at *
    generalize M.wth n a.toNat 1 0 = y at *
    by_cases hz : z = 0
    · subst hz
      rw [if_pos rfl]
      go_enter Tryz.func44, Tryz.ntmps44
      go_wp2_with fail
      refine (HH.out _).mono ?_
      rintro e w' ⟨rfl, m1, rfl⟩
      go_wp2_with fail
      refine (HW.out _).mono ?_
      rintro e w' ⟨rfl, m2, rfl⟩
      go_wp2_with fail
      refine (HF.out _).mono ?_
      rintro e w' ⟨rfl, m3, rfl⟩
      go_wp2
      go_ret2
      exact ⟨rfl, _, rfl⟩
    · rw [if_neg hz]
      go_enter Tryz.func44, Tryz.ntmps44
      go_wp2_with fail
      refine (HH.out _).mono ?_
      rintro e w' ⟨rfl, m1, rfl⟩
      go_wp2_with fail
      refine (HW.out _).mono ?_
      rintro e w' ⟨rfl, m2, rfl⟩
      go_wp2_with fail
      refine (HF.out _).mono ?_
      rintro e w' ⟨rfl, m3, rfl⟩
      go_wp2
      go_ret2
      exact ⟨rfl, _, rfl⟩
end Go.Proofs.YtaceogpdjbikiaaGreatDoor
namespace Go.Proofs.YtaceogpdjbikiaaGreatDoor

open Go.RowKit

theorem info_i64 : (Tryz.prog.info? 3).map (fun i => (i.zero, i.size, i.bytes)) = some (some (.int .i64 0), 1, 8) := by kernel_rfl
/-- A new block of integers reads as its numbers. -/
theorem isInts_new (k : IntKind) (w : World) (zs : List Int) (t : TypeId) (fr : Nat × Nat) (hz : ∀ z ∈ zs, (Lit.int k z).wf = true) (hm : zs.length ≤ maxLen) :
    IsInts k (w.alloc (.cells (zs.map (Value.int k)).toArray t fr)) (.slice (some ⟨w.heap.size, 0, none⟩) zs.length zs.length) zs := by
  refine ⟨_, _, rfl, Nat.le_refl _, hm, .inr ⟨w.heap.size, 0, rfl, fun i hi => ?_⟩, hz⟩
  have hg := heap_alloc_new w (.cells (zs.map (Value.int k)).toArray t fr)
  rw [Nat.zero_add]
  unfold World.cell?
  simp only [hg]
  simp [hi]
theorem wf_small {z : Int} (h0 : 0 ≤ z) (h1 : z < 1000) : (Lit.int .i64 z).wf = true := by
  simp [Lit.wf, IntKind.min, IntKind.max, IntKind.signed, IntKind.bits]
  omega
theorem ls_wf (t k : Nat) (hk : k ≤ 16) : ∀ z ∈ S.ls t k, (Lit.int .i64 z).wf = true := fun z hz => by
  have := S.ls_range t k z hz
  exact wf_small this.1 (by omega)
/-- What a call leaves that hands back a list of numbers. -/
def LsPost (w : World) (l : List Int) (e : Ending) (w' : World) : Prop := ∃ a cap, e = .returned (.slice a l.length cap) ∧ IsInts .i64 w' (.slice a l.length cap) l ∧ Below w.heap.size w w'
theorem IsInts.form {k : IntKind} {w : World} {v : Value} {l : List Int} (h : IsInts k w v l) : ∃ a cap, v = .slice a l.length cap ∧ l.length ≤ cap ∧ cap ≤ maxLen := by
  obtain ⟨a, cap, h1, h2, h3, _⟩ := h
  exact ⟨a, cap, h1, h2, h3⟩
theorem IsInts.at6 {k : IntKind} {w : World} {A : Option Addr} {n c : Nat} {zs : List Int} (h : IsInts k w (.slice A n c) zs) {i : Nat} (hi : i < zs.length) :
    ∃ b o, A = some ⟨b, o, none⟩ ∧ n = zs.length ∧ n ≤ c ∧ c ≤ maxLen ∧ w.cell? ⟨b, o + i, none⟩ = some (.int k (zs.getD i 0)) := by
  obtain ⟨a, cap, h1, h2, h3, h4, _⟩ := h
  simp only [Value.slice.injEq] at h1
  obtain ⟨rfl, rfl, rfl⟩ := h1
  rcases h4 with rfl | ⟨b, o, rfl, hc⟩
  · cases hi
  · exact ⟨b, o, rfl, rfl, h2, h3, hc i hi⟩
/-- .. in new memory. -/
def LsNew (w : World) (l : List Int) (e : Ending) (w' : World) : Prop := ∃ a cap, e = .returned (.slice a l.length cap) ∧ IsInts .i64 w' (.slice a l.length cap) l ∧ Below w.heap.size w w' ∧ ∀ k, (Value.slice a l.length cap).ownBlock = some k → w.heap.size ≤ k
theorem sl_list_new (n : Nat) (w : World) (hn : n < 2 ^ 64) :
    Calls Tryz.prog 51 #[.int .u64 n] w (LsNew w (S.ls (S.tkn n) 16)) := by
  obtain ⟨i0, hi, hz0, hz1, hz2⟩ := info_parts info_i64
  have HC : Hid (∀ W : World, Calls Tryz.prog 85 #[.int .u64 n] W fun e w' => e = .returned (.int .i64 (S.cls n : Nat)) ∧ ∃ m, w' = W.drewN m) := fun W => sl_class n W hn
  have HH : Hid (∀ (k : Nat) (W : World), Calls Tryz.prog 48 #[.int .u64 n, .int .i64 (k : Int)] W fun e w' => e = .returned (.bool ((S.tkn n).testBit k)) ∧ ∃ m, w' = W.drewN m) := by
    intro k W
    have := sl_has n (k : Int) W hn
    unfold S.has at this
    rwa [decide_eq_true (by omega), Bool.true_and, Int.toNat_natCast] at this
  have HE := Lib.hid (S.ls_blk n)
  have hb16 := S.blk_le (S.cls n)
  have HB : Hid (∀ W : World, Calls Tryz.prog 32 #[.int .i64 (S.cls n : Nat)] W fun e w' => e = .returned (.int .i64 (S.blk (S.cls n) : Nat)) ∧ ∃ m, w' = W.drewN m) := fun W => sl_blocks _ W
  generalize S.blk (S.cls n) = b at *
  generalize S.cls n = c at *
  generalize S.tkn n = t at *
  clear hn
  go_enter Tryz.func51, Tryz.ntmps51
  go_wp2_with fail
  refine (HC.out _).mono ?_
  rintro e w' ⟨rfl, m1, rfl⟩
  go_wp2_with fail
  refine (HB.out _).mono ?_
  rintro e w' ⟨rfl, m2, rfl⟩
  go_wp2_with fail
  go_loopw [3, 4, 8] (fun l _ k wr => ∃ j : Nat, j ≤ b ∧ k = .int .i64 j ∧ wr.ownsRow w.heap.size 3 1 l (S.ls t j).length ((S.ls t j).map (Value.int .i64)) ∧ Below w.heap.size w wr) (fun _ _ k _ => b - (intOf k).toNat)
  case atStart => exact ⟨0, by omega, rfl, owns_nil, by exact below_drewN' (Below.refl _ _) _⟩
  case round =>
    obtain ⟨j, hj, rfl, hown, hbel⟩ := hrel
    have HO := Lib.hid hown
    have HBE := Lib.hid hbel
    obtain ⟨a0, c0, rfl, _, _⟩ := owns_form hown
    have hlen : (S.ls t j).length ≤ 16 := by rw [S.ls_length]; exact Nat.le_trans (S.pc_le t j) (by omega)
    clear hown hbel
    by_cases hlt : j < b
    · have HSU : Hid (S.ls t (j + 1) = S.ls t j ++ (if t.testBit j then [(j : Int)] else [])) := rfl
      cases hbit : t.testBit j with
      | false =>
        have HHJ := fun W => HH.out j W
        rw [hbit] at HHJ
        have HHK := Lib.hid HHJ
        have HS2 : Hid (S.ls t (j + 1) = S.ls t j) := by show _ = _; rw [HSU.out, hbit]; simp
        clear HHJ hbit
        generalize S.ls t j = L at *
        go_wp2_with fail
        refine (HHK.out _).mono ?_
        rintro e w' ⟨rfl, m, rfl⟩
        go_wp2
        go_roundw
        case rel => exact ⟨j + 1, by omega, by go_num, by rw [HS2.out]; exact owns_below HO.out (below_drewN' (Below.refl _ _) _), below_drewN' HBE.out _⟩
        case measure => simp [intOf]; omega
      | true =>
        have HHJ := fun W => HH.out j W
        rw [hbit] at HHJ
        have HHK := Lib.hid HHJ
        have HS2 : Hid (S.ls t (j + 1) = S.ls t j ++ [(j : Int)]) := by show _ = _; rw [HSU.out, hbit]; simp
        clear HHJ hbit
        generalize S.ls t j = L at *
        have HO3 : Hid (∀ (m : Nat) o, ((wr.drewN m).alloc o).ownsRow w.heap.size 3 1 (.slice a0 L.length c0) L.length (L.map (Value.int .i64))) := fun m o => owns_below HO.out ((below_drewN' (Below.refl _ _) m).alloc (Nat.le_refl _) o)
        have HB3 : Hid (∀ (m : Nat) o, Below w.heap.size w ((wr.drewN m).alloc o)) := fun m o => (below_drewN' HBE.out m).alloc HBE.out.size o
        have HI1 : Hid (∀ (W : World) t, IsInts .i64 (W.alloc (.cells #[.int .i64 (j : Int)] t (0, 0))) (.slice (some ⟨W.heap.size, 0, none⟩) 1 1) [(j : Int)]) := fun W t => isInts_new .i64 W [(j : Int)] t (0, 0) (by intro z hz; obtain rfl := List.mem_singleton.1 hz; exact wf_small (by omega) (by omega)) (by unfold maxLen; simp)
        go_wp2_with fail
        refine (HHK.out _).mono ?_
        rintro e w' ⟨rfl, m, rfl⟩
        go_wp2_with (at_builtin; refine wpList_append_ints rfl (.tmp 14) (.tmp 16) 37 rfl .i64 w.heap.size 3 i0 _ 8 Tryz.underlying37 hi hz0 hz1 hz2 rfl _ _ _ rfl (HO3.out _ _) _ 1 1 _ rfl (HI1.out _ _) (by unfold maxLen; omega) (by omega) (HB3.out _ _).size ?_)
        intro v' w5 hown' hgr
        have HO5 : Hid (w5.ownsRow w.heap.size 3 1 v' (S.ls t (j + 1)).length ((S.ls t (j + 1)).map (Value.int .i64))) := by
          show World.ownsRow _ _ _ _ _ _ _
          rw [HS2.out]
          simpa using hown'
        have HB5 : Hid (Below w.heap.size w w5) := (HB3.out _ _).grown hgr (HB3.out _ _).size (fun k hk => owns_block HO.out k hk)
        clear hown' hgr
        go_wp2
        go_roundw
        case rel => exact ⟨j + 1, by omega, by go_num, HO5.out, HB5.out⟩
        case measure => simp [intOf]; omega
    · obtain rfl : j = b := by omega
      rw [HE.out] at HO
      have HI := Lib.hid (IsInts.of_own HO.out (ls_wf t 16 (Nat.le_refl _)))
      have HNW := Lib.hid (fun k hk => owns_block HO.out k hk)
      have HL2 := HE.out
      rw [HL2]
      go_wp2
      go_ret
      exact ⟨_, _, rfl, HI.out, HBE.out, HNW.out⟩
theorem sl_list (n : Nat) (w : World) (hn : n < 2 ^ 64) :
    Calls Tryz.prog 51 #[.int .u64 n] w (LsPost w (S.ls (S.tkn n) 16)) :=
  (sl_list_new n w hn).mono fun _ _ ⟨a, cap, h1, h2, h3, _⟩ => ⟨a, cap, h1, h2, h3⟩
end Go.Proofs.YtaceogpdjbikiaaGreatDoor
