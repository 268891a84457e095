
/- Plain mathematics of layer 1: bits of words as natural numbers, words as bytes. Nothing of the program; no condition but the ranges named. -/
import Derived.Lib.TrailingZeros

namespace Go.Proofs.YtbaealdabplmdaaDoor.M

/-- The bits from low on, size of them. -/
def fld (n low size : Nat) : Nat := n / 2 ^ low % 2 ^ size

theorem testBit_fld (n low size i : Nat) : (fld n low size).testBit i = (decide (i < size) && n.testBit (low + i)) := by
  unfold fld
  rw [Nat.testBit_mod_two_pow, Nat.testBit_div_two_pow, Nat.add_comm]

theorem fld_lt (n low size : Nat) (hn : n < 2 ^ 64) : fld n low size < 2 ^ 64 := by
  unfold fld
  have h1 : n / 2 ^ low % 2 ^ size ≤ n / 2 ^ low := Nat.mod_le _ _
  have h2 : n / 2 ^ low ≤ n := Nat.div_le_self _ _
  omega

theorem testBit_high {n : Nat} (hn : n < 2 ^ 64) {i : Nat} (hi : 64 ≤ i) : n.testBit i = false :=
  Nat.testBit_lt_two_pow (Nat.lt_of_lt_of_le hn (Nat.pow_le_pow_right (by decide) hi))

theorem fld_high (n low size : Nat) (hn : n < 2 ^ 64) (hl : 64 ≤ low) : fld n low size = 0 := by
  apply Nat.eq_of_testBit_eq
  intro i
  rw [testBit_fld, testBit_high hn (by omega)]; simp

theorem fld_sat (n low size : Nat) (hn : n < 2 ^ 64) (hs : 64 ≤ size) : fld n low size = fld n low 64 := by
  apply Nat.eq_of_testBit_eq
  intro i
  rw [testBit_fld, testBit_fld]
  by_cases h : i < 64
  · simp [h, show i < size by omega]
  · rw [testBit_high hn (by omega)]; simp

theorem fld_zero (n low : Nat) : fld n low 0 = 0 := by simp [fld, Nat.mod_one]

theorem mod_succ (x k : Nat) : x % 2 ^ (k + 1) = x % 2 ^ k + (if x.testBit k then 2 ^ k else 0) := by
  rw [Nat.mod_pow_succ, Nat.testBit_eq_decide_div_mod_eq]
  have h2 : x / 2 ^ k % 2 = 0 ∨ x / 2 ^ k % 2 = 1 := by omega
  rcases h2 with h | h <;> rw [h] <;> simp

theorem fld_succ (n low k : Nat) : fld n low (k + 1) = fld n low k + (if n.testBit (low + k) then 2 ^ k else 0) := by
  unfold fld
  rw [mod_succ, Nat.testBit_div_two_pow, Nat.add_comm k low]

/-- A bit, as the reference asks it. -/
theorem bit_iff (n i : Nat) : (n / 2 ^ i % 2 = 1) ↔ n.testBit i = true := by
  rw [Nat.testBit_eq_decide_div_mod_eq]; simp

/-- What bit answers. -/
def bitS (n : Nat) (i : Int) : Bool := decide (0 ≤ i ∧ i ≤ 63) && n.testBit i.toNat
theorem bitS_in (n : Nat) (i : Int) (h : 0 ≤ i ∧ i ≤ 63) : bitS n i = n.testBit i.toNat := by simp [bitS, h]
theorem bitS_out (n : Nat) (i : Int) (h : ¬ (0 ≤ i ∧ i ≤ 63)) : bitS n i = false := by simp only [bitS, decide_eq_false h, Bool.false_and]

/-- Adding a bit that is not set. -/
theorem add_bit (y k : Nat) (h : y.testBit k = false) : y + 2 ^ k = y ||| 2 ^ k := by
  have e : y = 2 ^ (k + 1) * (y / 2 ^ (k + 1)) + y % 2 ^ k := by
    have h1 := Nat.div_add_mod y (2 ^ (k + 1))
    rw [mod_succ, h] at h1
    simp at h1
    omega
  have hlt : y % 2 ^ k < 2 ^ k := Nat.mod_lt _ (Nat.two_pow_pos _)
  have e2 : y + 2 ^ k = 2 ^ k * (2 * (y / 2 ^ (k + 1)) + 1) + y % 2 ^ k := by
    conv => lhs; rw [e]
    rw [Nat.pow_succ, Nat.mul_add, Nat.mul_assoc]
    simp only [Nat.mul_one]
    omega
  apply Nat.eq_of_testBit_eq
  intro i
  rw [Nat.testBit_or, Nat.testBit_two_pow]
  have ey : ∀ i, y.testBit i = (2 ^ k * (2 * (y / 2 ^ (k + 1))) + y % 2 ^ k).testBit i := by
    intro i
    congr 1
    conv => lhs; rw [e]
    rw [Nat.pow_succ, Nat.mul_assoc]
  rw [e2, ey, Nat.testBit_two_pow_mul_add _ hlt, Nat.testBit_two_pow_mul_add _ hlt]
  by_cases hi : i < k
  · simp [hi]; omega
  · simp only [hi, if_false]
    by_cases hk : k = i
    · subst hk; simp [Nat.testBit_zero]
    · obtain ⟨j, rfl⟩ : ∃ j, i = k + (j + 1) := ⟨i - k - 1, by omega⟩
      have e3 : k + (j + 1) - k = j + 1 := by omega
      rw [e3, Nat.testBit_succ, Nat.testBit_succ]
      have d1 : (2 * (y / 2 ^ (k + 1)) + 1) / 2 = y / 2 ^ (k + 1) := by omega
      have d2 : 2 * (y / 2 ^ (k + 1)) / 2 = y / 2 ^ (k + 1) := by omega
      rw [d1, d2]; simp

/-- Taking a bit that is set. -/
theorem sub_bit (x k : Nat) (h : x.testBit k = true) : x - 2 ^ k = x ^^^ 2 ^ k ∧ 2 ^ k ≤ x := by
  have h1 : (x ^^^ 2 ^ k).testBit k = false := by rw [Nat.testBit_xor, Nat.testBit_two_pow, h]; simp
  have h2 := add_bit _ _ h1
  have h3 : (x ^^^ 2 ^ k) ||| 2 ^ k = x := by
    apply Nat.eq_of_testBit_eq
    intro i
    rw [Nat.testBit_or, Nat.testBit_xor, Nat.testBit_two_pow]
    by_cases hk : k = i
    · subst hk; simp [h]
    · simp [hk]
  rw [h3] at h2
  omega

/-- The place of bits, within a word. -/
def plc (low size : Nat) : Nat := (2 ^ size - 1) * 2 ^ low % 2 ^ 64
theorem testBit_plc (low size i : Nat) : (plc low size).testBit i = (decide (i < 64) && (decide (low ≤ i) && decide (i < low + size))) := by
  unfold plc
  rw [Nat.testBit_mod_two_pow, Nat.testBit_mul_two_pow, Nat.testBit_two_pow_sub_one]
  by_cases h : low ≤ i
  · have e : decide (i - low < size) = decide (i < low + size) := by simp; omega
    simp [h, e]
  · simp [h]
theorem plc_lt (low size : Nat) : plc low size < 2 ^ 64 := Nat.mod_lt _ (by decide)

/-- A word with other bits. -/
def wth (n low size v : Nat) : Nat := (n &&& (2 ^ 64 - 1 - plc low size)) ||| ((v * 2 ^ low % 2 ^ 64) &&& plc low size)

theorem testBit_wth (n low size v i : Nat) (hn : n < 2 ^ 64) :
    (wth n low size v).testBit i = if i < 64 ∧ low ≤ i ∧ i < low + size then v.testBit (i - low) else n.testBit i := by
  unfold wth
  have e : 2 ^ 64 - 1 - plc low size = 2 ^ 64 - (plc low size + 1) := by omega
  rw [Nat.testBit_or, Nat.testBit_and, Nat.testBit_and, e, Nat.testBit_two_pow_sub_succ (plc_lt _ _), testBit_plc, Nat.testBit_mod_two_pow, Nat.testBit_mul_two_pow]
  by_cases h64 : i < 64
  · by_cases hl : low ≤ i
    · by_cases hs : i < low + size <;> simp [h64, hl, hs]
    · simp [h64, hl]
  · have hh := testBit_high hn (i := i) (by omega)
    simp [h64, hh]

theorem wth_lt (n low size v : Nat) : wth n low size v < 2 ^ 64 := by
  unfold wth
  exact Nat.or_lt_two_pow (Nat.and_lt_two_pow _ (by omega)) (Nat.and_lt_two_pow _ (plc_lt _ _))

theorem wth_zero (n low v : Nat) (hn : n < 2 ^ 64) : wth n low 0 v = n := by
  apply Nat.eq_of_testBit_eq
  intro i
  rw [testBit_wth _ _ _ _ _ hn, if_neg (by omega)]

/-- One bit more, as the reference goes. -/
theorem wth_succ (n low k v : Nat) (hn : n < 2 ^ 64) (h : low + k < 64) :
    wth n low (k + 1) v = (if (wth n low k v).testBit (low + k) then wth n low k v - 2 ^ (low + k) else wth n low k v) + (if v.testBit k then 2 ^ (low + k) else 0) := by
  have hx : ∀ x : Nat, x = (if (wth n low k v).testBit (low + k) then wth n low k v - 2 ^ (low + k) else wth n low k v) → ∀ i, x.testBit i = (if i = low + k then false else (wth n low k v).testBit i) := by
    intro x hx i
    subst hx
    split
    · rename_i hb
      rw [(sub_bit _ _ hb).1, Nat.testBit_xor, Nat.testBit_two_pow]
      by_cases hi : i = low + k
      · subst hi; simp [hb]
      · rw [if_neg hi, decide_eq_false (by omega)]; simp
    · rename_i hb
      by_cases hi : i = low + k
      · subst hi; simpa using hb
      · rw [if_neg hi]
  generalize hy : (if (wth n low k v).testBit (low + k) then wth n low k v - 2 ^ (low + k) else wth n low k v) = y
  have hyb := hx y hy.symm
  have hyk : y.testBit (low + k) = false := by rw [hyb, if_pos rfl]
  have hw : ∀ i, (wth n low (k + 1) v).testBit i = if i = low + k then v.testBit k else (wth n low k v).testBit i := by
    intro i
    rw [testBit_wth _ _ _ _ _ hn, testBit_wth _ _ _ _ _ hn]
    by_cases hi : i = low + k
    · subst hi; rw [if_pos (by omega), if_pos rfl]; congr 1; omega
    · rw [if_neg hi]
      by_cases h2 : i < 64 ∧ low ≤ i ∧ i < low + k
      · rw [if_pos h2, if_pos (by omega)]
      · rw [if_neg h2, if_neg (by omega)]
  split
  · rename_i hv
    rw [add_bit _ _ hyk]
    apply Nat.eq_of_testBit_eq
    intro i
    rw [hw, Nat.testBit_or, Nat.testBit_two_pow, hyb]
    by_cases hi : i = low + k
    · subst hi; simp [hv]
    · simp [hi]; intro h'; omega
  · rename_i hv
    apply Nat.eq_of_testBit_eq
    intro i
    rw [hw, Nat.add_zero, hyb]
    by_cases hi : i = low + k
    · subst hi; simpa using hv
    · simp [hi]

theorem wth_sat (n low size v k : Nat) (hn : n < 2 ^ 64) (h : 64 ≤ low + k) (hk : k ≤ size) : wth n low size v = wth n low k v := by
  apply Nat.eq_of_testBit_eq
  intro i
  rw [testBit_wth _ _ _ _ _ hn, testBit_wth _ _ _ _ _ hn]
  by_cases h2 : i < 64 ∧ low ≤ i ∧ i < low + k
  · rw [if_pos h2, if_pos (by omega)]
  · rw [if_neg h2, if_neg (by omega)]

/-- The lowest bit that is not set; 64: there is none. -/
def low1 (n : Nat) : Nat := Go.Lib.ctz 64 (2 ^ 64 - 1 - n)
theorem low1_spec (n : Nat) (hn : n < 2 ^ 64) : low1 n ≤ 64 ∧ (∀ j, j < low1 n → n.testBit j = true) ∧ (low1 n < 64 → n.testBit (low1 n) = false) := by
  have hb : ∀ i, (2 ^ 64 - 1 - n).testBit i = (decide (i < 64) && !n.testBit i) := by
    intro i
    rw [show 2 ^ 64 - 1 - n = 2 ^ 64 - (n + 1) by omega, Nat.testBit_two_pow_sub_succ hn]
  unfold low1 Go.Lib.ctz
  split
  · rename_i h0
    refine ⟨Nat.le_refl _, ?_, fun h => absurd h (by decide)⟩
    intro j hj
    have := hb j
    rw [h0] at this
    simp [hj] at this
    exact this
  · rename_i h0
    have hlt : 2 ^ 64 - 1 - n < 2 ^ 64 := by omega
    obtain ⟨m, hm, hk⟩ := Go.Lib.ctzFrom_spec 64 (2 ^ 64 - 1 - n) (by omega) hlt
    generalize Go.Lib.ctzFrom 64 (2 ^ 64 - 1 - n) = k at *
    rw [hm] at hb
    refine ⟨by omega, ?_, ?_⟩
    · intro j hj
      have := hb j
      rw [Nat.mul_comm, Nat.testBit_mul_two_pow] at this
      simp [show ¬ k ≤ j by omega, show j < 64 by omega] at this
      exact this
    · intro _
      have := hb k
      rw [Nat.mul_comm, Nat.testBit_mul_two_pow] at this
      simp [hk, Nat.testBit_zero] at this
      exact this

def lowS (n : Nat) (many : Int) : Int := if (low1 n : Int) < min many 64 then (low1 n : Int) else -1

/-- The word at a place of bytes, k of them, the lowest first. -/
def gv (zs : List Int) (at' : Nat) : Nat → Nat
  | 0 => 0
  | k + 1 => gv zs at' k + (zs.getD (at' + k) 0).toNat * 256 ^ k
/-- The same from above: the k highest. -/
def gh (zs : List Int) (at' : Nat) : Nat → Nat
  | 0 => 0
  | k + 1 => gh zs at' k * 256 + (zs.getD (at' + (7 - k)) 0).toNat
theorem gh_gv (zs : List Int) (at' : Nat) : gh zs at' 8 = gv zs at' 8 := by
  simp only [gh, gv, show 7 - 7 = 0 from rfl, show 7 - 6 = 1 from rfl, show 7 - 5 = 2 from rfl, show 7 - 4 = 3 from rfl, show 7 - 3 = 4 from rfl, show 7 - 2 = 5 from rfl, show 7 - 1 = 6 from rfl, show 7 - 0 = 7 from rfl]
  omega
theorem getD_range {zs : List Int} (hz : ∀ z ∈ zs, 0 ≤ z ∧ z ≤ 255) (i : Nat) : 0 ≤ zs.getD i 0 ∧ zs.getD i 0 ≤ 255 := by
  by_cases h : i < zs.length
  · have e : zs.getD i 0 = zs[i] := by simp [h]
    rw [e]; exact hz _ (List.getElem_mem h)
  · have e : zs.getD i 0 = 0 := by simp [List.getElem?_eq_none (Nat.le_of_not_lt h)]
    rw [e]; exact ⟨by decide, by decide⟩
theorem gv_lt {zs : List Int} (hz : ∀ z ∈ zs, 0 ≤ z ∧ z ≤ 255) (at' k : Nat) : gv zs at' k < 256 ^ k := by
  induction k with
  | zero => simp [gv]
  | succ k ih =>
    have h := getD_range hz (at' + k)
    have h2 : (zs.getD (at' + k) 0).toNat ≤ 255 := by omega
    have h3 : (zs.getD (at' + k) 0).toNat * 256 ^ k ≤ 255 * 256 ^ k := Nat.mul_le_mul_right _ h2
    simp only [gv, Nat.pow_succ]
    omega
theorem gh_lt {zs : List Int} (hz : ∀ z ∈ zs, 0 ≤ z ∧ z ≤ 255) (at' k : Nat) : gh zs at' k < 256 ^ k := by
  induction k with
  | zero => simp [gh]
  | succ k ih =>
    have h := getD_range hz (at' + (7 - k))
    have h2 : (zs.getD (at' + (7 - k)) 0).toNat ≤ 255 := by omega
    simp only [gh, Nat.pow_succ]
    omega

/-- Bytes with the k lowest bytes of a number at a place. -/
def pv (zs : List Int) (at' n : Nat) : Nat → List Int
  | 0 => zs
  | k + 1 => (pv zs at' n k).set (at' + k) ((n / 256 ^ k % 256 : Nat) : Int)
theorem pv_length (zs : List Int) (at' n k : Nat) : (pv zs at' n k).length = zs.length := by
  induction k with
  | zero => rfl
  | succ k ih => simp [pv, ih]
theorem pv_range {zs : List Int} (hz : ∀ z ∈ zs, 0 ≤ z ∧ z ≤ 255) (at' n k : Nat) : ∀ z ∈ pv zs at' n k, 0 ≤ z ∧ z ≤ 255 := by
  induction k with
  | zero => exact hz
  | succ k ih =>
    intro z h
    rcases List.mem_or_eq_of_mem_set h with h | h
    · exact ih z h
    · omega
theorem pv_getD (zs : List Int) (at' n k i : Nat) (hi : i < zs.length) :
    (pv zs at' n k).getD i 0 = if at' ≤ i ∧ i < at' + k then ((n / 256 ^ (i - at') % 256 : Nat) : Int) else zs.getD i 0 := by
  induction k with
  | zero => rw [if_neg (by omega)]; rfl
  | succ k ih =>
    simp only [pv, List.getD_eq_getElem?_getD, List.getElem?_set] at ih ⊢
    by_cases h : at' + k = i
    · subst h
      rw [if_pos rfl, if_pos (by rw [pv_length]; exact hi), if_pos (by omega)]
      simp
    · rw [if_neg h, ih]
      by_cases h2 : at' ≤ i ∧ i < at' + k
      · rw [if_pos h2, if_pos (by omega)]
      · rw [if_neg h2, if_neg (by omega)]
/-- Is there a word at a place of so many bytes? -/
def stands (len : Nat) (at' : Int) : Bool := decide (0 ≤ at' ∧ at' % 8 = 0 ∧ at' + 8 ≤ (len : Int))
/-- What Get answers of a word. -/
def getW (zs : List Int) (at' : Int) : Nat := if stands zs.length at' then gv zs at'.toNat 8 else 0
/-- What Put answers of bytes. -/
def putB (zs : List Int) (at' : Int) (n : Nat) : List Int := if stands zs.length at' then pv zs at'.toNat n 8 else zs
theorem gv_of (x : Nat) (zs : List Int) (at' : Nat) (h : ∀ i, i < 8 → zs.getD (at' + i) 0 = ((x / 256 ^ i % 256 : Nat) : Int)) (hx : x < 2 ^ 64) : gv zs at' 8 = x := by
  simp only [gv]
  rw [h 0 (by decide), h 1 (by decide), h 2 (by decide), h 3 (by decide), h 4 (by decide), h 5 (by decide), h 6 (by decide), h 7 (by decide)]
  simp only [Int.toNat_natCast]
  omega
theorem gv_congr (zs ys : List Int) (at' k : Nat) (h : ∀ i, i < k → zs.getD (at' + i) 0 = ys.getD (at' + i) 0) : gv zs at' k = gv ys at' k := by
  induction k with
  | zero => rfl
  | succ k ih => simp only [gv]; rw [ih (fun i hi => h i (by omega)), h k (by omega)]
/-- What was put is got. -/
theorem get_put (zs : List Int) (at' n : Nat) (h : at' + 8 ≤ zs.length) (hn : n < 2 ^ 64) : gv (pv zs at' n 8) at' 8 = n :=
  gv_of n _ _ (fun i hi => by rw [pv_getD _ _ _ _ _ (by omega), if_pos (by omega)]; congr 3; congr 1; omega) hn
/-- Other words stay. -/
theorem get_put_other (zs : List Int) (at' n b : Nat) (hb : b + 8 ≤ zs.length) (hd : b + 8 ≤ at' ∨ at' + 8 ≤ b) : gv (pv zs at' n 8) b 8 = gv zs b 8 :=
  gv_congr _ _ _ _ (fun i hi => by rw [pv_getD _ _ _ _ _ (by omega), if_neg (by omega)])
end Go.Proofs.YtbaealdabplmdaaDoor.M
