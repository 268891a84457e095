/- Math: Plain mathematics of layer 1: bits of words as natural numbers, words as bytes. Nothing of the program; no condition but the ranges named.
Bits: How the program's operations on words of 64 bits read as plain mathematics (Math). No condition but the ranges named.
Mem: Slices of bytes in memory: 'IsBytes w v zs': the slice value v reads in the world w as the numbers zs. Nothing of the program's text.
App: append of a slice that reads as integers (nil or not) onto a row of the call's own; rows of the call's own read as integers. Nothing of the program's text.
Gp: Contracts of word.Get, word.Put and of the reference's Get and Put, for seats that hold these of layer 1 alone. What was there stays. No condition but the ranges named.
Wa: Contracts of the small functions of layer 1's reference (power, bit) and of the program's word.ones, word.stands, word.Field, word.With: what each call returns; nothing is written. No condition but the ranges named.
Wb: Contracts of the reference's Field, With, Low and of the program's word.Low (where the table of math/bits.TrailingZeros64 holds its numbers). Nothing is written. No condition but the ranges named. -/
import Derived.Lib.TrailingZeros
import Derived.WalkKit
import Derived.Test.YtaceogpdjbikiaaGreatDoorChecked
import Derived.WalkSmall
import Derived.Laws.CopyOwn
import Derived.Maps.AppendAt
import Derived.ChangeSlices
import Derived.WalkSpells
import Derived.WalkLawsBesides
import Derived.Lib.Hide
import Derived.Deep.QuietTactic
import Derived.BigQuiet
import Derived.Shelf.Spec.TrailingZeros
namespace Go.Proofs.YtaceogpdjbikiaaGreatDoor.M

/-- The bits from low on, size of them. -/
def fld (n low size : Nat) : Nat := n / 2 ^ low % 2 ^ size

theorem testBit_fld (n low size i : Nat) : (fld n low size).testBit i = (decide (i < size) && n.testBit (low + i)) := by
  unfold fld
  rw [Nat.testBit_mod_two_pow, Nat.testBit_div_two_pow, Nat.add_comm]

theorem fld_lt (n low size : Nat) (hn : n < 2 ^ 64) : fld n low size < 2 ^ 64 := by
  unfold fld
  have h1 : n / 2 ^ low % 2 ^ size ≤ n / 2 ^ low := Nat.mod_le _ _
  have h2 : n / 2 ^ low ≤ n := Nat.div_le_self _ _
  omega

theorem testBit_high {n : Nat} (hn : n < 2 ^ 64) {i : Nat} (hi : 64 ≤ i) : n.testBit i = false :=
  Nat.testBit_lt_two_pow (Nat.lt_of_lt_of_le hn (Nat.pow_le_pow_right (by decide) hi))

theorem fld_high (n low size : Nat) (hn : n < 2 ^ 64) (hl : 64 ≤ low) : fld n low size = 0 := by
  apply Nat.eq_of_testBit_eq
  intro i
  rw [testBit_fld, testBit_high hn (by omega)]; simp

theorem fld_sat (n low size : Nat) (hn : n < 2 ^ 64) (hs : 64 ≤ size) : fld n low size = fld n low 64 := by
  apply Nat.eq_of_testBit_eq
  intro i
  rw [testBit_fld, testBit_fld]
  by_cases h : i < 64
  · simp [h, show i < size by omega]
  · rw [testBit_high hn (by omega)]; simp

theorem fld_zero (n low : Nat) : fld n low 0 = 0 := by simp [fld, Nat.mod_one]

theorem mod_succ (x k : Nat) : x % 2 ^ (k + 1) = x % 2 ^ k + (if x.testBit k then 2 ^ k else 0) := by
  rw [Nat.mod_pow_succ, Nat.testBit_eq_decide_div_mod_eq]
  have h2 : x / 2 ^ k % 2 = 0 ∨ x / 2 ^ k % 2 = 1 := by omega
  rcases h2 with h | h <;> rw [h] <;> simp

theorem fld_succ (n low k : Nat) : fld n low (k + 1) = fld n low k + (if n.testBit (low + k) then 2 ^ k else 0) := by
  unfold fld
  rw [mod_succ, Nat.testBit_div_two_pow, Nat.add_comm k low]

/-- A bit, as the reference asks it. -/
theorem bit_iff (n i : Nat) : (n / 2 ^ i % 2 = 1) ↔ n.testBit i = true := by
  rw [Nat.testBit_eq_decide_div_mod_eq]; simp

/-- What bit answers. -/
def bitS (n : Nat) (i : Int) : Bool := decide (0 ≤ i ∧ i ≤ 63) && n.testBit i.toNat
theorem bitS_in (n : Nat) (i : Int) (h : 0 ≤ i ∧ i ≤ 63) : bitS n i = n.testBit i.toNat := by simp [bitS, h]
theorem bitS_out (n : Nat) (i : Int) (h : ¬ (0 ≤ i ∧ i ≤ 63)) : bitS n i = false := by simp only [bitS, decide_eq_false h, Bool.false_and]

/-- Adding a bit that is not set. -/
theorem add_bit (y k : Nat) (h : y.testBit k = false) : y + 2 ^ k = y ||| 2 ^ k := by
  have e : y = 2 ^ (k + 1) * (y / 2 ^ (k + 1)) + y % 2 ^ k := by
    have h1 := Nat.div_add_mod y (2 ^ (k + 1))
    rw [mod_succ, h] at h1
    simp at h1
    omega
  have hlt : y % 2 ^ k < 2 ^ k := Nat.mod_lt _ (Nat.two_pow_pos _)
  have e2 : y + 2 ^ k = 2 ^ k * (2 * (y / 2 ^ (k + 1)) + 1) + y % 2 ^ k := by
    conv => lhs; rw [e]
    rw [Nat.pow_succ, Nat.mul_add, Nat.mul_assoc]
    simp only [Nat.mul_one]
    omega
  apply Nat.eq_of_testBit_eq
  intro i
  rw [Nat.testBit_or, Nat.testBit_two_pow]
  have ey : ∀ i, y.testBit i = (2 ^ k * (2 * (y / 2 ^ (k + 1))) + y % 2 ^ k).testBit i := by
    intro i
    congr 1
    conv => lhs; rw [e]
    rw [Nat.pow_succ, Nat.mul_assoc]
  rw [e2, ey, Nat.testBit_two_pow_mul_add _ hlt, Nat.testBit_two_pow_mul_add _ hlt]
  by_cases hi : i < k
  · simp [hi]; omega
  · simp only [hi, if_false]
    by_cases hk : k = i
    · subst hk; simp [Nat.testBit_zero]
    · obtain ⟨j, rfl⟩ : ∃ j, i = k + (j + 1) := ⟨i - k - 1, by omega⟩
      have e3 : k + (j + 1) - k = j + 1 := by omega
      rw [e3, Nat.testBit_succ, Nat.testBit_succ]
      have d1 : (2 * (y / 2 ^ (k + 1)) + 1) / 2 = y / 2 ^ (k + 1) := by omega
      have d2 : 2 * (y / 2 ^ (k + 1)) / 2 = y / 2 ^ (k + 1) := by omega
      rw [d1, d2]; simp

/-- Taking a bit that is set. -/
theorem sub_bit (x k : Nat) (h : x.testBit k = true) : x - 2 ^ k = x ^^^ 2 ^ k ∧ 2 ^ k ≤ x := by
  have h1 : (x ^^^ 2 ^ k).testBit k = false := by rw [Nat.testBit_xor, Nat.testBit_two_pow, h]; simp
  have h2 := add_bit _ _ h1
  have h3 : (x ^^^ 2 ^ k) ||| 2 ^ k = x := by
    apply Nat.eq_of_testBit_eq
    intro i
    rw [Nat.testBit_or, Nat.testBit_xor, Nat.testBit_two_pow]
    by_cases hk : k = i
    · subst hk; simp [h]
    · simp [hk]
  rw [h3] at h2
  omega

/-- The place of bits, within a word. -/
def plc (low size : Nat) : Nat := (2 ^ size - 1) * 2 ^ low % 2 ^ 64
theorem testBit_plc (low size i : Nat) : (plc low size).testBit i = (decide (i < 64) && (decide (low ≤ i) && decide (i < low + size))) := by
  unfold plc
  rw [Nat.testBit_mod_two_pow, Nat.testBit_mul_two_pow, Nat.testBit_two_pow_sub_one]
  by_cases h : low ≤ i
  · have e : decide (i - low < size) = decide (i < low + size) := by simp; omega
    simp [h, e]
  · simp [h]
theorem plc_lt (low size : Nat) : plc low size < 2 ^ 64 := Nat.mod_lt _ (by decide)

/-- A word with other bits. -/
def wth (n low size v : Nat) : Nat := (n &&& (2 ^ 64 - 1 - plc low size)) ||| ((v * 2 ^ low % 2 ^ 64) &&& plc low size)

theorem testBit_wth (n low size v i : Nat) (hn : n < 2 ^ 64) :
    (wth n low size v).testBit i = if i < 64 ∧ low ≤ i ∧ i < low + size then v.testBit (i - low) else n.testBit i := by
  unfold wth
  have e : 2 ^ 64 - 1 - plc low size = 2 ^ 64 - (plc low size + 1) := by omega
  rw [Nat.testBit_or, Nat.testBit_and, Nat.testBit_and, e, Nat.testBit_two_pow_sub_succ (plc_lt _ _), testBit_plc, Nat.testBit_mod_two_pow, Nat.testBit_mul_two_pow]
  by_cases h64 : i < 64
  · by_cases hl : low ≤ i
    · by_cases hs : i < low + size <;> simp [h64, hl, hs]
    · simp [h64, hl]
  · have hh := testBit_high hn (i := i) (by omega)
    simp [h64, hh]

theorem wth_lt (n low size v : Nat) : wth n low size v < 2 ^ 64 := by
  unfold wth
  exact Nat.or_lt_two_pow (Nat.and_lt_two_pow _ (by omega)) (Nat.and_lt_two_pow _ (plc_lt _ _))

theorem wth_zero (n low v : Nat) (hn : n < 2 ^ 64) : wth n low 0 v = n := by
  apply Nat.eq_of_testBit_eq
  intro i
  rw [testBit_wth _ _ _ _ _ hn, if_neg (by omega)]

/-- One bit more, as the reference goes. -/
theorem wth_succ (n low k v : Nat) (hn : n < 2 ^ 64) (h : low + k < 64) :
    wth n low (k + 1) v = (if (wth n low k v).testBit (low + k) then wth n low k v - 2 ^ (low + k) else wth n low k v) + (if v.testBit k then 2 ^ (low + k) else 0) := by
  have hx : ∀ x : Nat, x = (if (wth n low k v).testBit (low + k) then wth n low k v - 2 ^ (low + k) else wth n low k v) → ∀ i, x.testBit i = (if i = low + k then false else (wth n low k v).testBit i) := by
    intro x hx i
    subst hx
    split
    · rename_i hb
      rw [(sub_bit _ _ hb).1, Nat.testBit_xor, Nat.testBit_two_pow]
      by_cases hi : i = low + k
      · subst hi; simp [hb]
      · rw [if_neg hi, decide_eq_false (by omega)]; simp
    · rename_i hb
      by_cases hi : i = low + k
      · subst hi; simpa using hb
      · rw [if_neg hi]
  generalize hy : (if (wth n low k v).testBit (low + k) then wth n low k v - 2 ^ (low + k) else wth n low k v) = y
  have hyb := hx y hy.symm
  have hyk : y.testBit (low + k) = false := by rw [hyb, if_pos rfl]
  have hw : ∀ i, (wth n low (k + 1) v).testBit i = if i = low + k then v.testBit k else (wth n low k v).testBit i := by
    intro i
    rw [testBit_wth _ _ _ _ _ hn, testBit_wth _ _ _ _ _ hn]
    by_cases hi : i = low + k
    · subst hi; rw [if_pos (by omega), if_pos rfl]; congr 1; omega
    · rw [if_neg hi]
      by_cases h2 : i < 64 ∧ low ≤ i ∧ i < low + k
      · rw [if_pos h2, if_pos (by omega)]
      · rw [if_neg h2, if_neg (by omega)]
  split
  · rename_i hv
    rw [add_bit _ _ hyk]
    apply Nat.eq_of_testBit_eq
    intro i
    rw [hw, Nat.testBit_or, Nat.testBit_two_pow, hyb]
    by_cases hi : i = low + k
    · subst hi; simp [hv]
    · simp [hi]; intro h'; omega
  · rename_i hv
    apply Nat.eq_of_testBit_eq
    intro i
    rw [hw, Nat.add_zero, hyb]
    by_cases hi : i = low + k
    · subst hi; simpa using hv
    · simp [hi]

theorem wth_sat (n low size v k : Nat) (hn : n < 2 ^ 64) (h : 64 ≤ low + k) (hk : k ≤ size) : wth n low size v = wth n low k v := by
  apply Nat.eq_of_testBit_eq
  intro i
  rw [testBit_wth _ _ _ _ _ hn, testBit_wth _ _ _ _ _ hn]
  by_cases h2 : i < 64 ∧ low ≤ i ∧ i < low + k
  · rw [if_pos h2, if_pos (by omega)]
  · rw [if_neg h2, if_neg (by omega)]

/-- The lowest bit that is not set; 64: there is none. -/
def low1 (n : Nat) : Nat := Go.Lib.ctz 64 (2 ^ 64 - 1 - n)
theorem low1_spec (n : Nat) (hn : n < 2 ^ 64) : low1 n ≤ 64 ∧ (∀ j, j < low1 n → n.testBit j = true) ∧ (low1 n < 64 → n.testBit (low1 n) = false) := by
  have hb : ∀ i, (2 ^ 64 - 1 - n).testBit i = (decide (i < 64) && !n.testBit i) := by
    intro i
    rw [show 2 ^ 64 - 1 - n = 2 ^ 64 - (n + 1) by omega, Nat.testBit_two_pow_sub_succ hn]
  unfold low1 Go.Lib.ctz
  split
  · rename_i h0
    refine ⟨Nat.le_refl _, ?_, fun h => absurd h (by decide)⟩
    intro j hj
    have := hb j
    rw [h0] at this
    simp [hj] at this
    exact this
  · rename_i h0
    have hlt : 2 ^ 64 - 1 - n < 2 ^ 64 := by omega
    obtain ⟨m, hm, hk⟩ := Go.Lib.ctzFrom_spec 64 (2 ^ 64 - 1 - n) (by omega) hlt
    generalize Go.Lib.ctzFrom 64 (2 ^ 64 - 1 - n) = k at *
    rw [hm] at hb
    refine ⟨by omega, ?_, ?_⟩
    · intro j hj
      have := hb j
      rw [Nat.mul_comm, Nat.testBit_mul_two_pow] at this
      simp [show ¬ k ≤ j by omega, show j < 64 by omega] at this
      exact this
    · intro _
      have := hb k
      rw [Nat.mul_comm, Nat.testBit_mul_two_pow] at this
      simp [hk, Nat.testBit_zero] at this
      exact this

def lowS (n : Nat) (many : Int) : Int := if (low1 n : Int) < min many 64 then (low1 n : Int) else -1

/-- The word at a place of bytes, k of them, the lowest first. -/
def gv (zs : List Int) (at' : Nat) : Nat → Nat
  | 0 => 0
  | k + 1 => gv zs at' k + (zs.getD (at' + k) 0).toNat * 256 ^ k
/-- The same from above: the k highest. -/
def gh (zs : List Int) (at' : Nat) : Nat → Nat
  | 0 => 0
  | k + 1 => gh zs at' k * 256 + (zs.getD (at' + (7 - k)) 0).toNat
theorem gh_gv (zs : List Int) (at' : Nat) : gh zs at' 8 = gv zs at' 8 := by
  simp only [gh, gv, show 7 - 7 = 0 from rfl, show 7 - 6 = 1 from rfl, show 7 - 5 = 2 from rfl, show 7 - 4 = 3 from rfl, show 7 - 3 = 4 from rfl, show 7 - 2 = 5 from rfl, show 7 - 1 = 6 from rfl, show 7 - 0 = 7 from rfl]
  omega
theorem getD_range {zs : List Int} (hz : ∀ z ∈ zs, 0 ≤ z ∧ z ≤ 255) (i : Nat) : 0 ≤ zs.getD i 0 ∧ zs.getD i 0 ≤ 255 := by
  by_cases h : i < zs.length
  · have e : zs.getD i 0 = zs[i] := by simp [h]
    rw [e]; exact hz _ (List.getElem_mem h)
  · have e : zs.getD i 0 = 0 := by simp [List.getElem?_eq_none (Nat.le_of_not_lt h)]
    rw [e]; exact ⟨by decide, by decide⟩
theorem gv_lt {zs : List Int} (hz : ∀ z ∈ zs, 0 ≤ z ∧ z ≤ 255) (at' k : Nat) : gv zs at' k < 256 ^ k := by
  induction k with
  | zero => simp [gv]
  | succ k ih =>
    have h := getD_range hz (at' + k)
    have h2 : (zs.getD (at' + k) 0).toNat ≤ 255 := by omega
    have h3 : (zs.getD (at' + k) 0).toNat * 256 ^ k ≤ 255 * 256 ^ k := Nat.mul_le_mul_right _ h2
    simp only [gv, Nat.pow_succ]
    omega
theorem gh_lt {zs : List Int} (hz : ∀ z ∈ zs, 0 ≤ z ∧ z ≤ 255) (at' k : Nat) : gh zs at' k < 256 ^ k := by
  induction k with
  | zero => simp [gh]
  | succ k ih =>
    have h := getD_range hz (at' + (7 - k))
    have h2 : (zs.getD (at' + (7 - k)) 0).toNat ≤ 255 := by omega
    simp only [gh, Nat.pow_succ]
    omega

/-- Bytes with the k lowest bytes of a number at a place. -/
def pv (zs : List Int) (at' n : Nat) : Nat → List Int
  | 0 => zs
  | k + 1 => (pv zs at' n k).set (at' + k) ((n / 256 ^ k % 256 : Nat) : Int)
theorem pv_length (zs : List Int) (at' n k : Nat) : (pv zs at' n k).length = zs.length := by
  induction k with
  | zero => rfl
  | succ k ih => simp [pv, ih]
theorem pv_range {zs : List Int} (hz : ∀ z ∈ zs, 0 ≤ z ∧ z ≤ 255) (at' n k : Nat) : ∀ z ∈ pv zs at' n k, 0 ≤ z ∧ z ≤ 255 := by
  induction k with
  | zero => exact hz
  | succ k ih =>
    intro z h
    rcases List.mem_or_eq_of_mem_set h with h | h
    · exact ih z h
    · omega
theorem pv_getD (zs : List Int) (at' n k i : Nat) (hi : i < zs.length) :
    (pv zs at' n k).getD i 0 = if at' ≤ i ∧ i < at' + k then ((n / 256 ^ (i - at') % 256 : Nat) : Int) else zs.getD i 0 := by
  induction k with
  | zero => rw [if_neg (by omega)]; rfl
  | succ k ih =>
    simp only [pv, List.getD_eq_getElem?_getD, List.getElem?_set] at ih ⊢
    by_cases h : at' + k = i
    · subst h
      rw [if_pos rfl, if_pos (by rw [pv_length]; exact hi), if_pos (by omega)]
      simp
    · rw [if_neg h, ih]
      by_cases h2 : at' ≤ i ∧ i < at' + k
      · rw [if_pos h2, if_pos (by omega)]
      · rw [if_neg h2, if_neg (by omega)]
/-- Is there a word at a place of so many bytes? -/
def stands (len : Nat) (at' : Int) : Bool := decide (0 ≤ at' ∧ at' % 8 = 0 ∧ at' + 8 ≤ (len : Int))
/-- What Get answers of a word. -/
def getW (zs : List Int) (at' : Int) : Nat := if stands zs.length at' then gv zs at'.toNat 8 else 0
/-- What Put answers of bytes. -/
def putB (zs : List Int) (at' : Int) (n : Nat) : List Int := if stands zs.length at' then pv zs at'.toNat n 8 else zs
theorem gv_of (x : Nat) (zs : List Int) (at' : Nat) (h : ∀ i, i < 8 → zs.getD (at' + i) 0 = ((x / 256 ^ i % 256 : Nat) : Int)) (hx : x < 2 ^ 64) : gv zs at' 8 = x := by
  simp only [gv]
  rw [h 0 (by decide), h 1 (by decide), h 2 (by decide), h 3 (by decide), h 4 (by decide), h 5 (by decide), h 6 (by decide), h 7 (by decide)]
  simp only [Int.toNat_natCast]
  omega
theorem gv_congr (zs ys : List Int) (at' k : Nat) (h : ∀ i, i < k → zs.getD (at' + i) 0 = ys.getD (at' + i) 0) : gv zs at' k = gv ys at' k := by
  induction k with
  | zero => rfl
  | succ k ih => simp only [gv]; rw [ih (fun i hi => h i (by omega)), h k (by omega)]
/-- What was put is got. -/
theorem get_put (zs : List Int) (at' n : Nat) (h : at' + 8 ≤ zs.length) (hn : n < 2 ^ 64) : gv (pv zs at' n 8) at' 8 = n :=
  gv_of n _ _ (fun i hi => by rw [pv_getD _ _ _ _ _ (by omega), if_pos (by omega)]; congr 3; congr 1; omega) hn
/-- Other words stay. -/
theorem get_put_other (zs : List Int) (at' n b : Nat) (hb : b + 8 ≤ zs.length) (hd : b + 8 ≤ at' ∨ at' + 8 ≤ b) : gv (pv zs at' n 8) b 8 = gv zs b 8 :=
  gv_congr _ _ _ _ (fun i hi => by rw [pv_getD _ _ _ _ _ (by omega), if_neg (by omega)])
end Go.Proofs.YtaceogpdjbikiaaGreatDoor.M
namespace Go.Proofs.YtaceogpdjbikiaaGreatDoor.B

open Go.Proofs.YtaceogpdjbikiaaGreatDoor

theorem two_cast (k : Nat) : ((2 : Int) ^ k) = ((2 ^ k : Nat) : Int) := by simp
theorem shr_cast (n k : Nat) : ((n : Int) / 2 ^ k) = ((n / 2 ^ k : Nat) : Int) := by rw [two_cast]; rfl
theorem shl_cast (n k : Nat) : IntKind.u64.wrap ((n : Int) * 2 ^ k) = ((n * 2 ^ k % 2 ^ 64 : Nat) : Int) := by
  rw [IntKind.wrap_u64, two_cast]; rfl
theorem mask_cast (s : Nat) : (((2 ^ s - 1 : Nat) : Int) % 18446744073709551616) = (((2 ^ s - 1) % 2 ^ 64 : Nat) : Int) := rfl
theorem shr_min (n l : Nat) (hn : n < 2 ^ 64) : n / 2 ^ min l 64 = n / 2 ^ l := by
  apply Nat.eq_of_testBit_eq
  intro i
  rw [Nat.testBit_div_two_pow, Nat.testBit_div_two_pow]
  by_cases h : l ≤ 64
  · rw [Nat.min_eq_left h]
  · rw [M.testBit_high hn (by omega), M.testBit_high hn (by omega)]
theorem shl_min (n l : Nat) : n * 2 ^ min l 64 % 2 ^ 64 = n * 2 ^ l % 2 ^ 64 := by
  apply Nat.eq_of_testBit_eq
  intro i
  rw [Nat.testBit_mod_two_pow, Nat.testBit_mod_two_pow, Nat.testBit_mul_two_pow, Nat.testBit_mul_two_pow]
  by_cases h : l ≤ 64
  · rw [Nat.min_eq_left h]
  · by_cases h2 : i < 64
    · simp [show ¬ min l 64 ≤ i by omega, show ¬ l ≤ i by omega]
    · simp [h2]
theorem testBit_mask (s i : Nat) : ((2 ^ s - 1) % 2 ^ 64).testBit i = (decide (i < 64) && decide (i < s)) := by
  rw [Nat.testBit_mod_two_pow, Nat.testBit_two_pow_sub_one]
theorem shl_lt (n l : Nat) : n * 2 ^ l % 2 ^ 64 < 18446744073709551616 := Nat.mod_lt _ (by decide)

theorem field_word (n l s : Nat) (hn : n < 2 ^ 64) : bits .and .u64 ((n : Int) / 2 ^ min l 64) (((2 ^ s - 1 : Nat) : Int) % 18446744073709551616) = ((M.fld n l s : Nat) : Int) := by
  rw [shr_cast, mask_cast, shr_min n l hn, u64_and_nat _ _ (Nat.lt_of_le_of_lt (Nat.div_le_self _ _) hn) (Nat.mod_lt _ (by decide))]
  congr 1
  apply Nat.eq_of_testBit_eq
  intro i
  rw [Nat.testBit_and, testBit_mask, Nat.testBit_div_two_pow, M.testBit_fld, Nat.add_comm i l]
  by_cases h : i < 64
  · simp [h, Bool.and_comm]
  · rw [M.testBit_high hn (by omega)]; simp
theorem field_word0 (n s : Nat) (hn : n < 2 ^ 64) : bits .and .u64 (n : Int) (((2 ^ s - 1 : Nat) : Int) % 18446744073709551616) = ((M.fld n 0 s : Nat) : Int) := by
  have h := field_word n 0 s hn
  simpa using h

theorem with_nat (n l s v : Nat) : (n &&& (18446744073709551615 - ((2 ^ s - 1) % 2 ^ 64) * 2 ^ l % 2 ^ 64)) ||| ((v * 2 ^ l % 2 ^ 64) &&& (((2 ^ s - 1) % 2 ^ 64) * 2 ^ l % 2 ^ 64)) = M.wth n l s v := by
  have e : ((2 ^ s - 1) % 2 ^ 64) * 2 ^ l % 2 ^ 64 = M.plc l s := by
    unfold M.plc
    rw [Nat.mod_mul_mod]
  rw [e]
  rfl
theorem with_word (n l s v : Nat) (hn : n < 2 ^ 64) (_hv : v < 2 ^ 64) :
    bits .or .u64 (bits .andNot .u64 (n : Int) (IntKind.u64.wrap ((((2 ^ s - 1 : Nat) : Int) % 18446744073709551616) * 2 ^ min l 64)))
      (bits .and .u64 (IntKind.u64.wrap ((v : Int) * 2 ^ min l 64)) (IntKind.u64.wrap ((((2 ^ s - 1 : Nat) : Int) % 18446744073709551616) * 2 ^ min l 64))) = ((M.wth n l s v : Nat) : Int) := by
  rw [mask_cast, shl_cast, shl_cast, shl_min, shl_min, u64_andNot_nat _ _ hn (shl_lt _ _), u64_and_nat _ _ (shl_lt _ _) (shl_lt _ _),
    u64_or_nat _ _ (Nat.lt_of_le_of_lt Nat.and_le_left hn) (Nat.lt_of_le_of_lt Nat.and_le_left (shl_lt _ _)), with_nat]
theorem with_word0 (n s v : Nat) (hn : n < 2 ^ 64) (hv : v < 2 ^ 64) :
    bits .or .u64 (bits .andNot .u64 (n : Int) (((2 ^ s - 1 : Nat) : Int) % 18446744073709551616)) (bits .and .u64 (v : Int) (((2 ^ s - 1 : Nat) : Int) % 18446744073709551616)) = ((M.wth n 0 s v : Nat) : Int) := by
  have hm : (2 ^ s - 1) % 2 ^ 64 < 18446744073709551616 := Nat.mod_lt _ (by decide)
  rw [mask_cast, u64_andNot_nat _ _ hn hm, u64_and_nat _ _ hv hm, u64_or_nat _ _ (Nat.lt_of_le_of_lt Nat.and_le_left hn) (Nat.lt_of_le_of_lt Nat.and_le_left hv), ← with_nat]
  simp only [Nat.pow_zero, Nat.mul_one, Nat.mod_eq_of_lt hm, Nat.mod_eq_of_lt hv]
theorem bit_word (n p : Nat) (hn : n < 2 ^ 64) : ((IntKind.u64.wrap ((n : Int) / (p : Int))).tmod 2 == 1) = true ↔ n / p % 2 = 1 := by
  have h : n / p ≤ n := Nat.div_le_self _ _
  have e : ((n : Int) / (p : Int)) = ((n / p : Nat) : Int) := rfl
  rw [e]
  generalize n / p = q at *
  rw [IntWalk.u64_in _ (by omega), beq_iff_eq, Int.tmod_eq_emod_of_nonneg (by omega)]
  omega
theorem max_u64 : IntKind.u64.max = ((2 ^ 64 - 1 : Nat) : Int) := by decide
theorem not_word (n : Nat) (hn : n < 2 ^ 64) : bits .xor .u64 IntKind.u64.max (n : Int) = ((2 ^ 64 - 1 - n : Nat) : Int) := by
  rw [max_u64, u64_xor_nat _ _ (by decide) hn]
  congr 1
  apply Nat.eq_of_testBit_eq
  intro i
  rw [show 2 ^ 64 - 1 - n = 2 ^ 64 - (n + 1) by omega, Nat.testBit_two_pow_sub_succ hn, Nat.testBit_xor, Nat.testBit_two_pow_sub_one]
  by_cases h : i < 64
  · simp [h]
  · rw [M.testBit_high hn (by omega)]; simp [h]
theorem pow_256 (j : Nat) : 256 ^ j = 2 ^ (8 * j) := by rw [Nat.pow_mul]
theorem byte_up (n j : Nat) (hn : n ≤ 255) (hj : j < 8) : n * 2 ^ (8 * j) < 2 ^ 64 := by
  have h1 : n * 2 ^ (8 * j) ≤ 255 * 2 ^ (8 * j) := Nat.mul_le_mul_right _ hn
  have h2 : 2 ^ (8 * j) ≤ 2 ^ 56 := Nat.pow_le_pow_right (by decide) (by omega)
  omega
theorem or_word (x j : Nat) (z : Int) (hx : x < 256 ^ j) (hz : 0 ≤ z ∧ z ≤ 255) (hj : j < 8) :
    bits .or .u64 (x : Int) (IntKind.u64.wrap (z * 2 ^ (8 * j))) = ((x + z.toNat * 256 ^ j : Nat) : Int) := by
  obtain ⟨n, rfl⟩ := Int.eq_ofNat_of_zero_le hz.1
  have hn : n ≤ 255 := by omega
  have hb := byte_up n j hn hj
  rw [pow_256] at hx ⊢
  have hx2 : x < 2 ^ 64 := Nat.lt_of_lt_of_le hx (Nat.pow_le_pow_right (by decide) (by omega))
  rw [shl_cast, Nat.mod_eq_of_lt hb, u64_or_nat _ _ hx2 hb, Int.toNat_natCast]
  congr 1
  have h := Nat.two_pow_add_eq_or_of_lt hx n
  rw [Nat.mul_comm] at h
  rw [Nat.or_comm, ← h, Nat.add_comm]
theorem byte_of (n j : Nat) : ((n : Int) / 2 ^ (8 * j)) % 256 = ((n / 256 ^ j % 256 : Nat) : Int) := by
  rw [shr_cast, pow_256]
  rfl
end Go.Proofs.YtaceogpdjbikiaaGreatDoor.B
namespace Go.Proofs.YtaceogpdjbikiaaGreatDoor

open Go.RowKit

/-- From an address on lie the numbers zs, of one kind. -/
def Reads (k : IntKind) (w : World) (a : Option Addr) (zs : List Int) : Prop :=
  zs = [] ∨ ∃ b o, a = some ⟨b, o, none⟩ ∧ ∀ i, i < zs.length → w.cell? ⟨b, o + i, none⟩ = some (.int k (zs.getD i 0))
/-- A slice of integers of one kind. -/
def IsInts (k : IntKind) (w : World) (v : Value) (zs : List Int) : Prop :=
  ∃ a cap, v = .slice a zs.length cap ∧ zs.length ≤ cap ∧ cap ≤ maxLen ∧ Reads k w a zs ∧ ∀ z ∈ zs, (Lit.int k z).wf = true
def IsBytes (w : World) (v : Value) (zs : List Int) : Prop := IsInts .u8 w v zs

theorem byte_range {zs : List Int} (h : ∀ z ∈ zs, (Lit.int .u8 z).wf = true) : ∀ z ∈ zs, 0 ≤ z ∧ z ≤ 255 := by
  intro z hz
  have := h z hz
  simp [Lit.wf, IntKind.min, IntKind.max, IntKind.signed, IntKind.bits] at this
  omega
theorem wf_byte {z : Int} (h : 0 ≤ z ∧ z ≤ 255) : (Lit.int .u8 z).wf = true := WalkArith.wf_u8 h

theorem Reads.below {k : IntKind} {w w' : World} {a : Option Addr} {zs : List Int} (h : Reads k w a zs) (hb : Below w.heap.size w w') : Reads k w' a zs := by
  rcases h with h | ⟨b, o, rfl, hc⟩
  · exact .inl h
  · by_cases h0 : zs = []
    · exact .inl h0
    · refine .inr ⟨b, o, rfl, fun i hi => ?_⟩
      exact (hb.cell (p := ⟨b, o + i, none⟩) (World.block_lt_of_cell? w _ (hc i hi))).trans (hc i hi)
theorem IsInts.below {k : IntKind} {w w' : World} {v : Value} {zs : List Int} (h : IsInts k w v zs) (hb : Below w.heap.size w w') : IsInts k w' v zs := by
  obtain ⟨a, cap, h1, h2, h3, h4, h5⟩ := h
  exact ⟨a, cap, h1, h2, h3, h4.below hb, h5⟩
theorem IsInts.drewN {k : IntKind} {w : World} {v : Value} {zs : List Int} (h : IsInts k w v zs) (n : Nat) : IsInts k (w.drewN n) v zs := h
theorem below_drewN' {B : Nat} {a w : World} (h : Below B a w) (n : Nat) : Below B a (w.drewN n) := ⟨h.os, h.tape, h.output, h.size, h.block⟩

/-- What an owned row of integers reads as. -/
theorem IsInts.of_row {k : IntKind} {w : World} {base e : Nat} {g cap : Nat} {xs : List Int}
    (h : w.ownsRow base e 1 (.slice (some ⟨g, 0, none⟩) xs.length cap) xs.length (xs.map (Value.int k))) (hwf : ∀ z ∈ xs, (Lit.int k z).wf = true) :
    IsInts k w (.slice (some ⟨g, 0, none⟩) xs.length cap) xs := by
  have hcap : xs.length ≤ cap ∧ cap ≤ maxLen := by
    rcases h.2 with ⟨h', _⟩ | ⟨g', cap', cur, h', _, _, h1, h2, _⟩
    · simp at h'
    · simp only [Value.slice.injEq] at h'
      obtain ⟨_, _, rfl⟩ := h'
      exact ⟨h1, h2⟩
  refine ⟨_, cap, rfl, hcap.1, hcap.2, .inr ⟨g, 0, rfl, fun i hi => ?_⟩, hwf⟩
  rw [Nat.zero_add, h.cellAt i (by omega)]
  simp [hi]
/-- The row that a make of so many zeros leaves, whole. -/
theorem row_of_made {w : World} {base e : Nat} {g n : Nat} {z : Value} (h : w.ownsRow base e 1 (.slice (some ⟨g, 0, none⟩) n n) n (madeCells #[z] n).toList) :
    w.heap[g]? = some (.cells (List.replicate n z).toArray e (0, 0)) := by
  rcases h.2 with ⟨h', _⟩ | ⟨g', cap', cur, h', _, hg, h1, h2, h3, h4⟩
  · simp at h'
  · simp only [Value.slice.injEq, Option.some.injEq, Addr.mk.injEq, and_true, true_and] at h'
    obtain ⟨rfl, rfl⟩ := h'
    rw [hg]
    have e1 : cur.toList = List.replicate n z := by
      rw [← toList_madeCells_one, ← h4]
      exact (List.take_of_length_le (by simp [h3])).symm
    have e2 : cur = (List.replicate n z).toArray := by rw [← e1]
    rw [e2]
/-- A row that is known whole is owned. -/
theorem owns_of_row {w : World} {base e : Nat} {g : Nat} {k : IntKind} {xs : List Int} (h : w.heap[g]? = some (.cells (xs.map (Value.int k)).toArray e (0, 0))) (hb : base ≤ g) (hm : xs.length ≤ maxLen) :
    w.ownsRow base e 1 (.slice (some ⟨g, 0, none⟩) xs.length xs.length) xs.length (xs.map (Value.int k)) :=
  ⟨by simp, .inr ⟨g, xs.length, _, rfl, hb, h, Nat.le_refl _, hm, by simp, List.take_of_length_le (by simp)⟩⟩
theorem splice_all {α : Type} (L cs : List α) (h : cs.length = L.length) : splice L 0 cs = cs := by
  unfold splice
  rw [Nat.zero_add, List.drop_eq_nil_of_le (by omega)]; simp
/-- An owned row that is not nil, by its parts. -/
theorem own_parts {w : World} {base e : Nat} {v : Value} {n : Nat} {xs : List Value} (h : w.ownsRow base e 1 v n xs) (hv : v ≠ .slice none 0 0) :
    ∃ g cap, v = .slice (some ⟨g, 0, none⟩) n cap ∧ base ≤ g ∧ g < w.heap.size ∧ n ≤ cap ∧ cap ≤ maxLen := by
  rcases h.2 with ⟨h', _⟩ | ⟨g, cap, cur, h', hb, hg, h1, h2, _⟩
  · exact absurd h' hv
  · exact ⟨g, cap, h', hb, (Array.getElem?_eq_some_iff.1 hg).1, h1, h2⟩
theorem IsInts.nil (k : IntKind) (w : World) : IsInts k w (.slice none 0 0) [] :=
  ⟨none, 0, rfl, Nat.le_refl _, Nat.zero_le _, .inl rfl, fun z hz => by cases hz⟩
/-- What open_ints tells of a slice that came in. -/
theorem IsInts.of_open {k : IntKind} {w : World} {x : Addr} {len cap : Nat} {zs : List Int} (hl : len ≤ cap) (hm : cap ≤ maxLen) (hz : zs.length = cap)
    (hcell : ∀ i, i < zs.length → w.cell? (x.add i) = some (.int k (zs.getD i 0))) (hwz : ∀ n ∈ zs, (Lit.int k n).wf = true) : IsInts k w (.slice (some x) len cap) (zs.take len) := by
  have hlen : (zs.take len).length = len := by simp; omega
  refine ⟨some x, cap, by rw [hlen], by omega, hm, ?_, fun z h => hwz z (List.mem_of_mem_take h)⟩
  by_cases h0 : len = 0
  · exact .inl (by simp [h0])
  · obtain ⟨b, o, spot⟩ := x
    have hc := hcell 0 (by omega)
    have hspot : spot = none := by simpa [Addr.add] using World.cell?_spot hc
    subst hspot
    refine .inr ⟨b, o, rfl, fun i hi => ?_⟩
    have h := hcell i (by omega)
    rw [Addr.add_lit] at h
    rw [h]
    simp [show i < len by omega]
end Go.Proofs.YtaceogpdjbikiaaGreatDoor
namespace Go.Proofs.YtaceogpdjbikiaaGreatDoor

open Go.RowKit

/-- A row of the call's own, nil or not, reads as its numbers. -/
theorem IsInts.of_own {k : IntKind} {w : World} {base e n : Nat} {v : Value} {xs : List Int} (h : w.ownsRow base e 1 v n (xs.map (Value.int k))) (hwf : ∀ z ∈ xs, (Lit.int k z).wf = true) : IsInts k w v xs := by
  have hl : xs.length = n := by simpa using h.1
  subst hl
  rcases h.2 with ⟨rfl, h0⟩ | ⟨g, cap, cur, rfl, _⟩
  · obtain rfl := List.eq_nil_of_length_eq_zero h0
    exact IsInts.nil k w
  · exact IsInts.of_row h hwf
theorem owns_nil {w : World} {base e : Nat} : w.ownsRow base e 1 (.slice none 0 0) 0 [] := ⟨by simp, .inl ⟨rfl, rfl⟩⟩
theorem owns_block {w : World} {base e size n : Nat} {v : Value} {xs : List Value} (h : w.ownsRow base e size v n xs) : ∀ k, v.ownBlock = some k → base ≤ k := by
  intro k hk
  rcases h.2 with ⟨rfl, _⟩ | ⟨g, cap, cur, rfl, hb, _⟩
  · simp [Value.ownBlock] at hk
  · simp only [Value.ownBlock, Option.some.injEq] at hk
    omega
theorem owns_form {w : World} {base e size n : Nat} {v : Value} {xs : List Value} (h : w.ownsRow base e size v n xs) : ∃ a cap, v = .slice a n cap ∧ n ≤ cap ∧ cap ≤ maxLen := by
  rcases h.2 with ⟨rfl, rfl⟩ | ⟨g, cap, cur, rfl, _, _, h1, h2, _⟩
  · exact ⟨none, 0, rfl, Nat.le_refl _, Nat.zero_le _⟩
  · exact ⟨_, cap, rfl, h1, h2⟩

theorem owns_below {w w' : World} {base e size n : Nat} {v : Value} {xs : List Value} (h : w.ownsRow base e size v n xs) (hb : Below w.heap.size w w') : w'.ownsRow base e size v n xs := by
  refine ⟨h.1, ?_⟩
  rcases h.2 with h' | ⟨g, cap, cur, h1, h2, hg, h3⟩
  · exact .inl h'
  · exact .inr ⟨g, cap, cur, h1, h2, (hb.block g (Array.getElem?_eq_some_iff.1 hg).1).trans hg, h3⟩

theorem run_append_ints {P : Program} (w : World) (k : IntKind) (base : Nat) (t ty e : TypeId) (i : TypeInfo) (z : Value) (bytes : Nat) (ht : P.underlying t = some (.slice e)) (hi : P.info? e = some i) (hz : i.zero = some z)
    (hsize : i.size = 1) (hby : i.bytes = bytes) (hzs : z.cells.size = 1) (v : Value) (n : Nat) (xs : List Int) (hown : w.ownsRow base e 1 v n (xs.map (Value.int k)))
    (A : Option Addr) (m c : Nat) (zs : List Int) (hr : IsInts k w (.slice A m c) zs) (h63 : n + m ≤ maxLen) (hbytes : (n + m) * bytes ≤ 140737488355328) (hbase : base ≤ w.heap.size) :
    ∃ v' w', (Builtin.append_ #[t, t] ty #[v, .slice A m c]).run P w = .ok v' w' ∧ w'.ownsRow base e 1 v' (n + m) ((xs ++ zs).map (Value.int k)) ∧ w.grownBy w' v.ownBlock := by
  obtain ⟨A', c', e', hc1, hc2, hR, hwf⟩ := hr
  simp only [Value.slice.injEq] at e'
  obtain ⟨rfl, rfl, rfl⟩ := e'
  cases A with
  | none =>
    have hz : zs = [] := by
      rcases hR with h | ⟨b, o, h, _⟩
      · exact h
      · cases h
    subst hz
    refine ⟨v, w, ?_, by simpa using hown, World.grownBy.refl w _⟩
    rcases hown.2 with ⟨rfl, rfl⟩ | ⟨g, cap, cur, rfl, _, _, hnc, _⟩
    · simp [Builtin.append_, run_underlying ht, sizeOf, typeInfo, hi, Builtin.lenOf, Builtin.firstCells]
    · simp [Builtin.append_, run_underlying ht, sizeOf, typeInfo, hi, Builtin.lenOf, Builtin.firstCells, hnc, storeCells]
  | some ad =>
    obtain ⟨v', w', h1, h2, h3, _, _⟩ := run_append_own_at (P := P) w base t ty e i z 1 bytes ht hi hz hsize hby hzs (by decide) v n (xs.map (Value.int k)) hown ad zs.length c (zs.map (Value.int k)) (by simp) (by
      intro j u hu
      rw [List.getElem?_map] at hu
      obtain ⟨y, hy, rfl⟩ := Option.map_eq_some_iff.1 hu
      have hj : j < zs.length := by
        apply Nat.lt_of_not_le; intro hj; rw [List.getElem?_eq_none hj] at hy; cases hy
      rcases hR with rfl | ⟨b, o, h, hc⟩
      · simp at hj
      · simp only [Option.some.injEq] at h
        subst h
        rw [Addr.add_lit, hc j hj, List.getD_eq_getElem?_getD, hy]
        rfl) (ints_oneCell _ _) h63 hbytes hbase
    exact ⟨v', w', h1, by rw [List.map_append]; exact h2, h3⟩

theorem wpList_append_ints {P : Program} {w : World} {ops : Array Oper} {rest : List Oper} {o : Oper} {a : Act} {Q : Exit → Act → World → Prop} (hgd : o.guard = none) (s x : Operand) (t : TypeId)
    (ho : o.op = .call { callee := .builtin .append, args := #[s, x], argTypes := #[t, t] }) (k : IntKind)
    (base : Nat) (e : TypeId) (i : TypeInfo) (z : Value) (bytes : Nat) (ht : P.underlying t = some (.slice e)) (hi : P.info? e = some i) (hz : i.zero = some z)
    (hsize : i.size = 1) (hby : i.bytes = bytes) (hzs : z.cells.size = 1)
    (v : Value) (n : Nat) (xs : List Int) (hs : a.eval s = v) (hown : w.ownsRow base e 1 v n (xs.map (Value.int k)))
    (A : Option Addr) (m c : Nat) (zs : List Int) (hx : a.eval x = .slice A m c) (hr : IsInts k w (.slice A m c) zs) (h63 : n + m ≤ maxLen) (hbytes : (n + m) * bytes ≤ 140737488355328) (hbase : base ≤ w.heap.size)
    (h : ∀ v' w', w'.ownsRow base e 1 v' (n + m) ((xs ++ zs).map (Value.int k)) → w.grownBy w' v.ownBlock → wpList P ops Q rest (a.put o.dst v') w') : wpList P ops Q (o :: rest) a w := by
  refine wpList_plain hgd fun K hK => ?_
  obtain ⟨v', w', hrun, h2, h3⟩ := run_append_ints (P := P) w k base t o.type e i z bytes ht hi hz hsize hby hzs v n xs hown A m c zs hr h63 hbytes hbase
  unfold Oper.wp execOp
  simp only [ho, resolve, invoke, builtin, Sem.run_bind, Sem.run_pure, Result.andThen_ok, List.map_toArray, List.map_cons, List.map_nil, hs, hx, hrun]
  exact hK _ _ (h v' w' h2 h3)

/-- A slice of slices of integers, each of so many at most. -/
def IsIntss (k : IntKind) (most : Nat) (w : World) (v : Value) (zss : List (List Int)) : Prop :=
  ∃ a cap, v = .slice a zss.length cap ∧ zss.length ≤ cap ∧ cap ≤ maxLen ∧ (zss = [] ∨ ∃ b o, a = some ⟨b, o, none⟩ ∧ ∀ i, i < zss.length → ∃ u, w.cell? ⟨b, o + i, none⟩ = some u ∧ IsInts k w u (zss.getD i []) ∧ (zss.getD i []).length ≤ most)
theorem weightsAll_mem {H : Type} {P : Program} {e : TypeId} {d : DataW H} {n : Nat} : ∀ {l : List (DataW H)}, d ∈ l → n ∈ d.weights P e → n ∈ DataW.weightsAll P e l
  | x :: l, hd, hn => by
    rw [DataW.weightsAll]
    rcases List.mem_cons.1 hd with rfl | hd
    · exact List.mem_append_left _ hn
    · exact List.mem_append_right _ (weightsAll_mem hd hn)
theorem IsInts.of_open' {k : IntKind} {w : World} {x : Addr} {len cap : Nat} {zs : List Int} (hl : len ≤ cap) (hm : cap ≤ maxLen) (hz : len ≤ zs.length)
    (hcell : ∀ i, i < zs.length → w.cell? (x.add i) = some (.int k (zs.getD i 0))) (hwz : ∀ n ∈ zs, (Lit.int k n).wf = true) : IsInts k w (.slice (some x) len cap) (zs.take len) := by
  have hlen : (zs.take len).length = len := by simp; omega
  refine ⟨some x, cap, by rw [hlen], by omega, hm, ?_, fun z h => hwz z (List.mem_of_mem_take h)⟩
  by_cases h0 : len = 0
  · exact .inl (by simp [h0])
  · obtain ⟨b, o, spot⟩ := x
    have hc := hcell 0 (by omega)
    have hspot : spot = none := by simpa [Addr.add] using World.cell?_spot hc
    subst hspot
    refine .inr ⟨b, o, rfl, fun i hi => ?_⟩
    have h := hcell i (by omega)
    rw [Addr.add_lit] at h
    rw [h]
    simp [show i < len by omega]
/-- What a slice of slices of integers holds that came in. -/
theorem open_intss {H : Type} {enc : TypeId × Value → H} {P : Program} {w : World} {base : Nat} {sp : Nat → Bool} {held : Bool} {t e u : TypeId} {k : IntKind} {fuel : Nat} {A : Option Addr} {n c : Nat} {d : DataW H} {ps : List MemPlace}
    (ht : P.underlying t = some (.slice e)) (he : P.underlying e = some (.slice u)) (hu : P.underlying u = some (.int k)) (hce : P.cellsOf e = 1) (hcu : P.cellsOf u = 1) (hb : P.bytesOf u = 1)
    (h : DataW.trod enc P w base sp held fuel t [.slice A n c] = some (d, ps)) (hw : ∀ x ∈ d.weights P t, x ≤ reachBytes) : ∃ zss, IsIntss k 140737488351232 w (.slice A n c) zss := by
  rcases DataW.trod_slice ht h with ⟨hcs, _⟩ | ⟨a, len, cap, elems, rest, m, _, hcs, hx, _, hl, hm, hlen, hel, _⟩
  · simp only [List.cons.injEq, Value.slice.injEq, and_true] at hcs
    obtain ⟨rfl, rfl, rfl⟩ := hcs
    exact ⟨[], none, 0, rfl, Nat.le_refl _, Nat.zero_le _, .inl rfl⟩
  · simp only [List.cons.injEq, Value.slice.injEq, and_true] at hcs
    obtain ⟨rfl, rfl, rfl⟩ := hcs
    have each : ∀ i, ∃ zs : List Int, i < n → ∃ v, w.cell? (a.add i) = some v ∧ IsInts k w v zs ∧ zs.length ≤ 140737488351232 := by
      intro i
      by_cases hi : i < n
      · have hE := hel i hi
        rw [hce, Nat.mul_one] at hE
        obtain ⟨y, hy⟩ : ∃ y, elems[i]? = some y := ⟨_, List.getElem?_eq_getElem (by omega)⟩
        rw [hy] at hE
        simp only [Option.bind_eq_some_iff] at hE
        obtain ⟨c1, hc1, hy1⟩ := hE
        have hd : y.1 ∈ elems.map (·.1) := List.mem_map_of_mem (List.mem_of_getElem? hy)
        have hwy : ∀ x ∈ y.1.weights P e, x ≤ reachBytes := by
          intro x hxm
          refine hw x ?_
          have e1 : d = .slice (elems.map (·.1)) (rest.map (·.1)) := congrArg Prod.fst hx
          rw [e1]
          simp only [DataW.weights, ht]
          exact List.mem_cons_of_mem _ (List.mem_append_left _ (weightsAll_mem hd hxm))
        rcases Go.ChangeShapes.open_ints he hu hcu hy1 with ⟨hcs, _⟩ | ⟨x, l, c, zs, hcs, _, hl', hm', hz, hxx, hcell, hwz⟩
        · rw [hcs] at hc1
          exact ⟨[], fun _ => ⟨_, Go.ChangeShapes.cell_of_cells?_one hc1, IsInts.nil _ _, Nat.zero_le _⟩⟩
        · rw [hcs] at hc1
          have hlz : l ≤ zs.length := by
            split at hz <;> omega
          refine ⟨zs.take l, fun _ => ⟨_, Go.ChangeShapes.cell_of_cells?_one hc1, ?_, ?_⟩⟩
          · exact IsInts.of_open' hl' hm' hlz hcell hwz
          · have h1 := hwy ((zs.take l).length + (zs.drop l).length) (by
              rw [show y.1 = _ from congrArg Prod.fst hxx]
              simp [DataW.weights, he, hb, Go.ChangeShapes.lits])
            simp only [reachBytes] at h1
            omega
      · exact ⟨[], fun h => absurd h hi⟩
    have hl' : ((List.range n).map fun i => Classical.choose (each i)).length = n := by simp
    refine ⟨(List.range n).map fun i => Classical.choose (each i), some a, c, by rw [hl'], by omega, hm, ?_⟩
    by_cases h0 : n = 0
    · exact .inl (by simp [h0])
    · obtain ⟨b, o, spot⟩ := a
      obtain ⟨v, hv, _⟩ := Classical.choose_spec (each 0) (by omega)
      have hspot : spot = none := by simpa [Addr.add] using World.cell?_spot hv
      subst hspot
      refine .inr ⟨b, o, rfl, fun i hi => ?_⟩
      rw [hl'] at hi
      obtain ⟨v, hv, h1, h2⟩ := Classical.choose_spec (each i) hi
      rw [Addr.add_lit] at hv
      have e1 : ((List.range n).map fun i => Classical.choose (each i)).getD i [] = Classical.choose (each i) := by
        simp [List.getD_eq_getElem?_getD, hi]
      exact ⟨v, hv, by rw [e1]; exact h1, by rw [e1]; exact h2⟩
end Go.Proofs.YtaceogpdjbikiaaGreatDoor
namespace Go.Proofs.YtaceogpdjbikiaaGreatDoor

open Go.RowKit

theorem ret_int {k : IntKind} {a b : Int} (h : a = b) : Ending.returned (.int k a) = .returned (.int k b) := by rw [h]
theorem nodraw (w : World) : ∃ m, w = w.drewN m := ⟨0, rfl⟩
theorem ret_bool {a b : Bool} (h : a = b) : Ending.returned (.bool a) = .returned (.bool b) := by rw [h]

theorem stands_any (at' : Int) (a : Option Addr) (len cap : Nat) (w : World) (hl : len ≤ maxLen) (ha : -9223372036854775808 ≤ at' ∧ at' ≤ 9223372036854775807) :
    Calls Tryz.prog 106 #[.slice a len cap, .int .i64 at'] w fun e w' => e = .returned (.bool (M.stands len at')) ∧ ∃ m, w' = w.drewN m := by
  unfold maxLen at hl
  by_cases h0 : 0 ≤ at'
  · by_cases h1 : at' % 8 = 0
    · go_enter Tryz.func106, Tryz.ntmps106
      go_wp2
      go_ret
      refine ⟨ret_bool ?_, by first | exact ⟨_, rfl⟩ | exact nodraw _⟩
      unfold M.stands
      rw [decide_eq_decide]
      omega
    · go_enter Tryz.func106, Tryz.ntmps106
      go_wp2
      go_ret
      refine ⟨ret_bool ?_, by first | exact ⟨_, rfl⟩ | exact nodraw _⟩
      unfold M.stands
      exact (decide_eq_false (by omega)).symm
  · go_enter Tryz.func106, Tryz.ntmps106
    go_wp2
    go_ret
    refine ⟨ret_bool ?_, by first | exact ⟨_, rfl⟩ | exact nodraw _⟩
    unfold M.stands
    exact (decide_eq_false (by omega)).symm

theorem get_core (b o : Nat) (zs : List Int) (t : Nat) (cap : Nat) (w : World) (hl : zs.length ≤ maxLen) (ht : t % 8 = 0) (ht8 : t + 8 ≤ zs.length)
    (hc : ∀ i, i < zs.length → w.cell? ⟨b, o + i, none⟩ = some (.int .u8 (zs.getD i 0))) (hr : ∀ z ∈ zs, 0 ≤ z ∧ z ≤ 255) :
    Calls Tryz.prog 87 #[.slice (some ⟨b, o, none⟩) zs.length cap, .int .i64 t] w fun e w' => e = .returned (.tuple #[.int .u64 (M.gv zs t 8 : Nat), .bool true]) ∧ ∃ m, w' = w.drewN m := by
  have hS : M.stands zs.length (t : Int) = true := by simp [M.stands]; omega
  have HS := Lib.hid hS; clear hS
  have HC := Lib.hid hc; clear hc
  have hl' := hl
  unfold maxLen at hl'
  generalize hlen : zs.length = len at *
  have HLEN := Lib.hid hlen; clear hlen
  go_enter Tryz.func87, Tryz.ntmps87
  go_wp2_with fail
  refine (stands_any _ _ _ _ _ hl (by omega)).mono ?_
  rintro e w' ⟨rfl, m, rfl⟩
  rw [HS.out]
  go_wp2
  go_loopw [6, 12] (fun u k wr => ∃ j : Nat, j ≤ 8 ∧ k = .int .i64 j ∧ u = .int .u64 (M.gv zs t j : Nat) ∧ ∃ m, wr = w.drewN m) (fun _ k _ => 8 - (intOf k).toNat)
  case atStart => exact ⟨0, by omega, rfl, rfl, _, rfl⟩
  case round =>
    obtain ⟨j, hj8, rfl, rfl, m, rfl⟩ := hrel
    by_cases h8 : j < 8
    · have hcell : w.cell? ⟨b, o + (t + j), none⟩ = some (.int .u8 (zs.getD (t + j) 0)) := HC.out _ (by omega)
      have hz := M.getD_range hr (t + j)
      have HB : Hid (M.gv zs t (j + 1) = M.gv zs t j + (zs.getD (t + j) 0).toNat * 256 ^ j) := rfl
      have hlt := M.gv_lt hr t j
      generalize zs.getD (t + j) 0 = z at *
      have HO := Lib.hid (B.or_word _ j z hlt hz h8)
      clear hlt
      go_wp2
      go_roundw
      case rel => exact ⟨j + 1, by omega, by go_num, by rw [HO.out, HB.out], _, rfl⟩
      case measure => simp [intOf]; omega
    · obtain rfl : j = 8 := by omega
      go_wp2
      go_ret2
      exact ⟨rfl, _, rfl⟩

/-- word.Get, whatever is handed in. -/
theorem get_any (v : Value) (zs : List Int) (at' : Int) (w : World) (hv : IsBytes w v zs) (ha : -9223372036854775808 ≤ at' ∧ at' ≤ 9223372036854775807) :
    Calls Tryz.prog 87 #[v, .int .i64 at'] w fun e w' => e = .returned (.tuple #[.int .u64 (M.getW zs at' : Nat), .bool (M.stands zs.length at')]) ∧ ∃ m, w' = w.drewN m := by
  obtain ⟨a, cap, rfl, hlc, hcm, hR, hwf⟩ := hv
  have hr := byte_range hwf
  by_cases hs : 0 ≤ at' ∧ at' % 8 = 0 ∧ at' + 8 ≤ (zs.length : Int)
  · obtain ⟨t, rfl⟩ := Int.eq_ofNat_of_zero_le hs.1
    have e1 : M.stands zs.length (t : Int) = true := by simp only [M.stands, decide_eq_true_eq]; exact hs
    rcases hR with h | ⟨b, o, rfl, hc⟩
    · rw [h] at hs; simp at hs; omega
    · rw [show M.getW zs (t : Int) = M.gv zs t 8 by simp [M.getW, e1], e1]
      exact get_core b o zs t cap w (by omega) (by omega) (by omega) hc hr
  · have e1 : M.stands zs.length at' = false := by simp only [M.stands, decide_eq_false_iff_not]; exact hs
    rw [show M.getW zs at' = 0 by simp [M.getW, e1], e1]
    have E1 := Lib.hid e1; clear e1 hs hR hwf hr
    have hl : zs.length ≤ maxLen := by omega
    generalize zs.length = len at *
    go_enter Tryz.func87, Tryz.ntmps87
    go_wp2_with fail
    refine (stands_any _ _ _ _ _ hl ha).mono ?_
    rintro e w' ⟨rfl, m, rfl⟩
    rw [E1.out]
    go_wp2
    go_ret2
    exact ⟨rfl, _, rfl⟩



theorem info_u8 : (Tryz.prog.info? 5).map (fun i => (i.zero, i.size, i.bytes)) = some (some (.int .u8 0), 1, 1) := by kernel_rfl

/-- What a call that hands back a slice of bytes and a bool leaves. -/
def PutPost (w : World) (out : List Int) (ok : Bool) (e : Ending) (w' : World) : Prop :=
  ∃ v, e = .returned (.tuple #[v, .bool ok]) ∧ IsBytes w' v out ∧ Below w.heap.size w w'

set_option maxRecDepth 100000 in
theorem put_core (a : Option Addr) (zs : List Int) (at' : Int) (n : Nat) (cap : Nat) (w : World) (hl : zs.length ≤ 140737488351232) (hR : Reads .u8 w a zs) (hwf : ∀ z ∈ zs, (Lit.int .u8 z).wf = true)
    (ha : -9223372036854775808 ≤ at' ∧ at' ≤ 9223372036854775807) (_hn : n < 2 ^ 64) :
    Calls Tryz.prog 108 #[.slice a zs.length cap, .int .i64 at', .int .u64 n] w (PutPost w (M.putB zs at' n) (M.stands zs.length at')) := by
  obtain ⟨i0, hi, hz0, hz1, hz2⟩ := info_parts info_u8
  have hsz : (Tryz.prog.info? 5).map (·.size) = some 1 := by rw [hi]; simp [hz1]
  have HWF := Lib.hid hwf; clear hwf
  have hml : zs.length ≤ maxLen := by unfold maxLen; omega
  have HML := Lib.hid hml; clear hml
  obtain ⟨len, hlen⟩ : ∃ len, len = zs.length := ⟨_, rfl⟩
  have HLEN := Lib.hid hlen
  rw [← hlen]
  rw [← hlen] at hl
  clear hlen
  go_enter Tryz.func108, Tryz.ntmps108
  go_wp2_with (refine wpList_make_full _ rfl (.tmp 11) (.tmp 11) 103 rfl w.heap.size 5 i0 (.int .u8 0) 1 Tryz.underlying103 hi hz0 hz1 .i64 .i64 len len len rfl rfl rfl rfl (by rw [hz2]; omega) (by unfold maxLen; omega) (by simp) ?_)
  intro w1 hown hg
  have hb1 : Below w.heap.size w w1 := (Below.refl _ _).grown hg (Nat.le_refl _) (fun k hk => by cases hk)
  have hrow := row_of_made hown
  have HROW := Lib.hid hrow
  have HB1 := Lib.hid hb1
  have HRD : Hid (Reads .u8 w1 a zs) := hR.below hb1
  clear hown hg hrow hb1 hR
  obtain ⟨cs, hcs⟩ : ∃ cs, cs = zs.map (Value.int .u8) := ⟨_, rfl⟩
  obtain ⟨cur, hcur⟩ : ∃ cur, cur = List.replicate len (Value.int .u8 0) := ⟨_, rfl⟩
  have HCS := Lib.hid hcs; clear hcs
  have HCUR := Lib.hid hcur; clear hcur
  have hcl : cs.length = len := by rw [HCS.out, HLEN.out]; simp
  have hcul : cur.length = len := by rw [HCUR.out]; simp
  have hrow : w1.heap[w.heap.size]? = some (.cells cur.toArray 5 (0, 0)) := by rw [HCUR.out]; exact HROW.out
  have h1c : ∀ v ∈ cs, v.oneCell' = true := by rw [HCS.out]; exact ints_oneCell _ _
  have hpos : 0 < cs.length → some (⟨w.heap.size, 0, none⟩ : Addr) = some ⟨w.heap.size, 0, none⟩ ∧ ∃ ad, a = some ad ∧ ∀ j v, cs[j]? = some v → w1.cell? (ad.add j) = some v := by
    intro h0
    refine ⟨rfl, ?_⟩
    rcases HRD.out with h | ⟨b, o, rfl, hc⟩
    · rw [HCS.out, h] at h0; simp at h0
    · refine ⟨_, rfl, fun j v hv => ?_⟩
      rw [HCS.out, List.getElem?_map] at hv
      obtain ⟨z, hz, rfl⟩ := Option.map_eq_some_iff.1 hv
      have hj : j < zs.length := by
        apply Nat.lt_of_not_le; intro hj; rw [List.getElem?_eq_none hj] at hz; cases hz
      have := hc j hj
      rw [Addr.add_lit]
      rw [this, List.getD_eq_getElem?_getD, hz]; rfl
  have HPOS := Lib.hid hpos; clear hpos
  have H1C := Lib.hid h1c; clear h1c
  have HR2 := Lib.hid hrow; clear hrow HROW
  have HCL := Lib.hid hcl; clear hcl
  have HCUL := Lib.hid hcul; clear hcul
  go_wp2_with (refine wpList_copy_splice rfl (.tmp 13) (.tmp 14) 103 103 rfl 5 Tryz.underlying103 hsz _ _ len len len cap rfl rfl w.heap.size 0 cur 5 HR2.out cs (by rw [HCL.out]; simp) HPOS.out (by rw [HCL.out, HCUL.out]; omega) H1C.out w.heap.size w HB1.out (Nat.le_refl _) ?_)
  intro w2 hrow2 hb2
  have hrow3 : w2.heap[w.heap.size]? = some (.cells (zs.map (Value.int .u8)).toArray 5 (0, 0)) := by
    have h := hrow2.out
    rw [splice_all _ _ (by rw [HCL.out, HCUL.out]), HCS.out] at h
    exact h
  have hown := owns_of_row hrow3 (Nat.le_refl _) HML.out
  have HOWN := Lib.hid hown
  have HB2 := Lib.hid hb2
  clear hown hrow3 hrow2 hb2 HR2 HPOS H1C HCL HCUL HCS HCUR HRD HB1
  go_wp2_with fail
  refine (stands_any at' _ len len w2 (by unfold maxLen; omega) ha).mono ?_
  rintro e w' ⟨rfl, m, rfl⟩
  have hstd : Hid (M.stands len at' = decide (0 ≤ at' ∧ at' % 8 = 0 ∧ at' + 8 ≤ (len : Int))) := rfl
  have hput : Hid (M.putB zs at' n = if M.stands len at' then M.pv zs at'.toNat n 8 else zs) := by
    show _ = _
    rw [HLEN.out]; rfl
  cases hst : M.stands len at'
  · rw [hst] at hput
    have HST := Lib.hid hst; clear hst
    have HO := Lib.hid HOWN.out
    go_wp2
    go_ret2
    refine ⟨.slice (some ⟨w.heap.size, 0, none⟩) len len, by rw [HST.out]; rfl, ?_, below_drewN' HB2.out m⟩
    rw [hput.out, if_neg (by decide), HLEN.out]
    exact (IsInts.of_row HO.out HWF.out).drewN m
  · rw [hst] at hput hstd
    have HST := Lib.hid hst
    have hst3 := of_decide_eq_true hstd.out.symm
    obtain ⟨t, rfl⟩ := Int.eq_ofNat_of_zero_le hst3.1
    rw [Int.toNat_natCast] at hput
    have ht8 : t + 8 ≤ len := by omega
    clear hst hst3 hstd ha
    go_wp2
    go_loopw [9, 21] (fun _ k wr => ∃ j : Nat, j ≤ 8 ∧ k = .int .i64 j ∧ wr.ownsRow w.heap.size 5 1 (.slice (some ⟨w.heap.size, 0, none⟩) len len) len ((M.pv zs t n j).map (Value.int .u8)) ∧ Below w.heap.size w wr) (fun _ k _ => 8 - (intOf k).toNat)
    case atStart => exact ⟨0, by omega, rfl, by rw [HLEN.out]; exact HOWN.out, below_drewN' HB2.out m⟩
    case round =>
      obtain ⟨j, hj8, rfl, hown, hbel⟩ := hrel
      by_cases h8 : j < 8
      · have hlen : (M.pv zs t n j).length = len := by rw [M.pv_length, HLEN.out]
        have hcell : wr.cell? ⟨w.heap.size, t + j, none⟩ = some (.int .u8 ((M.pv zs t n j).getD (t + j) 0)) := by
          rw [hown.cellAt (t + j) (by omega)]
          simp [show t + j < (M.pv zs t n j).length by omega]
        have hfz := hown.frozenAt (t + j)
        have HS := Lib.hid (hown.stored (t + j) (.int .u8 ((n / 256 ^ j % 256 : Nat) : Int))).1
        have HBN := Lib.hid (hbel.setCell (p := ⟨w.heap.size, t + j, none⟩) (Nat.le_refl _) (.int .u8 ((n / 256 ^ j % 256 : Nat) : Int)))
        have HBY := Lib.hid (B.byte_of n j)
        clear hown hbel hlen
        go_wp2
        rw [HBY.out]
        go_roundw
        case rel => exact ⟨j + 1, by omega, by go_num, by rw [M.pv, List.map_set]; exact HS.out, HBN.out⟩
        case measure => simp [intOf]; omega
      · obtain rfl : j = 8 := by omega
        have HO := Lib.hid hown
        have HBN := Lib.hid hbel
        clear hown hbel
        go_wp2
        go_ret2
        refine ⟨.slice (some ⟨w.heap.size, 0, none⟩) len len, by rw [HST.out]; rfl, ?_, HBN.out⟩
        rw [hput.out, if_pos trivial]
        have hlen : len = (M.pv zs t n 8).length := by rw [M.pv_length, HLEN.out]
        have h := HO.out
        rw [hlen] at h ⊢
        exact IsInts.of_row h (fun z hz => wf_byte (M.pv_range (byte_range HWF.out) t n 8 z hz))
/-- word.Put, whatever is handed in. -/
theorem put_any (v : Value) (zs : List Int) (at' : Int) (n : Nat) (w : World) (hv : IsBytes w v zs) (hl : zs.length ≤ 140737488351232)
    (ha : -9223372036854775808 ≤ at' ∧ at' ≤ 9223372036854775807) (hn : n < 2 ^ 64) :
    Calls Tryz.prog 108 #[v, .int .i64 at', .int .u64 n] w (PutPost w (M.putB zs at' n) (M.stands zs.length at')) := by
  obtain ⟨a, cap, rfl, _, _, hR, hwf⟩ := hv
  exact put_core a zs at' n cap w hl hR hwf ha hn




end Go.Proofs.YtaceogpdjbikiaaGreatDoor
namespace Go.Proofs.YtaceogpdjbikiaaGreatDoor

open Go.RowKit


theorem pow_le (i : Nat) (h : i ≤ 63) : (2 : Int) ^ i ≤ 9223372036854775808 := by
  have : (2 : Nat) ^ i ≤ 2 ^ 63 := Nat.pow_le_pow_right (by decide) h
  have h2 : ((2 ^ i : Nat) : Int) ≤ ((2 ^ 63 : Nat) : Int) := Int.ofNat_le.2 this
  simpa using h2


theorem ones_any (i : Int) (w : World) :
    Calls Tryz.prog 105 #[.int .i64 i] w fun e w' => e = .returned (.int .u64 (((2 ^ i.toNat - 1) % 2 ^ 64 : Nat) : Int)) ∧ ∃ m, w' = w.drewN m := by
  by_cases h0 : 0 ≤ i
  · go_enter Tryz.func105, Tryz.ntmps105
    go_wp2
    go_ret
    refine ⟨ret_int ?_, by first | exact ⟨_, rfl⟩ | exact nodraw _⟩
    rw [IntKind.wrap_u64, IntKind.wrap_u64]
    have hp := Nat.two_pow_pos i.toNat
    by_cases h : i.toNat ≤ 63
    · have := pow_le i.toNat h
      have e : ((2 : Int) ^ i.toNat) = ((2 ^ i.toNat : Nat) : Int) := by simp
      rw [show min i.toNat 64 = i.toNat by omega]
      rw [e] at this ⊢
      omega
    · obtain ⟨j, hj⟩ : ∃ j, i.toNat = 64 + j := ⟨i.toNat - 64, by omega⟩
      rw [hj, show min (64 + j) 64 = 64 by omega, Nat.pow_add]
      have hp := Nat.two_pow_pos j
      generalize 2 ^ j = z at *
      omega
  · go_enter Tryz.func105, Tryz.ntmps105
    go_wp2
    go_ret
    exact ⟨ret_int (by rw [show i.toNat = 0 by omega]; rfl), nodraw _⟩


theorem field_any (n : Nat) (low size : Int) (w : World) (hn : n < 2 ^ 64) :
    Calls Tryz.prog 82 #[.int .u64 n, .int .i64 low, .int .i64 size] w fun e w' => e = .returned (.int .u64 (M.fld n low.toNat size.toNat : Nat)) ∧ ∃ m, w' = w.drewN m := by
  by_cases h0 : 0 ≤ low
  · go_enter Tryz.func82, Tryz.ntmps82
    go_wp2_with fail
    go_quiet ((go_at_call 105; exact Calls.quiet_of (ones_any _ _)))
    go_wp2
    go_ret
    refine ⟨ret_int ?_, by first | exact ⟨_, rfl⟩ | exact nodraw _⟩
    exact B.field_word n _ _ hn
  · go_enter Tryz.func82, Tryz.ntmps82
    go_wp2_with fail
    go_quiet ((go_at_call 105; exact Calls.quiet_of (ones_any _ _)))
    go_wp2
    go_ret
    refine ⟨ret_int ?_, by first | exact ⟨_, rfl⟩ | exact nodraw _⟩
    rw [show low.toNat = 0 by omega]
    exact B.field_word0 n _ hn
theorem with_any (n v : Nat) (low size : Int) (w : World) (hn : n < 2 ^ 64) (hv : v < 2 ^ 64) :
    Calls Tryz.prog 81 #[.int .u64 n, .int .i64 low, .int .i64 size, .int .u64 v] w fun e w' => e = .returned (.int .u64 (M.wth n low.toNat size.toNat v : Nat)) ∧ ∃ m, w' = w.drewN m := by
  by_cases h0 : 0 ≤ low
  · go_enter Tryz.func81, Tryz.ntmps81
    go_wp2_with fail
    refine (ones_any _ _).mono ?_
    rintro e w' ⟨rfl, m, rfl⟩
    go_wp2
    go_ret
    refine ⟨ret_int ?_, by first | exact ⟨_, rfl⟩ | exact nodraw _⟩
    exact B.with_word n _ _ v hn hv
  · go_enter Tryz.func81, Tryz.ntmps81
    go_wp2_with fail
    refine (ones_any _ _).mono ?_
    rintro e w' ⟨rfl, m, rfl⟩
    go_wp2
    go_ret
    refine ⟨ret_int ?_, by first | exact ⟨_, rfl⟩ | exact nodraw _⟩
    rw [show low.toNat = 0 by omega]
    exact B.with_word0 n _ v hn hv
end Go.Proofs.YtaceogpdjbikiaaGreatDoor
namespace Go.Proofs.YtaceogpdjbikiaaGreatDoor

open Go.RowKit



theorem tz_core (x k idx : Nat) (w : World) (hx0 : ((x : Int) == 0) = false)
    (key : IntKind.u64.wrap (bits BinOp.and IntKind.u64 (x : Int) (IntKind.u64.wrap (-(x : Int))) * 285870213051353865) / 288230376151711744 = (idx : Int))
    (hi : idx < 64) (hk : k < 64) (hcell : w.cell? ⟨1, idx, none⟩ = some (.int .u8 k)) :
    Calls Tryz.prog 114 #[.int .u64 x] w fun e w' => e = .returned (.int .i64 k) ∧ ∃ m, w' = w.drewN m := by
  go_enter Tryz.func114, Tryz.ntmps114
  go_wp2_with (simp only [key])
  go_ret
  exact ⟨rfl, nodraw _⟩
theorem tz_zero (w : World) :
    Calls Tryz.prog 114 #[.int .u64 0] w fun e w' => e = .returned (.int .i64 64) ∧ ∃ m, w' = w.drewN m := by
  go_enter Tryz.func114, Tryz.ntmps114
  go_wp2
  go_ret
  exact ⟨rfl, nodraw _⟩
theorem tz_any (x : Nat) (w : World) (hx : x < 18446744073709551616) (hT : TabAt 1 Lib.deBruijn64tab w) :
    Calls Tryz.prog 114 #[.int .u64 x] w fun e w' => e = .returned (.int .i64 (Lib.ctz 64 x)) ∧ ∃ m, w' = w.drewN m := by
  by_cases hx0 : x = 0
  · subst hx0
    exact tz_zero w
  · obtain ⟨hlow, hk⟩ := Lib.lowest_bit 64 x hx0 hx
    obtain ⟨hi, htab⟩ := Lib.deBruijn64_at _ hk
    have hcell := hT _ hi
    rw [htab] at hcell
    exact tz_core x _ _ w (by simp; omega) (tz64_key x _ hx hx0 hlow) hi hk hcell
theorem low_any (n : Nat) (many : Int) (w : World) (hn : n < 2 ^ 64) (hT : TabAt 1 Lib.deBruijn64tab w) :
    Calls Tryz.prog 102 #[.int .u64 n, .int .i64 many] w fun e w' => e = .returned (.int .i64 (M.lowS n many)) ∧ ∃ m, w' = w.drewN m := by
  have HN := Lib.hid (B.not_word n hn)
  obtain ⟨h1, _, _⟩ := M.low1_spec n hn
  have HT := Lib.hid hT; clear hT
  have HL : Hid (M.lowS n many = if (M.low1 n : Int) < min many 64 then (M.low1 n : Int) else -1) := rfl
  have hL : Hid (Lib.ctz 64 (2 ^ 64 - 1 - n) = M.low1 n) := rfl
  by_cases hs : 64 < many
  · by_cases hk : M.low1 n < 64
    · go_enter Tryz.func102, Tryz.ntmps102
      go_wp2_with fail
      rw [HN.out]
      refine (tz_any _ _ (by omega) HT.out).mono ?_
      rintro e w' ⟨rfl, m, rfl⟩
      rw [hL.out]
      go_wp2
      go_ret
      exact ⟨ret_int (by rw [HL.out, if_pos (by omega)]), _, rfl⟩
    · go_enter Tryz.func102, Tryz.ntmps102
      go_wp2_with fail
      rw [HN.out]
      refine (tz_any _ _ (by omega) HT.out).mono ?_
      rintro e w' ⟨rfl, m, rfl⟩
      rw [hL.out]
      go_wp2
      go_ret
      exact ⟨ret_int (by rw [HL.out, if_neg (by omega)]), _, rfl⟩
  · by_cases hk : (M.low1 n : Int) < many
    · go_enter Tryz.func102, Tryz.ntmps102
      go_wp2_with fail
      rw [HN.out]
      refine (tz_any _ _ (by omega) HT.out).mono ?_
      rintro e w' ⟨rfl, m, rfl⟩
      rw [hL.out]
      go_wp2
      go_ret
      exact ⟨ret_int (by rw [HL.out, if_pos (by omega)]), _, rfl⟩
    · go_enter Tryz.func102, Tryz.ntmps102
      go_wp2_with fail
      rw [HN.out]
      refine (tz_any _ _ (by omega) HT.out).mono ?_
      rintro e w' ⟨rfl, m, rfl⟩
      rw [hL.out]
      go_wp2
      go_ret
      exact ⟨ret_int (by rw [HL.out, if_neg (by omega)]), _, rfl⟩
theorem TabAt.below {w w' : World} {B : Nat} {tab : List Nat} {g : Nat} (h : TabAt g tab w) (hb : Below B w w') (hg : g < B) : TabAt g tab w' :=
  fun j hj => (hb.cell (p := ⟨g, j, none⟩) hg).trans (h j hj)
end Go.Proofs.YtaceogpdjbikiaaGreatDoor
