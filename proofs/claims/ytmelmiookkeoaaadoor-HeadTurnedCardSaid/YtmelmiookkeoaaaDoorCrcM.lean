
/- Plain mathematics of layer 2: the check sum as a linear map of numbers. Nothing of the program; no condition but the ranges named. -/
import Derived.Lib.TrailingZeros

namespace Go.Proofs.YtmelmiookkeoaaaDoor.C

/-- The polynomial, and all bits. -/
def P : Nat := 2197175160
def F : Nat := 4294967295
/-- One step of P2.1. -/
def step (x : Nat) : Nat := (x / 2) ^^^ (x % 2 * P)
def st : Nat → Nat → Nat
  | 0, x => x
  | n + 1, x => st n (step x)

theorem div2_xor (a b : Nat) : (a ^^^ b) / 2 = (a / 2) ^^^ (b / 2) := by
  have h := Nat.shiftRight_xor_distrib (a := a) (b := b) (i := 1)
  exact h
theorem mod2_xor (a b : Nat) : (a ^^^ b) % 2 = (a % 2) ^^^ (b % 2) := by
  have h := Nat.xor_mod_two_pow (a := a) (b := b) (n := 1)
  simpa using h
theorem xor4 (a b c d : Nat) : (a ^^^ b) ^^^ (c ^^^ d) = (a ^^^ c) ^^^ (b ^^^ d) := by
  apply Nat.eq_of_testBit_eq
  intro i
  simp only [Nat.testBit_xor]
  cases a.testBit i <;> cases b.testBit i <;> cases c.testBit i <;> cases d.testBit i <;> rfl
theorem step_xor (a b : Nat) : step (a ^^^ b) = step a ^^^ step b := by
  unfold step
  rw [div2_xor, mod2_xor, xor4]
  congr 1
  have ha : a % 2 = 0 ∨ a % 2 = 1 := by omega
  have hb : b % 2 = 0 ∨ b % 2 = 1 := by omega
  rcases ha with ha | ha <;> rcases hb with hb | hb <;> rw [ha, hb] <;> decide
theorem st_xor (n a b : Nat) : st n (a ^^^ b) = st n a ^^^ st n b := by
  induction n generalizing a b with
  | zero => rfl
  | succ n ih => simp only [st]; rw [step_xor, ih]
theorem st_add (a b x : Nat) : st (a + b) x = st b (st a x) := by
  induction a generalizing x with
  | zero => simp [st]
  | succ a ih => rw [Nat.succ_add]; simp only [st]; rw [ih]
theorem step_even (y : Nat) : step (y * 2) = y := by
  unfold step
  rw [show y * 2 / 2 = y by omega, show y * 2 % 2 = 0 by omega]
  simp
theorem st_shift (n x : Nat) : st n (x * 2 ^ n) = x := by
  induction n with
  | zero => simp [st]
  | succ n ih =>
    simp only [st]
    rw [Nat.pow_succ, ← Nat.mul_assoc, step_even, ih]
theorem step_lt {x : Nat} (h : x < 4294967296) : step x < 4294967296 := by
  unfold step
  have h2 : x % 2 = 0 ∨ x % 2 = 1 := by omega
  have h3 : x % 2 * P < 2 ^ 32 := by
    rcases h2 with h2 | h2 <;> rw [h2] <;> decide
  exact Nat.xor_lt_two_pow (n := 32) (by omega) h3
theorem st_lt (n : Nat) {x : Nat} (h : x < 4294967296) : st n x < 4294967296 := by
  induction n generalizing x with
  | zero => exact h
  | succ n ih => exact ih (step_lt h)
theorem xor_eq_zero {a b : Nat} (h : a ^^^ b = 0) : a = b := by
  have e : (a ^^^ b) ^^^ b = a := by rw [Nat.xor_assoc, Nat.xor_self, Nat.xor_zero]
  rw [h, Nat.zero_xor] at e
  exact e.symm
theorem step_zero {x : Nat} (h : x < 4294967296) (e : step x = 0) : x = 0 := by
  unfold step at e
  have e' := xor_eq_zero e
  have h2 : x % 2 = 0 ∨ x % 2 = 1 := by omega
  unfold P at e'
  rcases h2 with h2 | h2 <;> rw [h2] at e' <;> omega
theorem st_zero (n : Nat) {x : Nat} (h : x < 4294967296) (e : st n x = 0) : x = 0 := by
  induction n generalizing x with
  | zero => exact e
  | succ n ih => exact step_zero h (ih (step_lt h) e)
theorem st_0 (n : Nat) : st n 0 = 0 := by
  induction n with
  | zero => rfl
  | succ n ih => simp only [st]; rw [show step 0 = 0 by decide, ih]
theorem xor_lt {a b : Nat} (ha : a < 4294967296) (hb : b < 4294967296) : a ^^^ b < 4294967296 := Nat.xor_lt_two_pow (n := 32) ha hb
theorem st_inj (n : Nat) {a b : Nat} (ha : a < 4294967296) (hb : b < 4294967296) (e : st n a = st n b) : a = b := by
  apply xor_eq_zero
  apply st_zero n (xor_lt ha hb)
  rw [st_xor, e, Nat.xor_self]

/-- Four steps by the table. -/
def T : List Int := [0, 274646895, 549293790, 820201905, 1098587580, 1361435347, 1640403810, 1905808397, 2197175160, 2460548119, 2722870694, 2987750089, 3280807620, 3553878443, 3811616794, 4084100981]
def nib (x : Nat) : Nat := (x / 16) ^^^ (T.getD (x % 16) 0).toNat
theorem tab_st : ∀ l, l < 16 → st 4 l = (T.getD l 0).toNat := by decide
theorem T_range : ∀ l, l < 16 → 0 ≤ T.getD l 0 ∧ T.getD l 0 < 4294967296 := by decide
theorem nib_st (x : Nat) : nib x = st 4 x := by
  have e : x = (x / 16 * 2 ^ 4) ^^^ (x % 16) := by
    apply Nat.eq_of_testBit_eq
    intro i
    rw [Nat.testBit_xor, Nat.testBit_mul_two_pow, show x % 16 = x % 2 ^ 4 from rfl, show x / 16 = x / 2 ^ 4 from rfl, Nat.testBit_mod_two_pow, Nat.testBit_div_two_pow]
    by_cases h : i < 4
    · simp [h, show ¬ 4 ≤ i by omega]
    · simp [h, show 4 ≤ i by omega, show i - 4 + 4 = i by omega]
  unfold nib
  conv => rhs; rw [e]
  rw [st_xor, st_shift, tab_st _ (Nat.mod_lt _ (by decide))]
theorem nib_lt {x : Nat} (h : x < 4294967296) : nib x < 4294967296 := by rw [nib_st]; exact st_lt _ h

/-- A byte more. -/
def byt (x c : Nat) : Nat := st 8 (x ^^^ c)
theorem byt_nib (x c : Nat) : byt x c = nib (nib (x ^^^ c)) := by
  rw [nib_st, nib_st, ← st_add]; rfl
theorem byt_lt {x c : Nat} (h : x < 4294967296) (hc : c ≤ 255) : byt x c < 4294967296 := st_lt _ (xor_lt h (by omega))
def run (x : Nat) : List Int → Nat
  | [] => x
  | z :: t => run (byt x z.toNat) t
theorem run_append (x : Nat) (a b : List Int) : run x (a ++ b) = run (run x a) b := by
  induction a generalizing x with
  | nil => rfl
  | cons z t ih => exact ih _
theorem run_snoc (x : Nat) (a : List Int) (z : Int) : run x (a ++ [z]) = byt (run x a) z.toNat := by rw [run_append]; rfl
theorem run_lt {x : Nat} {zs : List Int} (h : x < 4294967296) (hr : ∀ z ∈ zs, 0 ≤ z ∧ z ≤ 255) : run x zs < 4294967296 := by
  induction zs generalizing x with
  | nil => exact h
  | cons z t ih =>
    have := hr z (by simp)
    exact ih (byt_lt h (by omega)) (fun y hy => hr y (by simp [hy]))
/-- The sums. -/
def nxt (s : Nat) (zs : List Int) : Nat := F ^^^ run (F ^^^ s) zs
theorem F_lt : F < 4294967296 := by decide
theorem nxt_lt {s : Nat} {zs : List Int} (h : s < 4294967296) (hr : ∀ z ∈ zs, 0 ≤ z ∧ z ≤ 255) : nxt s zs < 4294967296 :=
  xor_lt F_lt (run_lt (xor_lt F_lt h) hr)
theorem FF (x : Nat) : F ^^^ (F ^^^ x) = x := by rw [← Nat.xor_assoc, Nat.xor_self, Nat.zero_xor]
theorem nxt_append (s : Nat) (a b : List Int) : nxt (nxt s a) b = nxt s (a ++ b) := by
  unfold nxt
  rw [FF, run_append]
theorem nxt_nil (s : Nat) : nxt s [] = s := FF s

/-- All bytes as one number. -/
def num : List Int → Nat
  | [] => 0
  | z :: t => z.toNat + 256 * num t
theorem low_xor (c m : Nat) (h : c ≤ 255) : c + 256 * m = c ^^^ (m * 2 ^ 8) := by
  apply Nat.eq_of_testBit_eq
  intro i
  rw [Nat.add_comm, show 256 * m + c = 2 ^ 8 * m + c from rfl, Nat.testBit_two_pow_mul_add _ (by omega), Nat.testBit_xor, Nat.testBit_mul_two_pow]
  by_cases hi : i < 8
  · simp [hi, show ¬ 8 ≤ i by omega]
  · have : c.testBit i = false := Nat.testBit_lt_two_pow (Nat.lt_of_lt_of_le (show c < 2 ^ 8 by omega) (Nat.pow_le_pow_right (by decide) (by omega)))
    simp [hi, this]; omega
theorem run_num (x : Nat) (zs : List Int) (hr : ∀ z ∈ zs, 0 ≤ z ∧ z ≤ 255) : run x zs = st (8 * zs.length) (x ^^^ num zs) := by
  induction zs generalizing x with
  | nil => simp [run, num, st]
  | cons z t ih =>
    have hz := hr z (by simp)
    show run (byt x z.toNat) t = _
    rw [ih _ (fun y hy => hr y (by simp [hy]))]
    show _ = st (8 * (t.length + 1)) (x ^^^ (z.toNat + 256 * num t))
    rw [show 8 * (t.length + 1) = 8 + 8 * t.length by omega, st_add, low_xor _ _ (by omega), ← Nat.xor_assoc, st_xor 8, st_shift]
    rfl
theorem run_xor {x y : Nat} {zs : List Int} (hr : ∀ z ∈ zs, 0 ≤ z ∧ z ≤ 255) : run x zs ^^^ run y zs = st (8 * zs.length) (x ^^^ y) := by
  rw [run_num _ _ hr, run_num _ _ hr, ← st_xor]
  congr 1
  rw [xor4, Nat.xor_self, Nat.xor_zero]
theorem F_xor (a b : Nat) : (F ^^^ a) ^^^ (F ^^^ b) = a ^^^ b := by rw [xor4, Nat.xor_self, Nat.zero_xor]
theorem nxt_xor {x y : Nat} {zs : List Int} (hr : ∀ z ∈ zs, 0 ≤ z ∧ z ≤ 255) : nxt x zs ^^^ nxt y zs = st (8 * zs.length) (x ^^^ y) := by
  unfold nxt
  rw [F_xor, run_xor hr, F_xor]
theorem nxt_inj {x y : Nat} {zs : List Int} (hx : x < 4294967296) (hy : y < 4294967296) (hr : ∀ z ∈ zs, 0 ≤ z ∧ z ≤ 255) : nxt x zs = nxt y zs ↔ x = y := by
  constructor
  · intro e
    have h := nxt_xor (x := x) (y := y) hr
    rw [e, Nat.xor_self] at h
    exact xor_eq_zero (st_zero _ (xor_lt hx hy) h.symm)
  · rintro rfl; rfl
theorem byte_inj {s : Nat} {c d : Int} (hs : s < 4294967296) (hc : 0 ≤ c ∧ c ≤ 255) (hd : 0 ≤ d ∧ d ≤ 255) : nxt s [c] = nxt s [d] ↔ c = d := by
  constructor
  · intro e
    have e1 : run (F ^^^ s) [c] = run (F ^^^ s) [d] := by
      have := congrArg (F ^^^ ·) e
      simpa [nxt, FF] using this
    have e2 : (F ^^^ s) ^^^ c.toNat = (F ^^^ s) ^^^ d.toNat := st_inj 8 (xor_lt (xor_lt F_lt hs) (by omega)) (xor_lt (xor_lt F_lt hs) (by omega)) e1
    have e3 : c.toNat = d.toNat := by
      have := congrArg ((F ^^^ s) ^^^ ·) e2
      simpa [← Nat.xor_assoc] using this
    omega
  · rintro rfl; rfl

/-- Three texts of one length. -/
theorem num_three : ∀ (n : Nat) (a b c d : List Int), a.length = n → b.length = n → c.length = n → d.length = n →
    (∀ i, i < n → (0 ≤ a.getD i 0 ∧ a.getD i 0 ≤ 255) ∧ (0 ≤ b.getD i 0 ∧ b.getD i 0 ≤ 255) ∧ (0 ≤ c.getD i 0 ∧ c.getD i 0 ≤ 255) ∧ (d.getD i 0).toNat = ((a.getD i 0).toNat ^^^ (b.getD i 0).toNat) ^^^ (c.getD i 0).toNat) →
    num d = (num a ^^^ num b) ^^^ num c
  | 0, [], [], [], [], _, _, _, _, _ => rfl
  | n + 1, x :: a, y :: b, z :: c, u :: d, ha, hb, hc, hd, h => by
    have h0 := h 0 (by omega)
    have ih := num_three n a b c d (by simpa using ha) (by simpa using hb) (by simpa using hc) (by simpa using hd) (fun i hi => by simpa using h (i + 1) (by omega))
    simp only [List.getD_cons_zero] at h0
    obtain ⟨hx, hy, hz, hu⟩ := h0
    have hu255 : u.toNat < 2 ^ 8 := by
      rw [hu]
      exact Nat.xor_lt_two_pow (Nat.xor_lt_two_pow (by omega) (by omega)) (by omega)
    have e : (num a ^^^ num b ^^^ num c) * 2 ^ 8 = (num a * 2 ^ 8 ^^^ num b * 2 ^ 8) ^^^ num c * 2 ^ 8 := by
      apply Nat.eq_of_testBit_eq
      intro i
      simp only [Nat.testBit_xor, Nat.testBit_mul_two_pow]
      cases decide (8 ≤ i) <;> simp
    show u.toNat + 256 * num d = ((x.toNat + 256 * num a) ^^^ (y.toNat + 256 * num b)) ^^^ (z.toNat + 256 * num c)
    rw [low_xor _ _ (by omega), low_xor _ _ (by omega), low_xor _ _ (by omega), low_xor _ _ (by omega), ih, e, hu]
    rw [xor4 x.toNat, xor4 (x.toNat ^^^ y.toNat)]
theorem three_xor (a b c : Nat) : F ^^^ (F ^^^ 0 ^^^ (a ^^^ b ^^^ c)) = a ^^^ b ^^^ c := by
  rw [Nat.xor_zero, ← Nat.xor_assoc, Nat.xor_self, Nat.zero_xor]
theorem sums {a b c d : List Int} {n : Nat} (ha : a.length = n) (hb : b.length = n) (hc : c.length = n) (hd : d.length = n)
    (ra : ∀ z ∈ a, 0 ≤ z ∧ z ≤ 255) (rb : ∀ z ∈ b, 0 ≤ z ∧ z ≤ 255) (rc : ∀ z ∈ c, 0 ≤ z ∧ z ≤ 255) (rd : ∀ z ∈ d, 0 ≤ z ∧ z ≤ 255) (hn : num d = (num a ^^^ num b) ^^^ num c) :
    nxt 0 d = (nxt 0 a ^^^ nxt 0 b) ^^^ nxt 0 c := by
  unfold nxt
  rw [run_num _ _ ra, run_num _ _ rb, run_num _ _ rc, run_num _ _ rd, ha, hb, hc, hd, hn, F_xor]
  generalize F ^^^ 0 = f0
  simp only [st_xor]
  generalize st (8 * n) f0 = f
  generalize st (8 * n) (num a) = p
  generalize st (8 * n) (num b) = q
  generalize st (8 * n) (num c) = r
  apply Nat.eq_of_testBit_eq
  intro i
  simp only [Nat.testBit_xor]
  cases F.testBit i <;> cases f.testBit i <;> cases p.testBit i <;> cases q.testBit i <;> cases r.testBit i <;> rfl

/-- Bits turned. -/
def turn : List Int → Nat → List Int
  | [], _ => []
  | z :: t, m => ((z.toNat ^^^ (m % 256) : Nat) : Int) :: turn t (m / 256)
theorem turn_length (zs : List Int) (m : Nat) : (turn zs m).length = zs.length := by
  induction zs generalizing m with
  | nil => rfl
  | cons z t ih => simp [turn, ih]
theorem turn_range (zs : List Int) (m : Nat) (hr : ∀ z ∈ zs, 0 ≤ z ∧ z ≤ 255) : ∀ z ∈ turn zs m, 0 ≤ z ∧ z ≤ 255 := by
  induction zs generalizing m with
  | nil => intro z h; cases h
  | cons x t ih =>
    intro z h
    simp only [turn, List.mem_cons] at h
    rcases h with rfl | h
    · have := hr x (by simp)
      have h2 : x.toNat ^^^ (m % 256) < 2 ^ 8 := Nat.xor_lt_two_pow (by omega) (by omega)
      omega
    · exact ih (m / 256) (fun y hy => hr y (by simp [hy])) z h
theorem turn_zero (zs : List Int) (hr : ∀ z ∈ zs, 0 ≤ z ∧ z ≤ 255) : turn zs 0 = zs := by
  induction zs with
  | nil => rfl
  | cons x t ih =>
    have := hr x (by simp)
    simp only [turn, Nat.zero_mod, Nat.zero_div, Nat.xor_zero, ih (fun y hy => hr y (by simp [hy]))]
    rw [Int.toNat_of_nonneg this.1]
theorem num_turn (zs : List Int) (m : Nat) (hr : ∀ z ∈ zs, 0 ≤ z ∧ z ≤ 255) (hm : m < 256 ^ zs.length) : num (turn zs m) = num zs ^^^ m := by
  induction zs generalizing m with
  | nil => simp at hm; subst hm; rfl
  | cons x t ih =>
    have hx := hr x (by simp)
    have h2 : x.toNat ^^^ (m % 256) < 2 ^ 8 := Nat.xor_lt_two_pow (by omega) (by omega)
    have hm2 : m / 256 < 256 ^ t.length := by
      rw [List.length_cons, Nat.pow_succ] at hm
      exact Nat.div_lt_of_lt_mul (by omega)
    show ((x.toNat ^^^ (m % 256) : Nat) : Int).toNat + 256 * num (turn t (m / 256)) = (x.toNat + 256 * num t) ^^^ m
    rw [ih _ (fun y hy => hr y (by simp [hy])) hm2, Int.toNat_natCast, low_xor _ _ (by omega), low_xor _ _ (by omega)]
    have e : m = (m % 256) ^^^ (m / 256 * 2 ^ 8) := by
      rw [← low_xor _ _ (by omega)]; omega
    have e2 : (num t ^^^ (m / 256)) * 2 ^ 8 = num t * 2 ^ 8 ^^^ m / 256 * 2 ^ 8 := by
      apply Nat.eq_of_testBit_eq
      intro i
      simp only [Nat.testBit_xor, Nat.testBit_mul_two_pow]
      cases decide (8 ≤ i) <;> simp
    rw [e2, xor4, ← e]
theorem turned (zs : List Int) (k v : Nat) (hr : ∀ z ∈ zs, 0 ≤ z ∧ z ≤ 255) (hk : k + 32 ≤ 8 * zs.length) (hv : v < 4294967296) (hv0 : v ≠ 0) : nxt 0 zs ≠ nxt 0 (turn zs (v * 2 ^ k)) := by
  intro e
  have hm : v * 2 ^ k < 256 ^ zs.length := by
    have h1 : v * 2 ^ k < 2 ^ 32 * 2 ^ k := Nat.mul_lt_mul_of_pos_right hv (Nat.two_pow_pos _)
    rw [← Nat.pow_add] at h1
    refine Nat.lt_of_lt_of_le h1 ?_
    rw [show 256 = 2 ^ 8 from rfl, ← Nat.pow_mul]
    exact Nat.pow_le_pow_right (by decide) (by omega)
  have h := congrArg (F ^^^ ·) e
  simp only [nxt, FF] at h
  rw [run_num _ _ hr, run_num _ _ (turn_range _ _ hr), turn_length, num_turn _ _ hr hm, ← Nat.xor_assoc, st_xor _ (F ^^^ 0 ^^^ num zs)] at h
  have h3 : st (8 * zs.length) (v * 2 ^ k) = 0 := by
    have := congrArg (st (8 * zs.length) (F ^^^ 0 ^^^ num zs) ^^^ ·) h
    simpa [← Nat.xor_assoc] using this.symm
  rw [show 8 * zs.length = k + (8 * zs.length - k) by omega, st_add, st_shift] at h3
  exact hv0 (st_zero _ hv h3)
theorem turn_getD (zs : List Int) (m i : Nat) (hi : i < zs.length) : (turn zs m).getD i 0 = (((zs.getD i 0).toNat ^^^ (m / 256 ^ i % 256) : Nat) : Int) := by
  induction zs generalizing m i with
  | nil => simp at hi
  | cons x t ih =>
    cases i with
    | zero => simp [turn]
    | succ i =>
      have h := ih (m / 256) i (by simpa using hi)
      rw [Nat.div_div_eq_div_mul, Nat.mul_comm, ← Nat.pow_succ] at h
      simpa [turn] using h
theorem bit_byte (p i : Nat) : 2 ^ p / 256 ^ i % 256 = if i = p / 8 then 2 ^ (p % 8) else 0 := by
  apply Nat.eq_of_testBit_eq
  intro j
  rw [show 256 ^ i = 2 ^ (8 * i) by rw [Nat.pow_mul], show (256 : Nat) = 2 ^ 8 from rfl, Nat.testBit_mod_two_pow, Nat.testBit_div_two_pow, Nat.testBit_two_pow]
  by_cases h : i = p / 8
  · rw [if_pos h, Nat.testBit_two_pow]
    by_cases h2 : p % 8 = j
    · simp [h2]; omega
    · have : ¬ p = j + 8 * i := by omega
      simp [h2, this]
  · rw [if_neg h, Nat.zero_testBit]
    by_cases hj : j < 8
    · have : ¬ p = j + 8 * i := by omega
      simp [this]
    · simp [hj]
theorem xor_byte (m q i : Nat) : (m ^^^ q) / 256 ^ i % 256 = (m / 256 ^ i % 256) ^^^ (q / 256 ^ i % 256) := by
  apply Nat.eq_of_testBit_eq
  intro j
  rw [show 256 ^ i = 2 ^ (8 * i) by rw [Nat.pow_mul], show (256 : Nat) = 2 ^ 8 from rfl]
  simp only [Nat.testBit_mod_two_pow, Nat.testBit_div_two_pow, Nat.testBit_xor]
  cases decide (j < 8) <;> simp
/-- One bit more turned. -/
theorem turn_bit (zs : List Int) (m p : Nat) (_hp : p / 8 < zs.length) : turn zs (m ^^^ 2 ^ p) = (turn zs m).set (p / 8) ((((turn zs m).getD (p / 8) 0).toNat ^^^ 2 ^ (p % 8) : Nat) : Int) := by
  apply List.ext_getElem (by simp [turn_length])
  intro i h1 h2
  have hi : i < zs.length := by simpa [turn_length] using h1
  have e1 : ∀ (l : List Int) (h : i < l.length), l[i] = l.getD i 0 := fun l h => by simp [h]
  rw [List.getElem_set, e1 _ h1, turn_getD _ _ _ hi, xor_byte, bit_byte]
  by_cases h : p / 8 = i
  · rw [if_pos h, if_pos h.symm, h, turn_getD _ _ _ hi, Int.toNat_natCast, Nat.xor_assoc]
  · rw [if_neg h, if_neg (fun e => h e.symm), e1 _ (by rw [turn_length]; exact hi), turn_getD _ _ _ hi, Nat.xor_zero]
theorem part_succ (v k i : Nat) : v % 2 ^ (i + 1) * 2 ^ k = (v % 2 ^ i * 2 ^ k) ^^^ (if v.testBit i then 2 ^ (k + i) else 0) := by
  apply Nat.eq_of_testBit_eq
  intro j
  rw [Nat.testBit_xor, Nat.testBit_mul_two_pow, Nat.testBit_mul_two_pow, Nat.testBit_mod_two_pow, Nat.testBit_mod_two_pow]
  by_cases hj : k + i = j
  · subst hj
    cases h : v.testBit i <;> simp [h]
  · have e : (if v.testBit i = true then 2 ^ (k + i) else 0).testBit j = false := by
      split
      · rw [Nat.testBit_two_pow]; simpa using hj
      · simp
    rw [e]
    by_cases h1 : k ≤ j
    · by_cases h2 : j - k < i
      · simp [h1, h2, show j - k < i + 1 by omega]
      · simp [h2, show ¬ j - k < i + 1 by omega]
    · simp [h1]
end Go.Proofs.YtmelmiookkeoaaaDoor.C
