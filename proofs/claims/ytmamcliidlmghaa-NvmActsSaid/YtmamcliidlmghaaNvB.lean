/- Plain mathematics of layer 3: bytes of words; a word put back. -/
import Derived.Test.YtmamcliidlmghaaNvM
namespace Go.Proofs.Ytmamcliidlmghaa.V
open Go.Proofs.Ytmamcliidlmghaa

theorem gv_digit' {zs : List Int} (hz : ∀ z ∈ zs, 0 ≤ z ∧ z ≤ 255) (a j k : Nat) (hj : j < k) : M.gv zs a k / 256 ^ j % 256 = (zs.getD (a + j) 0).toNat := by
  induction k with
  | zero => omega
  | succ k ih =>
    have hr := M.getD_range hz (a + k)
    show (M.gv zs a k + (zs.getD (a + k) 0).toNat * 256 ^ k) / 256 ^ j % 256 = _
    by_cases e : j = k
    · subst e
      rw [Nat.add_mul_div_right _ _ (Nat.pow_pos (by decide)), Nat.div_eq_of_lt (M.gv_lt hz a j), Nat.zero_add]
      omega
    · have hjk : j < k := by omega
      have e1 : 256 ^ k = 256 * 256 ^ (k - j - 1) * 256 ^ j := by
        rw [show 256 * 256 ^ (k - j - 1) = 256 ^ (k - j - 1 + 1) by rw [Nat.pow_succ]; omega, ← Nat.pow_add]; congr 1; omega
      rw [e1, ← Nat.mul_assoc, Nat.add_mul_div_right _ _ (Nat.pow_pos (by decide)), Nat.mul_left_comm, Nat.add_mul_mod_self_left]
      exact ih hjk
theorem gv_digit {zs : List Int} (hz : ∀ z ∈ zs, 0 ≤ z ∧ z ≤ 255) (a j : Nat) (hj : j < 8) : ((M.gv zs a 8 / 256 ^ j % 256 : Nat) : Int) = zs.getD (a + j) 0 := by
  rw [gv_digit' hz a j 8 hj]
  have := M.getD_range hz (a + j)
  omega
theorem pv_back {zs : List Int} (hz : ∀ z ∈ zs, 0 ≤ z ∧ z ≤ 255) (a n : Nat) (h : a + 8 ≤ zs.length) : M.pv (M.pv zs a n 8) a (M.gv zs a 8) 8 = zs := by
  have key : ∀ i, i < zs.length → (M.pv (M.pv zs a n 8) a (M.gv zs a 8) 8).getD i 0 = zs.getD i 0 := fun i hi => by
    rw [M.pv_getD _ _ _ _ _ (by rw [M.pv_length]; exact hi), M.pv_getD _ _ _ _ _ hi]
    by_cases hr : a ≤ i ∧ i < a + 8
    · rw [if_pos hr, gv_digit hz a (i - a) (by omega), show a + (i - a) = i by omega]
    · rw [if_neg hr, if_neg hr]
  refine List.ext_getElem (by rw [M.pv_length, M.pv_length]) (fun i h1 h2 => ?_)
  have := key i h2
  simpa [List.getD_eq_getElem?_getD, h1, h2] using this
end Go.Proofs.Ytmamcliidlmghaa.V
