
/- Plain mathematics of layers 3 and 4: bytes of a device by its words. -/
import Derived.Test.YtmelmiookkeoaaaDoorSuQ

namespace Go.Proofs.YtmelmiookkeoaaaDoor.V

open Go.Proofs.YtmelmiookkeoaaaDoor

theorem flat_byte : ∀ (ls : List Ln), (∀ l ∈ ls, l.Good) → ∀ i, i < 64 * ls.length → (ls.flatMap (·.now)).getD i 0 = ((ls[i / 64]?.getD zeroLn).now).getD (i % 64) 0
  | [], _, i, h => by simp at h
  | l :: ls, hg, i, h => by
    have hl := (hg l (by simp)).len
    rw [List.flatMap_cons]
    by_cases hi : i < 64
    · rw [List.getD_eq_getElem?_getD, List.getElem?_append_left (by omega), Nat.div_eq_of_lt hi, Nat.mod_eq_of_lt hi, List.getD_eq_getElem?_getD]
      rfl
    · have e1 : i / 64 = (i - 64) / 64 + 1 := by omega
      have e2 : i % 64 = (i - 64) % 64 := by omega
      rw [List.getD_eq_getElem?_getD, List.getElem?_append_right (by omega), hl, e1, e2, List.getElem?_cons_succ, ← flat_byte ls (fun x hx => hg x (List.mem_cons_of_mem _ hx)) (i - 64) (by simp at h; omega), List.getD_eq_getElem?_getD]
theorem gv_byte {zs : List Int} (hz : ∀ z ∈ zs, 0 ≤ z ∧ z ≤ 255) (a j k : Nat) (hj : j < k) : M.gv zs a k / 256 ^ j % 256 = (zs.getD (a + j) 0).toNat := by
  induction k with
  | zero => omega
  | succ k ih =>
    have hr := M.getD_range hz (a + k)
    show (M.gv zs a k + (zs.getD (a + k) 0).toNat * 256 ^ k) / 256 ^ j % 256 = _
    by_cases e : j = k
    · subst e
      rw [Nat.add_mul_div_right _ _ (Nat.pow_pos (by decide)), Nat.div_eq_of_lt (M.gv_lt hz a j), Nat.zero_add]
      omega
    · have hjk : j < k := by omega
      have e1 : 256 ^ k = 256 * 256 ^ (k - j - 1) * 256 ^ j := by
        rw [show 256 * 256 ^ (k - j - 1) = 256 ^ (k - j - 1 + 1) by rw [Nat.pow_succ]; omega, ← Nat.pow_add]; congr 1; omega
      rw [e1, ← Nat.mul_assoc, Nat.add_mul_div_right _ _ (Nat.pow_pos (by decide)), Nat.mul_left_comm, Nat.add_mul_mod_self_left]
      exact ih hjk
/-- A byte of a device is that of its word. -/
theorem image_byte {d : Dv} (hg : d.Good) (i : Nat) (hi : i < 64 * d.lines.length) : d.image.getD i 0 = ((d.word (8 * (i / 8)) / 256 ^ (i % 8) % 256 : Nat) : Int) := by
  have h1 : d.image.getD i 0 = ((d.at (i / 64)).now).getD (i % 64) 0 := flat_byte d.lines hg.lines i hi
  have h2 := gv_byte (hg.at (i / 64)).byte (8 * (i / 8) % 64) (i % 8) 8 (by omega)
  have hr := M.getD_range (hg.at (i / 64)).byte (i % 64)
  unfold Dv.word
  rw [h1, Ln.get_eq, show 8 * (i / 8) / 64 = i / 64 by omega, h2, show 8 * (i / 8) % 64 + i % 8 = i % 64 by omega]
  omega
end Go.Proofs.YtmelmiookkeoaaaDoor.V
