/- Plain mathematics of layer 4, the last of it: bytes by words; what Clear leaves. -/
import Derived.Test.YtccdmcidfnmnjaaSuT
namespace Go.Proofs.Ytccdmcidfnmnjaa.V
open Go.Proofs.Ytccdmcidfnmnjaa

theorem flat_byte : ∀ (ls : List Ln), (∀ l ∈ ls, l.Good) → ∀ i, i < 64 * ls.length → (ls.flatMap (·.now)).getD i 0 = ((ls[i / 64]?.getD zeroLn).now).getD (i % 64) 0
  | [], _, i, h => by simp at h
  | l :: ls, hg, i, h => by
    have hl := (hg l (by simp)).len
    rw [List.flatMap_cons]
    by_cases hi : i < 64
    · rw [List.getD_eq_getElem?_getD, List.getElem?_append_left (by omega), Nat.div_eq_of_lt hi, Nat.mod_eq_of_lt hi, List.getD_eq_getElem?_getD]
      rfl
    · have e1 : i / 64 = (i - 64) / 64 + 1 := by omega
      have e2 : i % 64 = (i - 64) % 64 := by omega
      rw [List.getD_eq_getElem?_getD, List.getElem?_append_right (by omega), hl, e1, e2, List.getElem?_cons_succ, ← flat_byte ls (fun x hx => hg x (List.mem_cons_of_mem _ hx)) (i - 64) (by simp at h; omega), List.getD_eq_getElem?_getD]
theorem gv_byte {zs : List Int} (hz : ∀ z ∈ zs, 0 ≤ z ∧ z ≤ 255) (a j k : Nat) (hj : j < k) : M.gv zs a k / 256 ^ j % 256 = (zs.getD (a + j) 0).toNat := by
  induction k with
  | zero => omega
  | succ k ih =>
    have hr := M.getD_range hz (a + k)
    show (M.gv zs a k + (zs.getD (a + k) 0).toNat * 256 ^ k) / 256 ^ j % 256 = _
    by_cases e : j = k
    · subst e
      rw [Nat.add_mul_div_right _ _ (Nat.pow_pos (by decide)), Nat.div_eq_of_lt (M.gv_lt hz a j), Nat.zero_add]
      omega
    · have hjk : j < k := by omega
      have e1 : 256 ^ k = 256 * 256 ^ (k - j - 1) * 256 ^ j := by
        rw [show 256 * 256 ^ (k - j - 1) = 256 ^ (k - j - 1 + 1) by rw [Nat.pow_succ]; omega, ← Nat.pow_add]; congr 1; omega
      rw [e1, ← Nat.mul_assoc, Nat.add_mul_div_right _ _ (Nat.pow_pos (by decide)), Nat.mul_left_comm, Nat.add_mul_mod_self_left]
      exact ih hjk
/-- A byte of a device is that of its word. -/
theorem image_byte {d : Dv} (hg : d.Good) (i : Nat) (hi : i < 64 * d.lines.length) : d.image.getD i 0 = ((d.word (8 * (i / 8)) / 256 ^ (i % 8) % 256 : Nat) : Int) := by
  have h1 : d.image.getD i 0 = ((d.at (i / 64)).now).getD (i % 64) 0 := flat_byte d.lines hg.lines i hi
  have h2 := gv_byte (hg.at (i / 64)).byte (8 * (i / 8) % 64) (i % 8) 8 (by omega)
  have hr := M.getD_range (hg.at (i / 64)).byte (i % 64)
  unfold Dv.word
  rw [h1, Ln.get_eq, show 8 * (i / 8) / 64 = i / 64 by omega, h2, show 8 * (i / 8) % 64 + i % 8 = i % 64 by omega]
  omega
theorem stored_left (l : List Nat) : ∀ j, (stored l j).left = -1
  | 0 => rfl
  | j + 1 => by
    have h := stored_left l j
    show ((stored l j).store (8 * ((j % 60 : Nat) : Int)) (l.getD j 0)).left = -1
    unfold Dv.store
    split
    · show (if 0 < (stored l j).left then (stored l j).left - 1 else (stored l j).left) = -1
      rw [if_neg (by rw [h]; decide)]; exact h
    · exact h
theorem twoDv_left (l : List Nat) (q : Nat) : (twoDv l q).left = (q : Int) := by
  show ((stored l l.length).stop (q : Int)).left = _
  unfold Dv.stop
  rw [if_neg (by rw [stored_left]; decide)]
  show max (q : Int) 0 = _
  omega
theorem clear_big {d : Dv} {off many : Int} (h : ¬ (0 ≤ many ∧ many ≤ 1024 ∧ off % 64 = 0)) : d.clear off many = (d, 2) := if_neg h
theorem clear_out {d : Dv} {off many : Int} (hd : d.lines.length = 8) (h : 0 ≤ many ∧ many ≤ 1024 ∧ off % 64 = 0) (hx : ¬ (0 ≤ off ∧ off + 64 * many ≤ 512)) : d.clear off many = (d, 4) := by
  unfold Dv.clear
  rw [if_pos h]
  unfold Dv.putAll
  rw [if_neg (fun hr => hx (by obtain ⟨a, _, _, c⟩ := room_zero.1 hr; rw [List.length_replicate, hd] at c; omega))]
/-- The statement's own claim of SureClears. -/
theorem clear_in {d : Dv} {off many : Int} (hg : d.Good) (hd : d.lines.length = 8) (hleft : d.left = 255) (h : 0 ≤ many ∧ many ≤ 1024 ∧ off % 64 = 0) (hx : 0 ≤ off ∧ off + 64 * many ≤ 512) :
    (d.clear off many).2 = 0 ∧ (d.clear off many).1.lines.length = 8 ∧ (d.clear off many).1.Good ∧ (d.clear off many).1.steps ≤ d.steps + 200 ∧
    ∀ i : Nat, i < 512 → (off ≤ (i : Int) ∧ (i : Int) < off + 64 * many → (d.clear off many).1.image.getD i 0 = 0 ∧ (d.clear off many).1.may ((i : Int) / 64) = 1) ∧
      (¬ (off ≤ (i : Int) ∧ (i : Int) < off + 64 * many) → (d.clear off many).1.image.getD i 0 = d.image.getD i 0) := by
  obtain ⟨k, hk⟩ : ∃ k, k = 8 * many.toNat := ⟨_, rfl⟩
  have hk9 : k ≤ 64 ∧ (k : Int) = 8 * many := by omega
  have hr : d.room off ((List.replicate k 0).length : Nat) = 0 := room_zero.2 ⟨hx.1, by omega, by simp, by rw [List.length_replicate, hd]; omega⟩
  have e : d.clear off many = runL d (puts off (List.replicate k 0)) := by
    unfold Dv.clear
    rw [if_pos h, ← hk]
    unfold Dv.putAll
    rw [if_pos hr]
  have hpl := puts_length off (List.replicate k 0)
  rw [List.length_replicate] at hpl
  have hn : ∀ n ∈ List.replicate k 0, n < 2 ^ 64 := fun n hn => by have := List.eq_of_mem_replicate hn; omega
  obtain ⟨g1, _, _⟩ := runL_goes (n := 8) (puts off (List.replicate k 0)) (d := d) (puts_fits hx.1 (by omega) (by rw [List.length_replicate]; omega)) hd (.inr (by omega))
  obtain ⟨p1, p2⟩ := puts_done hg hx.1 (by omega) (by rw [List.length_replicate, hd]; omega) hn g1
  have g3 := runL_len (puts off (List.replicate k 0)) d
  rw [hd] at g3
  have g4 := runL_good (puts off (List.replicate k 0)) hg
  have g5 := runL_steps (puts off (List.replicate k 0)) d
  rw [e]
  rw [hd] at p2
  generalize (runL d (puts off (List.replicate k 0))).1 = d1 at *
  refine ⟨g1, g3, g4, by omega, fun i hi => ⟨fun hin => ?_, fun hout => ?_⟩⟩
  · obtain ⟨t, ht⟩ : ∃ t : Nat, t = (i - off.toNat) / 8 := ⟨_, rfl⟩
    have ha : off + 8 * (t : Int) = ((8 * (i / 8) : Nat) : Int) := by omega
    have htk : t < k := by omega
    obtain ⟨q1, q2⟩ := p1 t 0 (by rw [List.getElem?_replicate, if_pos htk])
    rw [ha, Int.toNat_natCast] at q1 q2
    refine ⟨?_, ?_⟩
    · rw [image_byte g4 i (by rw [g3]; omega), q1]; simp
    · rw [show 8 * (i / 8) / 64 = i / 64 by omega] at q2
      unfold Dv.may
      rw [if_pos ⟨by omega, by rw [g3]; omega⟩, show ((i : Int) / 64).toNat = i / 64 by omega, q2]
      rfl
  · rw [image_byte g4 i (by rw [g3]; omega), image_byte hg i (by rw [hd]; omega), p2 (8 * (i / 8)) (by omega) (by omega) (fun t ht he => hout (by rw [List.length_replicate] at ht; omega))]
end Go.Proofs.Ytccdmcidfnmnjaa.V
