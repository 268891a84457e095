
/- Contracts of layer 6's functions that only read: what each call returns; nothing is written. No condition but the ranges named. -/
import Derived.Test.YtbaealdabplmdaaDoorWb

import Derived.Test.YtbaealdabplmdaaDoorSlM

namespace Go.Proofs.YtbaealdabplmdaaDoor

open Go.RowKit

theorem sl_lines (c : Int) (w : World) :
    Calls Tryd.prog 19 #[.int .i64 c] w fun e w' => e = .returned (.int .i64 (S.lns c : Nat)) ∧ ∃ m, w' = w.drewN m := by
  by_cases h1 : c = 1
  · subst h1
    go_enter Tryd.func19, Tryd.ntmps19
    go_wp2
    go_ret
    exact ⟨rfl, nodraw _⟩
  · by_cases h2 : c = 2
    · subst h2
      go_enter Tryd.func19, Tryd.ntmps19
      go_wp2
      go_ret
      exact ⟨rfl, nodraw _⟩
    · have HN : Hid (S.lns c = 0) := by show _ = _; unfold S.lns; rw [if_neg h1, if_neg h2]
      go_enter Tryd.func19, Tryd.ntmps19
      go_wp2
      go_ret
      exact ⟨ret_int (by rw [HN.out]; rfl), nodraw _⟩
theorem sl_blocks (c : Int) (w : World) :
    Calls Tryd.prog 17 #[.int .i64 c] w fun e w' => e = .returned (.int .i64 (S.blk c : Nat)) ∧ ∃ m, w' = w.drewN m := by
  by_cases h1 : c = 1
  · subst h1
    go_enter Tryd.func17, Tryd.ntmps17
    go_wp2_with fail
    refine (sl_lines _ _).mono ?_
    rintro e w' ⟨rfl, m, rfl⟩
    rw [show ((S.lns 1 : Nat) : Int) = 1 from rfl]
    go_wp2
    go_ret
    exact ⟨rfl, _, rfl⟩
  · by_cases h2 : c = 2
    · subst h2
      go_enter Tryd.func17, Tryd.ntmps17
      go_wp2_with fail
      refine (sl_lines _ _).mono ?_
      rintro e w' ⟨rfl, m, rfl⟩
      rw [show ((S.lns 2 : Nat) : Int) = 4 from rfl]
      go_wp2
      go_ret
      exact ⟨rfl, _, rfl⟩
    · have HL : Hid (((S.lns c : Nat) : Int) = 0) := by show _ = _; unfold S.lns; rw [if_neg h1, if_neg h2]; rfl
      have HN : Hid (((S.blk c : Nat) : Int) = 0) := by show _ = _; unfold S.blk; rw [if_neg h1, if_neg h2]; rfl
      go_enter Tryd.func17, Tryd.ntmps17
      go_wp2_with fail
      refine (sl_lines _ _).mono ?_
      rintro e w' ⟨rfl, m, rfl⟩
      rw [HL.out]
      go_wp2
      go_ret
      exact ⟨ret_int (by rw [HN.out]), _, rfl⟩
theorem sl_classOf (n : Nat) (w : World) (hn : n < 2 ^ 64) :
    Calls Tryd.prog 27 #[.int .u64 n] w fun e w' => e = .returned (.int .i64 (M.fld n 16 2 : Nat)) ∧ ∃ m, w' = w.drewN m := by
  have hlt : M.fld n 16 2 < 4 := Nat.mod_lt _ (by decide)
  have HF : Hid (∀ W : World, Calls Tryd.prog 26 #[.int .u64 n, .int .i64 16, .int .i64 2] W fun e w' => e = .returned (.int .u64 (M.fld n 16 2 : Nat)) ∧ ∃ m, w' = W.drewN m) := fun W => field_any n 16 2 W hn
  clear hn
  generalize M.fld n 16 2 = x at *
  go_enter Tryd.func27, Tryd.ntmps27
  go_wp2_with fail
  refine (HF.out _).mono ?_
  rintro e w' ⟨rfl, m, rfl⟩
  go_wp2
  go_ret
  exact ⟨rfl, _, rfl⟩
theorem sl_right (n : Nat) (w : World) (hn : n < 2 ^ 64) :
    Calls Tryd.prog 12 #[.int .u64 n] w fun e w' => e = .returned (.bool (S.rgt n)) ∧ ∃ m, w' = w.drewN m := by
  rw [S.rgt_code n hn]
  have HF : Hid (∀ W : World, Calls Tryd.prog 26 #[.int .u64 n, .int .i64 0, .int .i64 16] W fun e w' => e = .returned (.int .u64 (M.fld n 0 16 : Nat)) ∧ ∃ m, w' = W.drewN m) := fun W => field_any n 0 16 W hn
  have HR : Hid (∀ W : World, Calls Tryd.prog 26 #[.int .u64 n, .int .i64 18, .int .i64 64] W fun e w' => e = .returned (.int .u64 (M.fld n 18 64 : Nat)) ∧ ∃ m, w' = W.drewN m) := fun W => field_any n 18 64 W hn
  have HC : Hid (∀ W : World, Calls Tryd.prog 27 #[.int .u64 n] W fun e w' => e = .returned (.int .i64 (M.fld n 16 2 : Nat)) ∧ ∃ m, w' = W.drewN m) := fun W => sl_classOf n W hn
  have ht : M.fld n 0 16 < 2 ^ 64 := M.fld_lt n 0 16 hn
  have HB : Hid (∀ W : World, Calls Tryd.prog 26 #[.int .u64 (M.fld n 0 16 : Nat), .int .i64 (S.blk (M.fld n 16 2 : Nat) : Nat), .int .i64 16] W fun e w' => e = .returned (.int .u64 (M.fld (M.fld n 0 16) (S.blk (M.fld n 16 2 : Nat)) 16 : Nat)) ∧ ∃ m, w' = W.drewN m) := by
    intro W
    have := field_any (M.fld n 0 16) (S.blk (M.fld n 16 2 : Nat) : Nat) 16 W ht
    rwa [Int.toNat_natCast] at this
  clear ht hn
  generalize M.fld (M.fld n 0 16) (S.blk (M.fld n 16 2 : Nat)) 16 = z at *
  generalize M.fld n 0 16 = x at *
  generalize M.fld n 16 2 = y at *
  generalize M.fld n 18 64 = r at *
  by_cases h0 : n = 0
  · subst h0
    go_enter Tryd.func12, Tryd.ntmps12
    go_wp2
    go_ret
    exact ⟨ret_bool (by simp), nodraw _⟩
  · have e0 : (decide (n = 0)) = false := decide_eq_false h0
    rw [e0, Bool.false_or]
    clear e0
    by_cases hx : x = 0
    · subst hx
      go_enter Tryd.func12, Tryd.ntmps12
      go_wp2_with fail
      refine (HF.out _).mono ?_
      rintro e w' ⟨rfl, m1, rfl⟩
      go_wp2_with fail
      refine (HC.out _).mono ?_
      rintro e w' ⟨rfl, m2, rfl⟩
      go_wp2_with fail
      refine (sl_blocks _ _).mono ?_
      rintro e w' ⟨rfl, m3, rfl⟩
      go_wp2_with fail
      refine (HB.out _).mono ?_
      rintro e w' ⟨rfl, m4, rfl⟩
      go_wp2_with fail
      refine (HR.out _).mono ?_
      rintro e w' ⟨rfl, m5, rfl⟩
      go_wp2
      go_ret
      exact ⟨ret_bool (by simp), _, rfl⟩
    · by_cases hz : z = 0
      · subst hz
        go_enter Tryd.func12, Tryd.ntmps12
        go_wp2_with fail
        refine (HF.out _).mono ?_
        rintro e w' ⟨rfl, m1, rfl⟩
        go_wp2_with fail
        refine (HC.out _).mono ?_
        rintro e w' ⟨rfl, m2, rfl⟩
        go_wp2_with fail
        refine (sl_blocks _ _).mono ?_
        rintro e w' ⟨rfl, m3, rfl⟩
        go_wp2_with fail
        refine (HB.out _).mono ?_
        rintro e w' ⟨rfl, m4, rfl⟩
        go_wp2_with fail
        refine (HR.out _).mono ?_
        rintro e w' ⟨rfl, m5, rfl⟩
        go_wp2
        go_ret
        exact ⟨ret_bool (by rw [Bool.eq_iff_iff]; simp [hx]), _, rfl⟩
      · go_enter Tryd.func12, Tryd.ntmps12
        go_wp2_with fail
        refine (HF.out _).mono ?_
        rintro e w' ⟨rfl, m1, rfl⟩
        go_wp2_with fail
        refine (HC.out _).mono ?_
        rintro e w' ⟨rfl, m2, rfl⟩
        go_wp2_with fail
        refine (sl_blocks _ _).mono ?_
        rintro e w' ⟨rfl, m3, rfl⟩
        go_wp2_with fail
        refine (HB.out _).mono ?_
        rintro e w' ⟨rfl, m4, rfl⟩
        go_wp2_with fail
        refine (HR.out _).mono ?_
        rintro e w' ⟨rfl, m5, rfl⟩
        go_wp2
        go_ret
        exact ⟨ret_bool (by simp [hx, hz]), _, rfl⟩
theorem sl_class (n : Nat) (w : World) (hn : n < 2 ^ 64) :
    Calls Tryd.prog 13 #[.int .u64 n] w fun e w' => e = .returned (.int .i64 (S.cls n : Nat)) ∧ ∃ m, w' = w.drewN m := by
  have HR : Hid (∀ W : World, Calls Tryd.prog 12 #[.int .u64 n] W fun e w' => e = .returned (.bool (S.rgt n)) ∧ ∃ m, w' = W.drewN m) := fun W => sl_right n W hn
  cases h : S.rgt n with
  | false =>
    have e0 : S.cls n = 0 := by rcases S.shape n with ⟨_, _, h1, _⟩ | ⟨h1, _⟩; exact h1; rw [h1] at h; cases h
    rw [h] at HR
    rw [e0]
    clear e0 h
    go_enter Tryd.func13, Tryd.ntmps13
    go_wp2_with fail
    refine (HR.out _).mono ?_
    rintro e w' ⟨rfl, m1, rfl⟩
    go_wp2
    go_ret
    exact ⟨rfl, _, rfl⟩
  | true =>
    have HC : Hid (∀ W : World, Calls Tryd.prog 27 #[.int .u64 n] W fun e w' => e = .returned (.int .i64 (S.cls n : Nat)) ∧ ∃ m, w' = W.drewN m) := by
      intro W
      have := sl_classOf n W hn
      rwa [S.cls_code h] at this
    rw [h] at HR
    clear h
    generalize S.cls n = c at *
    go_enter Tryd.func13, Tryd.ntmps13
    go_wp2_with fail
    refine (HR.out _).mono ?_
    rintro e w' ⟨rfl, m1, rfl⟩
    go_wp2_with fail
    refine (HC.out _).mono ?_
    rintro e w' ⟨rfl, m2, rfl⟩
    go_wp2
    go_ret
    exact ⟨rfl, _, rfl⟩
theorem sl_stands (c a : Int) (w : World) :
    Calls Tryd.prog 28 #[.int .i64 c, .int .i64 a] w fun e w' => e = .returned (.bool (decide (0 ≤ a ∧ a < (S.blk c : Int)))) ∧ ∃ m, w' = w.drewN m := by
  have HB : Hid (∀ W : World, Calls Tryd.prog 17 #[.int .i64 c] W fun e w' => e = .returned (.int .i64 (S.blk c : Nat)) ∧ ∃ m, w' = W.drewN m) := fun W => sl_blocks c W
  generalize S.blk c = b at *
  by_cases h0 : 0 ≤ a
  · go_enter Tryd.func28, Tryd.ntmps28
    go_wp2_with fail
    refine (HB.out _).mono ?_
    rintro e w' ⟨rfl, m1, rfl⟩
    go_wp2
    go_ret
    exact ⟨ret_bool (by simp [h0]), _, rfl⟩
  · go_enter Tryd.func28, Tryd.ntmps28
    go_wp2
    go_ret
    exact ⟨ret_bool (by simp; omega), nodraw _⟩
theorem has_code (n : Nat) (a : Int) : S.has n a = (decide (0 ≤ a ∧ a < (S.blk (S.cls n) : Int)) && decide (M.fld n a.toNat 1 = 1)) := by
  rw [Bool.eq_iff_iff, Bool.and_eq_true, decide_eq_true_eq, decide_eq_true_eq, S.fld_bit]
  constructor
  · intro h
    have h1 := S.has_lt h
    refine ⟨h1, ?_⟩
    have hb := S.blk_le (S.cls n)
    rw [S.bit_of (S.has_rgt h) (by omega)]
    unfold S.has at h
    rw [Bool.and_eq_true] at h
    rw [h.2]; rfl
  · rintro ⟨h1, h2⟩
    have hb := S.blk_le (S.cls n)
    have hr : S.rgt n = true := by
      rcases S.shape n with ⟨_, _, h3, _⟩ | ⟨h3, _⟩
      · rw [h3] at h1
        have : S.blk ((0 : Nat) : Int) = 0 := rfl
        omega
      · exact h3
    rw [S.bit_of hr (by omega)] at h2
    unfold S.has
    rw [Bool.and_eq_true, decide_eq_true_eq]
    refine ⟨h1.1, ?_⟩
    cases hb : (S.tkn n).testBit a.toNat with
    | true => rfl
    | false => rw [hb] at h2; simp at h2
theorem sl_has (n : Nat) (a : Int) (w : World) (hn : n < 2 ^ 64) :
    Calls Tryd.prog 14 #[.int .u64 n, .int .i64 a] w fun e w' => e = .returned (.bool (S.has n a)) ∧ ∃ m, w' = w.drewN m := by
  rw [has_code]
  have HC : Hid (∀ W : World, Calls Tryd.prog 13 #[.int .u64 n] W fun e w' => e = .returned (.int .i64 (S.cls n : Nat)) ∧ ∃ m, w' = W.drewN m) := fun W => sl_class n W hn
  have HF : Hid (∀ W : World, Calls Tryd.prog 26 #[.int .u64 n, .int .i64 a, .int .i64 1] W fun e w' => e = .returned (.int .u64 (M.fld n a.toNat 1 : Nat)) ∧ ∃ m, w' = W.drewN m) := fun W => field_any n a 1 W hn
  have HS : Hid (∀ W : World, Calls Tryd.prog 28 #[.int .i64 (S.cls n : Nat), .int .i64 a] W fun e w' => e = .returned (.bool (decide (0 ≤ a ∧ a < (S.blk (S.cls n) : Int)))) ∧ ∃ m, w' = W.drewN m) := fun W => sl_stands _ a W
  clear hn
  generalize S.cls n = c at *
  generalize M.fld n a.toNat 1 = x at *
  generalize decide (0 ≤ a ∧ a < (S.blk c : Int)) = b at *
  cases b with
  | false =>
    go_enter Tryd.func14, Tryd.ntmps14
    go_wp2_with fail
    refine (HC.out _).mono ?_
    rintro e w' ⟨rfl, m1, rfl⟩
    go_wp2_with fail
    refine (HS.out _).mono ?_
    rintro e w' ⟨rfl, m2, rfl⟩
    go_wp2
    go_ret
    exact ⟨ret_bool (by simp), _, rfl⟩
  | true =>
    go_enter Tryd.func14, Tryd.ntmps14
    go_wp2_with fail
    refine (HC.out _).mono ?_
    rintro e w' ⟨rfl, m1, rfl⟩
    go_wp2_with fail
    refine (HS.out _).mono ?_
    rintro e w' ⟨rfl, m2, rfl⟩
    go_wp2_with fail
    refine (HF.out _).mono ?_
    rintro e w' ⟨rfl, m3, rfl⟩
    go_wp2
    go_ret
    exact ⟨ret_bool (by rw [Bool.eq_iff_iff]; simp; omega), _, rfl⟩
theorem sl_suits (n : Nat) (c : Int) (w : World) (hn : n < 2 ^ 64) :
    Calls Tryd.prog 29 #[.int .u64 n, .int .i64 c] w fun e w' => e = .returned (.bool (S.sui n c)) ∧ ∃ m, w' = w.drewN m := by
  have HC : Hid (∀ W : World, Calls Tryd.prog 13 #[.int .u64 n] W fun e w' => e = .returned (.int .i64 (S.cls n : Nat)) ∧ ∃ m, w' = W.drewN m) := fun W => sl_class n W hn
  by_cases hc : c = 1 ∨ c = 2
  · have HB : Hid (0 < (S.blk c : Int)) := by
      show 0 < (S.blk c : Int)
      rcases hc with rfl | rfl <;> decide
    by_cases h0 : n = 0
    · subst h0
      have HS : Hid (S.sui 0 c = true) := decide_eq_true ⟨hc, .inl rfl⟩
      have hb := HB.out
      have HBL : Hid (∀ W : World, Calls Tryd.prog 17 #[.int .i64 c] W fun e w' => e = .returned (.int .i64 (S.blk c : Nat)) ∧ ∃ m, w' = W.drewN m) := fun W => sl_blocks c W
      generalize S.blk c = b at *
      go_enter Tryd.func29, Tryd.ntmps29
      go_wp2_with fail
      refine (HBL.out _).mono ?_
      rintro e w' ⟨rfl, m1, rfl⟩
      go_wp2
      go_ret
      exact ⟨ret_bool (by rw [HS.out]), _, rfl⟩
    · have HS : Hid (S.sui n c = decide ((S.cls n : Int) = c)) := by
        show _ = _
        unfold S.sui
        rw [decide_eq_decide]
        constructor
        · rintro ⟨_, h | h⟩
          · exact absurd h h0
          · exact h
        · intro h; exact ⟨hc, .inr h⟩
      have hb := HB.out
      have HBL : Hid (∀ W : World, Calls Tryd.prog 17 #[.int .i64 c] W fun e w' => e = .returned (.int .i64 (S.blk c : Nat)) ∧ ∃ m, w' = W.drewN m) := fun W => sl_blocks c W
      clear hc
      generalize S.blk c = b at *
      generalize S.cls n = k at *
      go_enter Tryd.func29, Tryd.ntmps29
      go_wp2_with fail
      refine (HBL.out _).mono ?_
      rintro e w' ⟨rfl, m1, rfl⟩
      go_wp2_with fail
      refine (HC.out _).mono ?_
      rintro e w' ⟨rfl, m2, rfl⟩
      go_wp2
      go_ret
      exact ⟨ret_bool (by rw [HS.out, Bool.eq_iff_iff]; simp; omega), _, rfl⟩
  · have HB : Hid (((S.blk c : Nat) : Int) = 0) := by show _ = _; unfold S.blk; rw [if_neg (by omega), if_neg (by omega)]; rfl
    have HS : Hid (S.sui n c = false) := decide_eq_false (fun h => hc h.1)
    clear hc
    go_enter Tryd.func29, Tryd.ntmps29
    go_wp2_with fail
    refine (sl_blocks _ _).mono ?_
    rintro e w' ⟨rfl, m1, rfl⟩
    rw [HB.out]
    go_wp2
    go_ret
    exact ⟨ret_bool (by rw [HS.out]), _, rfl⟩
theorem sl_next (n : Nat) (c : Int) (w : World) (hn : n < 2 ^ 64) (hT : TabAt 0 Lib.deBruijn64tab w) :
    Calls Tryd.prog 15 #[.int .u64 n, .int .i64 c] w fun e w' => e = .returned (.int .i64 (S.nxt n c)) ∧ ∃ m, w' = w.drewN m := by
  have HS : Hid (∀ W : World, Calls Tryd.prog 29 #[.int .u64 n, .int .i64 c] W fun e w' => e = .returned (.bool (S.sui n c)) ∧ ∃ m, w' = W.drewN m) := fun W => sl_suits n c W hn
  have HT := Lib.hid hT; clear hT
  unfold S.nxt
  cases h : S.sui n c with
  | false =>
    rw [h] at HS
    rw [if_neg (by decide)]
    clear h
    go_enter Tryd.func15, Tryd.ntmps15
    go_wp2_with fail
    refine (HS.out _).mono ?_
    rintro e w' ⟨rfl, m1, rfl⟩
    go_wp2
    go_ret
    exact ⟨rfl, _, rfl⟩
  | true =>
    rw [h] at HS
    rw [if_pos rfl]
    clear h
    go_enter Tryd.func15, Tryd.ntmps15
    go_wp2_with fail
    refine (HS.out _).mono ?_
    rintro e w' ⟨rfl, m1, rfl⟩
    go_wp2_with fail
    refine (sl_blocks _ _).mono ?_
    rintro e w' ⟨rfl, m2, rfl⟩
    go_wp2_with fail
    refine (low_any n _ _ hn (by exact HT.out)).mono ?_
    rintro e w' ⟨rfl, m3, rfl⟩
    go_wp2
    go_ret
    exact ⟨rfl, _, rfl⟩
/-- What Take puts together. -/
theorem take_code {n : Nat} {c a : Int} (_hn : n < 2 ^ 64) (h : S.tak n c a = true) : M.wth (M.wth n 16 2 c.toNat) a.toNat 1 1 = S.tkW n c a := by
  obtain ⟨k, rfl, h1, h2, hc, hcl, hb, hs, hr, e, _⟩ := S.take_of h
  have hlt := S.tkn_lt n
  have hcle := S.cls_le n
  rcases S.shape n with ⟨h3, _⟩ | ⟨_, h3, _⟩
  · rw [h3] at hr; cases hr
  rw [e, Int.toNat_natCast]
  have e1 : M.wth n 16 2 c.toNat = c.toNat * 65536 + S.tkn n := by
    conv => lhs; rw [h3]
    exact S.set_cls _ _ _ (by omega) (by omega) hlt
  have hbit : (c.toNat * 65536 + S.tkn n).testBit k = false := by
    rw [show c.toNat * 65536 + S.tkn n = 2 ^ 16 * c.toNat + S.tkn n by omega, Nat.testBit_two_pow_mul_add _ hlt, if_pos h2]
    exact hb
  rw [e1, S.set_bit _ _ (by omega) (by omega) hbit]
  omega
theorem sl_take (n : Nat) (c a : Int) (w : World) (hn : n < 2 ^ 64) :
    Calls Tryd.prog 21 #[.int .u64 n, .int .i64 c, .int .i64 a] w fun e w' => e = .returned (.tuple #[.int .u64 (S.tkW n c a : Nat), .bool (S.tak n c a)]) ∧ ∃ m, w' = w.drewN m := by
  have HS : Hid (∀ W : World, Calls Tryd.prog 29 #[.int .u64 n, .int .i64 c] W fun e w' => e = .returned (.bool (S.sui n c)) ∧ ∃ m, w' = W.drewN m) := fun W => sl_suits n c W hn
  have HD : Hid (∀ W : World, Calls Tryd.prog 28 #[.int .i64 c, .int .i64 a] W fun e w' => e = .returned (.bool (decide (0 ≤ a ∧ a < (S.blk c : Int)))) ∧ ∃ m, w' = W.drewN m) := fun W => sl_stands c a W
  have HH : Hid (∀ W : World, Calls Tryd.prog 14 #[.int .u64 n, .int .i64 a] W fun e w' => e = .returned (.bool (S.has n a)) ∧ ∃ m, w' = W.drewN m) := fun W => sl_has n a W hn
  cases hs : S.sui n c with
  | false =>
    have ht : S.tak n c a = false := by unfold S.tak; rw [hs]; rfl
    rw [hs] at HS
    rw [S.take_not ht, ht]
    clear ht hs
    go_enter Tryd.func21, Tryd.ntmps21
    go_wp2_with fail
    refine (HS.out _).mono ?_
    rintro e w' ⟨rfl, m1, rfl⟩
    go_wp2
    go_ret2
    exact ⟨rfl, _, rfl⟩
  | true =>
    cases hd : decide (0 ≤ a ∧ a < (S.blk c : Int)) with
    | false =>
      have ht : S.tak n c a = false := by unfold S.tak; rw [hs, hd]; rfl
      rw [hs] at HS
      rw [hd] at HD
      rw [S.take_not ht, ht]
      clear ht hs hd
      go_enter Tryd.func21, Tryd.ntmps21
      go_wp2_with fail
      refine (HS.out _).mono ?_
      rintro e w' ⟨rfl, m1, rfl⟩
      go_wp2_with fail
      refine (HD.out _).mono ?_
      rintro e w' ⟨rfl, m2, rfl⟩
      go_wp2
      go_ret2
      exact ⟨rfl, _, rfl⟩
    | true =>
      cases hh : S.has n a with
      | true =>
        have ht : S.tak n c a = false := by unfold S.tak; rw [hs, hd, hh]; rfl
        rw [hs] at HS
        rw [hd] at HD
        rw [hh] at HH
        rw [S.take_not ht, ht]
        clear ht hs hd hh
        go_enter Tryd.func21, Tryd.ntmps21
        go_wp2_with fail
        refine (HS.out _).mono ?_
        rintro e w' ⟨rfl, m1, rfl⟩
        go_wp2_with fail
        refine (HD.out _).mono ?_
        rintro e w' ⟨rfl, m2, rfl⟩
        go_wp2_with fail
        refine (HH.out _).mono ?_
        rintro e w' ⟨rfl, m3, rfl⟩
        go_wp2
        go_ret2
        exact ⟨rfl, _, rfl⟩
      | false =>
        have ht : S.tak n c a = true := by unfold S.tak; rw [hs, hd, hh]; rfl
        have HW1 : Hid (∀ W : World, Calls Tryd.prog 31 #[.int .u64 n, .int .i64 16, .int .i64 2, .int .u64 c] W fun e w' => e = .returned (.int .u64 (M.wth n 16 2 c.toNat : Nat)) ∧ ∃ m, w' = W.drewN m) := by
          intro W
          have hc := (S.sui_blk hs).1
          have := with_any n c.toNat 16 2 W hn (by omega)
          rwa [show ((c.toNat : Nat) : Int) = c by omega] at this
        have HW2 : Hid (∀ W : World, Calls Tryd.prog 31 #[.int .u64 (M.wth n 16 2 c.toNat : Nat), .int .i64 a, .int .i64 1, .int .u64 1] W fun e w' => e = .returned (.int .u64 (S.tkW n c a : Nat)) ∧ ∃ m, w' = W.drewN m) := by
          intro W
          have := with_any (M.wth n 16 2 c.toNat) 1 a 1 W (M.wth_lt _ _ _ _) (by decide)
          rwa [show Int.toNat 1 = 1 from rfl, take_code hn ht] at this
        have hc12 := (S.sui_blk hs).1
        rw [hs] at HS
        rw [hd] at HD
        rw [hh] at HH
        rw [ht]
        clear ht hs hd hh
        generalize S.tkW n c a = x at *
        generalize M.wth n 16 2 c.toNat = y at *
        go_enter Tryd.func21, Tryd.ntmps21
        go_wp2_with fail
        refine (HS.out _).mono ?_
        rintro e w' ⟨rfl, m1, rfl⟩
        go_wp2_with fail
        refine (HD.out _).mono ?_
        rintro e w' ⟨rfl, m2, rfl⟩
        go_wp2_with fail
        refine (HH.out _).mono ?_
        rintro e w' ⟨rfl, m3, rfl⟩
        go_wp2_with fail
        refine (HW1.out _).mono ?_
        rintro e w' ⟨rfl, m4, rfl⟩
        go_wp2_with fail
        refine (HW2.out _).mono ?_
        rintro e w' ⟨rfl, m5, rfl⟩
        go_wp2
        go_ret2
        exact ⟨rfl, _, rfl⟩
/-- What Drop puts together. -/
theorem drop_code {n : Nat} {a : Int} (hn : n < 2 ^ 64) (h : S.has n a = true) : S.drW n a = (if M.fld (M.wth n a.toNat 1 0) 0 16 = 0 then 0 else M.wth n a.toNat 1 0) := by
  obtain ⟨k, rfl, h1, h2, hc, hb, hle, hr, h3, e, _⟩ := S.drop_of h
  have hlt := S.tkn_lt n
  have hp := Nat.two_pow_pos k
  have hbit : n.testBit k = true := by rw [S.bit_of hr h2]; exact hb
  rw [e, Int.toNat_natCast, (S.clear_bit n k hn (by omega) hbit).1, S.fld_mod]
  have e1 : (n - 2 ^ k) % 2 ^ 16 = S.tkn n - 2 ^ k := by
    rw [show n - 2 ^ k = S.cls n * 65536 + (S.tkn n - 2 ^ k) by omega]
    omega
  rw [e1]
  by_cases h4 : S.tkn n = 2 ^ k
  · rw [if_pos h4, if_pos (by omega)]
  · rw [if_neg h4, if_neg (by omega)]
theorem sl_drop (n : Nat) (a : Int) (w : World) (hn : n < 2 ^ 64) :
    Calls Tryd.prog 23 #[.int .u64 n, .int .i64 a] w fun e w' => e = .returned (.tuple #[.int .u64 (S.drW n a : Nat), .bool (S.has n a)]) ∧ ∃ m, w' = w.drewN m := by
  have HH : Hid (∀ W : World, Calls Tryd.prog 14 #[.int .u64 n, .int .i64 a] W fun e w' => e = .returned (.bool (S.has n a)) ∧ ∃ m, w' = W.drewN m) := fun W => sl_has n a W hn
  cases hh : S.has n a with
  | false =>
    rw [S.drop_not hh]
    rw [hh] at HH
    clear hh
    go_enter Tryd.func23, Tryd.ntmps23
    go_wp2_with fail
    refine (HH.out _).mono ?_
    rintro e w' ⟨rfl, m1, rfl⟩
    go_wp2
    go_ret2
    exact ⟨rfl, _, rfl⟩
  | true =>
    rw [drop_code hn hh]
    rw [hh] at HH
    have HW : Hid (∀ W : World, Calls Tryd.prog 31 #[.int .u64 n, .int .i64 a, .int .i64 1, .int .u64 0] W fun e w' => e = .returned (.int .u64 (M.wth n a.toNat 1 0 : Nat)) ∧ ∃ m, w' = W.drewN m) := fun W => with_any n 0 a 1 W hn (by decide)
    have HF : Hid (∀ W : World, Calls Tryd.prog 26 #[.int .u64 (M.wth n a.toNat 1 0 : Nat), .int .i64 0, .int .i64 16] W fun e w' => e = .returned (.int .u64 (M.fld (M.wth n a.toNat 1 0) 0 16 : Nat)) ∧ ∃ m, w' = W.drewN m) := fun W => field_any _ 0 16 W (M.wth_lt _ _ _ _)
    clear hh
    generalize M.fld (M.wth n a.toNat 1 0) 0 16 = z at *
    generalize M.wth n a.toNat 1 0 = y at *
    by_cases hz : z = 0
    · subst hz
      rw [if_pos rfl]
      go_enter Tryd.func23, Tryd.ntmps23
      go_wp2_with fail
      refine (HH.out _).mono ?_
      rintro e w' ⟨rfl, m1, rfl⟩
      go_wp2_with fail
      refine (HW.out _).mono ?_
      rintro e w' ⟨rfl, m2, rfl⟩
      go_wp2_with fail
      refine (HF.out _).mono ?_
      rintro e w' ⟨rfl, m3, rfl⟩
      go_wp2
      go_ret2
      exact ⟨rfl, _, rfl⟩
    · rw [if_neg hz]
      go_enter Tryd.func23, Tryd.ntmps23
      go_wp2_with fail
      refine (HH.out _).mono ?_
      rintro e w' ⟨rfl, m1, rfl⟩
      go_wp2_with fail
      refine (HW.out _).mono ?_
      rintro e w' ⟨rfl, m2, rfl⟩
      go_wp2_with fail
      refine (HF.out _).mono ?_
      rintro e w' ⟨rfl, m3, rfl⟩
      go_wp2
      go_ret2
      exact ⟨rfl, _, rfl⟩
end Go.Proofs.YtbaealdabplmdaaDoor
