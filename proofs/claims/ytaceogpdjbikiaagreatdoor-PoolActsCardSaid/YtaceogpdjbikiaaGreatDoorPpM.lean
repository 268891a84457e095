
/- Plain mathematics of layer 7, more: a slab's two words, what is taken and what is reserved, beside each other; what both together are; the block that a place is, reckoned. -/
import Derived.Test.YtaceogpdjbikiaaGreatDoorPlM
import Derived.Test.YtaceogpdjbikiaaGreatDoorPqM
namespace Go.Proofs.YtaceogpdjbikiaaGreatDoor.P

/-- The words are apart: none is both, and their class is one. -/
structure Pair (w x : Nat) : Prop where
  rw : S.rgt w = true
  rx : S.rgt x = true
  cls : w = 0 ∨ x = 0 ∨ S.cls w = S.cls x
  apart : ∀ b, (S.tkn w).testBit b = true → (S.tkn x).testBit b = true → False
theorem word_ext {v w : Nat} (hv : S.rgt v = true) (hw : S.rgt w = true) (hc : S.cls v = S.cls w) (ht : S.tkn v = S.tkn w) : v = w := by
  rcases S.shape v with ⟨h, _⟩ | ⟨_, h1, _⟩
  · rw [h] at hv; cases hv
  rcases S.shape w with ⟨h, _⟩ | ⟨_, h2, _⟩
  · rw [h] at hw; cases hw
  rw [h1, h2, hc, ht]
theorem lt64 {w : Nat} (h : S.rgt w = true) : w < 2 ^ 64 := by
  rcases S.shape w with ⟨h1, _⟩ | ⟨_, h1, h2⟩
  · rw [h1] at h; cases h
  · omega
theorem or_made (c t u : Nat) (ht : t < 65536) (hu : u < 65536) : (c * 65536 + t) ||| (c * 65536 + u) = c * 65536 + (t ||| u) := by
  have e : c * 65536 = 2 ^ 16 * c := by omega
  have ht' : t < 2 ^ 16 := ht
  have hu' : u < 2 ^ 16 := hu
  have htu : t ||| u < 2 ^ 16 := Nat.or_lt_two_pow ht' hu'
  rw [e, Nat.two_pow_add_eq_or_of_lt ht', Nat.two_pow_add_eq_or_of_lt hu', Nat.two_pow_add_eq_or_of_lt htu]
  apply Nat.eq_of_testBit_eq
  intro i
  simp only [Nat.testBit_or]
  cases (2 ^ 16 * c).testBit i <;> simp
theorem Pair.cls0 {w x : Nat} (h : Pair w x) : (w = 0 ↔ S.cls w = 0) ∧ (x = 0 ↔ S.cls x = 0) := ⟨(rgt_cls0 h.rw).symm, (rgt_cls0 h.rx).symm⟩
/-- Both together are a slab's word. -/
theorem Pair.both {w x : Nat} (h : Pair w x) : S.rgt (w ||| x) = true ∧ S.cls (w ||| x) = (if w = 0 then S.cls x else S.cls w) ∧ S.tkn (w ||| x) = S.tkn w ||| S.tkn x := by
  by_cases hw : w = 0
  · subst hw
    rw [Nat.zero_or, if_pos rfl, show S.tkn 0 = 0 from rfl, Nat.zero_or]; exact ⟨h.rx, rfl, rfl⟩
  · rw [if_neg hw]
    by_cases hx : x = 0
    · subst hx
      rw [Nat.or_zero, show S.tkn 0 = 0 from rfl, Nat.or_zero]; exact ⟨h.rw, rfl, rfl⟩
    · have hc : S.cls w = S.cls x := by rcases h.cls with h | h | h; exact absurd h hw; exact absurd h hx; exact h
      rcases S.shape w with ⟨e, _⟩ | ⟨_, e1, e2⟩
      · have := h.rw; rw [e] at this; cases this
      rcases S.shape x with ⟨e, _⟩ | ⟨_, f1, f2⟩
      · have := h.rx; rw [e] at this; cases this
      have htw := S.tkn_lt w
      have htx := S.tkn_lt x
      have e : w ||| x = S.cls w * 65536 + (S.tkn w ||| S.tkn x) := by
        conv => lhs; rw [e1, f1, ← hc]
        exact or_made _ _ _ htw htx
      have hle : S.tkn w ≤ S.tkn w ||| S.tkn x := Nat.left_le_or
      have h16 : S.tkn w ||| S.tkn x < 2 ^ 16 := Nat.or_lt_two_pow (n := 16) htw htx
      have h4 : S.tkn w < 2 ^ 4 → S.tkn x < 2 ^ 4 → S.tkn w ||| S.tkn x < 2 ^ 4 := fun a b => Nat.or_lt_two_pow (n := 4) a b
      rw [e]
      exact S.made (by
        rcases e2 with e2 | e2 | e2
        · omega
        · exact .inr (.inl ⟨e2.1, by omega, by omega⟩)
        · rcases f2 with f2 | f2 | f2
          · omega
          · omega
          · exact .inr (.inr ⟨e2.1, by omega, by have := h4 (by omega) (by omega); omega⟩))
theorem Pair.bit {w x : Nat} (h : Pair w x) (b : Nat) : (S.tkn (w ||| x)).testBit b = ((S.tkn w).testBit b || (S.tkn x).testBit b) := by rw [h.both.2.2, Nat.testBit_or]
theorem Pair.zero {w x : Nat} (_h : Pair w x) : w ||| x = 0 ↔ w = 0 ∧ x = 0 := Nat.or_eq_zero_iff
theorem Pair.of_free {w : Nat} (h : S.rgt w = true) : Pair w 0 := ⟨h, rfl, .inr (.inl rfl), fun b _ hb => by rw [show S.tkn 0 = 0 from rfl, Nat.zero_testBit] at hb; cases hb⟩
theorem Pair.fit {w x : Nat} (h : Pair w x) : Fit w (w ||| x) := by
  refine ⟨h.rw, h.both.1, ?_, fun b hb => by rw [h.bit, hb]; rfl⟩
  by_cases hw : w = 0
  · exact .inl hw
  · exact .inr (by rw [h.both.2.1, if_neg hw])
theorem Pair.cls_x {w x : Nat} (h : Pair w x) (hx : x ≠ 0) : S.cls (w ||| x) = S.cls x := by
  rw [h.both.2.1]
  split
  · rfl
  · rcases h.cls with h | h | h
    · contradiction
    · contradiction
    · exact h
theorem Pair.cls_w {w x : Nat} (h : Pair w x) (hw : w ≠ 0) : S.cls (w ||| x) = S.cls w := by rw [h.both.2.1, if_neg hw]
theorem ne_of_bit {w b : Nat} (h : (S.tkn w).testBit b = true) : w ≠ 0 := by
  rintro rfl
  rw [show S.tkn 0 = 0 from rfl, Nat.zero_testBit] at h; cases h
theorem has_nat (w b : Nat) : S.has w (b : Int) = (S.tkn w).testBit b := by
  unfold S.has; rw [decide_eq_true (by omega), Int.toNat_natCast]; rfl
theorem tkn_ext {a b : Nat} (h : ∀ i, a.testBit i = b.testBit i) : a = b := Nat.eq_of_testBit_eq h

/-- A block is reserved. -/
theorem Pair.hold {w x b : Nat} {c : Int} (h : Pair w x) (ht : S.tak (w ||| x) c (b : Int) = true) :
    S.tak x c (b : Int) = true ∧ Pair w (S.tkW x c (b : Int)) ∧ w ||| S.tkW x c (b : Int) = S.tkW (w ||| x) c (b : Int) := by
  obtain ⟨k, e, t1, t2, t3, t4, t5, t6, t7, t8, t9, t10, t11⟩ := S.take_of ht
  obtain rfl : k = b := by omega
  have hb := h.bit k
  rw [t5] at hb
  have hxb : (S.tkn x).testBit k = false := by cases hq : (S.tkn x).testBit k; rfl; rw [hq, Bool.or_true] at hb; cases hb
  have hwb : (S.tkn w).testBit k = false := by cases hq : (S.tkn w).testBit k; rfl; rw [hq, Bool.true_or] at hb; cases hb
  have hcx : x = 0 ∨ (S.cls x : Int) = c := by
    by_cases hx : x = 0
    · exact .inl hx
    · right
      rcases t4 with t4 | t4
      · exact absurd (h.zero.1 t4).2 hx
      · rw [← t4, h.cls_x hx]
  have htx : S.tak x c (k : Int) = true := by
    unfold S.tak S.sui
    rw [has_nat, hxb, decide_eq_true (show 0 ≤ (k : Int) ∧ (k : Int) < (S.blk c : Int) by omega), decide_eq_true (show (c = 1 ∨ c = 2) ∧ (x = 0 ∨ (S.cls x : Int) = c) from ⟨t3, hcx⟩)]
    rfl
  obtain ⟨k', e', u1, u2, u3, u4, u5, u6, u7, u8, u9, u10, u11⟩ := S.take_of htx
  obtain rfl : k' = k := by omega
  have hp : Pair w (S.tkW x c (k' : Int)) := by
    refine ⟨h.rw, u9, ?_, fun b h1 h2 => ?_⟩
    · by_cases hw : w = 0
      · exact .inl hw
      · right; right
        rw [u10, ← h.cls_w hw]
        rcases t4 with t4 | t4
        · exact absurd (h.zero.1 t4).1 hw
        · omega
    · rw [u11, S.bit_add u5] at h2
      by_cases e : k' = b
      · subst e; rw [hwb] at h1; cases h1
      · rw [decide_eq_false e, Bool.or_false] at h2; exact h.apart b h1 h2
  refine ⟨htx, hp, word_ext hp.both.1 t9 ?_ ?_⟩
  · rw [t10, hp.cls_x (fun e => by rw [e] at u10; have : S.cls 0 = 0 := rfl; omega), u10]
  · rw [t11, hp.both.2.2, u11]
    refine tkn_ext fun i => ?_
    rw [Nat.testBit_or, S.bit_add u5, S.bit_add t5, h.bit, Bool.or_assoc]
/-- A block that is reserved is taken. -/
theorem Pair.take {w x b : Nat} (h : Pair w x) (hb : (S.tkn x).testBit b = true) :
    S.tak w (S.cls (w ||| x) : Int) (b : Int) = true ∧ S.has x (b : Int) = true ∧ Pair (S.tkW w (S.cls (w ||| x) : Int) (b : Int)) (S.drW x (b : Int)) ∧ S.tkW w (S.cls (w ||| x) : Int) (b : Int) ||| S.drW x (b : Int) = w ||| x ∧ (S.tkn w).testBit b = false := by
  have hx := ne_of_bit hb
  have hwb : (S.tkn w).testBit b = false := by cases hq : (S.tkn w).testBit b; rfl; exact (h.apart b hq hb).elim
  have hub : (S.tkn (w ||| x)).testBit b = true := by rw [h.bit, hb, Bool.or_true]
  obtain ⟨ht, hf⟩ := h.fit.take hub hwb
  have hh : S.has x (b : Int) = true := by rw [has_nat]; exact hb
  obtain ⟨k, e, t1, t2, t3, t4, t5, t6, t7, t8, t9, t10, t11⟩ := S.take_of ht
  obtain rfl : k = b := by omega
  obtain ⟨k', e', d1, d2, d3, d4, d5, d6, d7, d8, d9, d10, d11⟩ := S.drop_of hh
  obtain rfl : k' = k := by omega
  have hp : Pair (S.tkW w (S.cls (w ||| x) : Int) (k' : Int)) (S.drW x (k' : Int)) := by
    refine ⟨t9, d9, ?_, fun b h1 h2 => ?_⟩
    · right
      by_cases hz : S.tkn x = 2 ^ k'
      · left; rw [d8, if_pos hz]
      · right; rw [t10, d10, if_neg hz, Int.toNat_natCast, h.cls_x hx]
    · rw [t11, S.bit_add t5] at h1
      rw [d11, S.bit_sub d4] at h2
      by_cases e : k' = b
      · subst e; simp at h2
      · rw [decide_eq_false e, Bool.or_false] at h1
        rw [decide_eq_false e, Bool.not_false, Bool.and_true] at h2
        exact h.apart b h1 h2
  refine ⟨ht, hh, hp, word_ext hp.both.1 h.both.1 ?_ ?_, hwb⟩
  · have ne : S.tkW w (S.cls (w ||| x) : Int) (k' : Int) ≠ 0 := fun e0 => by rw [e0] at t10; have : S.cls 0 = 0 := rfl; omega
    rw [hp.cls_w ne, t10, Int.toNat_natCast]
  · rw [hp.both.2.2, h.both.2.2, t11, d11]
    refine tkn_ext fun i => ?_
    rw [Nat.testBit_or, S.bit_add t5, S.bit_sub d4, Nat.testBit_or]
    by_cases e : k' = i
    · subst e; simp [hb]
    · simp [e]
theorem drop_cls {h b : Nat} (hh : S.has h (b : Int) = true) : S.drW h (b : Int) ≠ 0 → S.cls (S.drW h (b : Int)) = S.cls h := by
  obtain ⟨k', e', d1, d2, d3, d4, d5, d6, d7, d8, d9, d10, d11⟩ := S.drop_of hh
  obtain rfl : k' = b := by omega
  intro hne
  by_cases hz : S.tkn h = 2 ^ k'
  · rw [d8, if_pos hz] at hne; exact absurd rfl hne
  · rw [d10, if_neg hz]
theorem drop_bit {h b : Nat} (hh : S.has h (b : Int) = true) (i : Nat) : (S.tkn (S.drW h (b : Int))).testBit i = ((S.tkn h).testBit i && !decide (b = i)) := by
  obtain ⟨k', e', d1, d2, d3, d4, d5, d6, d7, d8, d9, d10, d11⟩ := S.drop_of hh
  obtain rfl : k' = b := by omega
  rw [d11, S.bit_sub d4]
theorem drop_rgt {h : Nat} (hr : S.rgt h = true) (b : Int) : S.rgt (S.drW h b) = true := by
  cases hh : S.has h b with
  | false => rw [S.drop_not hh]; exact hr
  | true => obtain ⟨k', e', d1, d2, d3, d4, d5, d6, d7, d8, d9, d10, d11⟩ := S.drop_of hh; exact d9
/-- A block is dropped, be it reserved or taken. -/
theorem Pair.drop {w x b : Nat} (h : Pair w x) : Pair (S.drW w (b : Int)) (S.drW x (b : Int)) ∧ S.drW w (b : Int) ||| S.drW x (b : Int) = S.drW (w ||| x) (b : Int) := by
  have bitd : ∀ (u i : Nat), (S.tkn (S.drW u (b : Int))).testBit i = ((S.tkn u).testBit i && !decide (b = i)) := by
    intro u i
    cases hh : S.has u (b : Int) with
    | true => exact drop_bit hh i
    | false =>
      rw [S.drop_not hh]
      rw [has_nat] at hh
      by_cases e : b = i
      · subst e; rw [hh]; rfl
      · simp [e]
  have clsd : ∀ u, S.drW u (b : Int) ≠ 0 → S.cls (S.drW u (b : Int)) = S.cls u := by
    intro u hne
    cases hh : S.has u (b : Int) with
    | true => exact drop_cls hh hne
    | false => rw [S.drop_not hh]
  have ned : ∀ u, S.drW u (b : Int) ≠ 0 → u ≠ 0 := by
    intro u hne e
    subst e
    apply hne
    rw [S.drop_not (by rw [has_nat, show S.tkn 0 = 0 from rfl, Nat.zero_testBit])]
  have hp : Pair (S.drW w (b : Int)) (S.drW x (b : Int)) := by
    refine ⟨drop_rgt h.rw _, drop_rgt h.rx _, ?_, fun i h1 h2 => ?_⟩
    · by_cases e1 : S.drW w (b : Int) = 0
      · exact .inl e1
      · by_cases e2 : S.drW x (b : Int) = 0
        · exact .inr (.inl e2)
        · right; right
          rw [clsd _ e1, clsd _ e2]
          rcases h.cls with h | h | h
          · exact absurd h (ned _ e1)
          · exact absurd h (ned _ e2)
          · exact h
    · rw [bitd, Bool.and_eq_true] at h1 h2
      exact h.apart i h1.1 h2.1
  have ht : S.tkn (S.drW w (b : Int) ||| S.drW x (b : Int)) = S.tkn (S.drW (w ||| x) (b : Int)) := by
    refine tkn_ext fun i => ?_
    rw [hp.bit, bitd, bitd, bitd, h.bit]
    cases (S.tkn w).testBit i <;> cases (S.tkn x).testBit i <;> simp
  have hr := drop_rgt h.both.1 (b : Int)
  refine ⟨hp, ?_⟩
  by_cases e : S.drW w (b : Int) ||| S.drW x (b : Int) = 0
  · rw [e]
    rw [e, show S.tkn 0 = 0 from rfl] at ht
    exact (S.tkn_zero ht.symm hr).symm
  · refine word_ext hp.both.1 hr ?_ ht
    have hne : S.drW (w ||| x) (b : Int) ≠ 0 := fun e2 => by
      rw [e2, show S.tkn 0 = 0 from rfl] at ht
      exact e (S.tkn_zero ht hp.both.1)
    rw [clsd _ hne]
    by_cases e1 : S.drW w (b : Int) = 0
    · have e2 : S.drW x (b : Int) ≠ 0 := fun e2 => e (by rw [e1, e2]; rfl)
      rw [hp.cls_x e2, h.cls_x (ned _ e2), clsd _ e2]
    · rw [hp.cls_w e1, h.cls_w (ned _ e1), clsd _ e1]
end Go.Proofs.YtaceogpdjbikiaaGreatDoor.P
