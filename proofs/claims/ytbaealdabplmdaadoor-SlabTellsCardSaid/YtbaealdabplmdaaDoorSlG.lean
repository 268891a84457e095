
/- The contracts of the reference's Take and Drop of layer 6. What was there stays. -/
import Derived.Test.YtbaealdabplmdaaDoorSlF

namespace Go.Proofs.YtbaealdabplmdaaDoor

open Go.RowKit

theorem tak_yes {n : Nat} {c a : Int} (hr : S.rgt n = true) (hc : S.cls n = 0 ∨ (S.cls n : Int) = c) (h0 : 0 ≤ a) (h1 : a < (S.blk c : Int)) (hb : (S.tkn n).testBit a.toNat = false) : S.tak n c a = true := by
  have h12 : c = 1 ∨ c = 2 := by
    unfold S.blk at h1
    split at h1
    · left; assumption
    · split at h1
      · right; assumption
      · omega
  have hs : S.sui n c = true := by
    refine decide_eq_true ⟨h12, ?_⟩
    rcases hc with hc | hc
    · left
      rcases S.shape n with ⟨h, _⟩ | ⟨_, h3, h4⟩
      · rw [h] at hr; cases hr
      · omega
    · exact .inr hc
  unfold S.tak S.has
  rw [hs, hb, decide_eq_true (And.intro h0 h1)]
  simp
theorem tak_no {n : Nat} {c a : Int} (h : ¬ (S.rgt n = true ∧ (S.cls n = 0 ∨ (S.cls n : Int) = c) ∧ 0 ≤ a ∧ a < (S.blk c : Int) ∧ (S.tkn n).testBit a.toNat = false)) : S.tak n c a = false ∧ S.tkW n c a = n := by
  cases ht : S.tak n c a with
  | false => exact ⟨rfl, S.take_not ht⟩
  | true =>
    obtain ⟨k, rfl, t1, t2, t3, t4, t5, t6, t7, _⟩ := S.take_of ht
    refine absurd ⟨t7, ?_, by omega, by omega, by rwa [Int.toNat_natCast]⟩ h
    rcases t4 with rfl | t4
    · exact .inl rfl
    · exact .inr t4
theorem bit_set (t k i : Nat) (h : t.testBit k = false) : (t + 2 ^ k).testBit i = if i = k then true else t.testBit i := by
  rw [S.bit_add h]
  by_cases e : i = k
  · subst e; simp
  · rw [if_neg e, decide_eq_false (fun x => e x.symm), Bool.or_false]
theorem bit_clear (t k i : Nat) (h : t.testBit k = true) : (t - 2 ^ k).testBit i = if i = k then false else t.testBit i := by
  rw [S.bit_sub h]
  by_cases e : i = k
  · subst e; simp
  · rw [if_neg e, decide_eq_false (fun x => e x.symm)]; simp
theorem rs_take (n : Nat) (c a : Int) (w : World) (_hn : n < 2 ^ 64) :
    Calls Tryd.prog 22 #[.int .u64 n, .int .i64 c, .int .i64 a] w fun e w' => e = .returned (.tuple #[.int .u64 (S.tkW n c a : Nat), .bool (S.tak n c a)]) ∧ Below w.heap.size w w' := by
  have HOF := fun W => Lib.hid (rs_of n W)
  have HNO := Lib.hid (fun h => tak_no (n := n) (c := c) (a := a) h)
  have HYES : Hid (S.tak n c a = true → ∃ k cn : Nat, a = (k : Int) ∧ c = (cn : Int) ∧ k < 16 ∧ cn ≤ 2 ∧ (S.tkn n).testBit k = false ∧ S.tkW n c a = cn * 65536 + (S.tkn n + 2 ^ k) ∧ S.tkn n + 2 ^ k < 2 ^ 16) := fun h => by
    obtain ⟨k, rfl, t1, t2, t3, t4, t5, t6, t7, t8, _⟩ := S.take_of h
    exact ⟨k, c.toNat, rfl, by omega, t2, by omega, t5, t8, Nat.lt_of_lt_of_le t6 (Nat.pow_le_pow_right (by decide) (S.blk_le c))⟩
  have HTK := Lib.hid (fun hr hc h0 h1 hb => tak_yes (n := n) (c := c) (a := a) hr hc h0 h1 hb)
  have HB : Hid (∀ W : World, Calls Tryd.prog 18 #[.int .i64 c] W fun e w' => e = .returned (.int .i64 (S.blk c : Nat)) ∧ ∃ m, w' = W.drewN m) := fun W => rs_blocks _ W
  have hb16 := S.blk_le c
  generalize S.tkW n c a = x at *
  generalize S.tak n c a = yes at *
  generalize S.tkn n = t at *
  generalize S.cls n = k at *
  generalize S.rgt n = rr at *
  generalize S.blk c = bk at *
  go_enter Tryd.func22, Tryd.ntmps22
  go_wp2_with fail
  refine ((HOF _).out).mono ?_
  clear HOF
  rintro e w5 ⟨rfl, hb5⟩
  go_upto_region 2 with (refine wpList_store_row rfl 26 (.tmp 8) (.tmp 13) rfl _ (slabA k t) rfl rfl 26 _ (heap_alloc_new w5 _) (by rw [slabA_size]; exact info_slab) (by rw [slabA_zero, slabA_size, slabA_size]) (slabA_one k t) ?_)
  rw [World.setRow_alloc_new]
  obtain ⟨s1, s2, s3⟩ := slab_new hb5 k t
  generalize w5.alloc (.cells (slabA k t) 26 (0, 0)) = W6 at *
  generalize w5.heap.size = g at *
  have S1 := Lib.hid s1; have S2 := Lib.hid s2; have S3 := Lib.hid s3
  clear s1 s2 s3 hb5
  have hc0 := S1.out.cls
  cases rr with
  | false =>
    have HN := Lib.hid (HNO.out (fun h => by cases h.1))
    clear HNO HYES HTK
    go_wp2
    go_ret2
    exact ⟨by rw [HN.out.1, HN.out.2]; rfl, S2.out 0⟩
  | true =>
    by_cases hk : k = 0 ∨ (k : Int) = c
    · have HK := Lib.hid hk
      have hk2 : (((k : Int) != 0) = false) ∨ (((k : Int) != 0) = true ∧ ((k : Int) != c) = false) := by
        by_cases h0 : k = 0
        · left; subst h0; rfl
        · right
          refine ⟨by simp; omega, ?_⟩
          have : (k : Int) = c := by omega
          simp [this]
      clear hk
      by_cases ha : a < 0
      · have HN := Lib.hid (HNO.out (fun h => by omega))
        clear HNO HYES HTK HK
        rcases hk2 with hk2 | ⟨hk2, hk3⟩
        all_goals (go_wp2; go_ret2; exact ⟨by rw [HN.out.1, HN.out.2]; rfl, S2.out 0⟩)
      · by_cases ha2 : (bk : Int) ≤ a
        · have HN := Lib.hid (HNO.out (fun h => by omega))
          clear HNO HYES HTK HK
          rcases hk2 with hk2 | ⟨hk2, hk3⟩
          all_goals
            go_wp2_with fail
            refine (HB.out _).mono ?_
            rintro e w' ⟨rfl, m1, rfl⟩
            go_wp2
            go_ret2
            exact ⟨by rw [HN.out.1, HN.out.2]; rfl, by exact S2.out _⟩
        · cases hbit : t.testBit a.toNat with
          | true =>
            have HN := Lib.hid (HNO.out (fun h => by rw [hbit] at h; cases h.2.2.2.2))
            obtain ⟨p, rfl⟩ := Int.eq_ofNat_of_zero_le (Int.not_lt.1 ha)
            rw [Int.toNat_natCast] at hbit
            have hcell : ∀ m, (W6.drewN m).cell? ⟨g, 1 + p, none⟩ = some (.bool true) := fun m => by
              have := SlabAt.bit (w := W6.drewN m) (b := g) (c := k) (t := t) (by exact S1.out) (i := p) (by omega)
              rwa [hbit] at this
            clear HNO HYES HTK HK hbit
            rcases hk2 with hk2 | ⟨hk2, hk3⟩
            all_goals
              go_wp2_with fail
              refine (HB.out _).mono ?_
              rintro e w' ⟨rfl, m1, rfl⟩
              go_wp2
              go_ret2
              exact ⟨by rw [HN.out.1, HN.out.2]; rfl, by exact S2.out _⟩
          | false =>
            obtain rfl : yes = true := HTK.out rfl HK.out (Int.not_lt.1 ha) (Int.not_le.1 ha2) hbit
            obtain ⟨p, cn, rfl, rfl, hp, hcn, hbit2, hx, hsum⟩ := HYES.out rfl
            have hcell : ∀ m, (W6.drewN m).cell? ⟨g, 1 + p, none⟩ = some (.bool false) := fun m => by
              have := SlabAt.bit (w := W6.drewN m) (b := g) (c := k) (t := t) (by exact S1.out) (i := p) hp
              rwa [hbit2] at this
            have HX := Lib.hid hx
            have HBIT := Lib.hid hbit2
            have HW := fun W => Lib.hid (rs_word cn (t + 2 ^ p) W hcn hsum)
            clear HNO HYES HTK HK hbit hbit2 hx hsum
            have T3 : Hid (∀ m, SlabAt ((W6.drewN m).setCell ⟨g, 0, none⟩ (.int .i64 (cn : Int))) g cn t ∧ Below w.heap.size w ((W6.drewN m).setCell ⟨g, 0, none⟩ (.int .i64 (cn : Int)))) := fun m => ⟨SlabAt.setc (c := k) (by exact S1.out) cn, (S2.out m).setCell (by exact S3.out) _⟩
            have f0 := fun m => SlabAt.free (w := W6.drewN m) (b := g) (c := k) (t := t) (by exact S1.out) 0
            have hc0m := fun m => SlabAt.cls (w := W6.drewN m) (b := g) (c := k) (t := t) (by exact S1.out)
            have HFIN : Hid (∀ W7 : World, SlabAt W7 g cn t → SlabAt (W7.setCell ⟨g, 1 + p, none⟩ (.bool true)) g cn (t + 2 ^ p)) := fun W7 h => h.set hp true (fun i _ => bit_set t p i HBIT.out)
            rcases hk2 with hk2 | ⟨hk2, hk3⟩
            all_goals
              go_wp2_with fail
              refine (HB.out _).mono ?_
              rintro e w' ⟨rfl, m1, rfl⟩
              go_upto_region 5 with fail
              obtain ⟨x1, x2⟩ := T3.out m1
              generalize (W6.drewN m1).setCell ⟨g, 0, none⟩ (.int .i64 (cn : Int)) = W7 at *
              have X1 := Lib.hid x1; have X2 := Lib.hid x2
              have y1 := X1.out.bit hp
              have y2 := X1.out.free (1 + p)
              clear x1 x2 hcell f0 hc0m hc0
              go_upto_region 6 with fail
              clear y1 y2
              have z1 := HFIN.out W7 X1.out
              have z2 : Below w.heap.size w (W7.setCell ⟨g, 1 + p, none⟩ (.bool true)) := X2.out.setCell (by exact S3.out) _
              generalize W7.setCell ⟨g, 1 + p, none⟩ (.bool true) = W8 at *
              have Z1 := Lib.hid z1; have Z2 := Lib.hid z2
              clear z1 z2 X1 X2
              go_wp2_with (refine wpList_load_row rfl 26 (.tmp 8) rfl g rfl 26 (slabA cn (t + 2 ^ p)) (0, 0) _ Z1.out Tryd.underlying26 rfl (by rw [slabA_size]; exact info_slab) ?_)
              refine ((HW _).out).mono ?_
              rintro e w9 ⟨rfl, hb9⟩
              have HB9 : Hid (Below w.heap.size w w9) := Z2.out.trans (hb9.mono Z2.out.size)
              clear hb9
              go_wp2
              go_ret2
              exact ⟨by rw [HX.out]; rfl, HB9.out⟩
    · have HN := Lib.hid (HNO.out (fun h => hk h.2.1))
      have e1 : ((k : Int) != 0) = true := by simp; omega
      have e2 : ((k : Int) != c) = true := by simp; omega
      clear HNO HYES HTK hk
      go_wp2
      go_ret2
      exact ⟨by rw [HN.out.1, HN.out.2]; rfl, S2.out 0⟩
end Go.Proofs.YtbaealdabplmdaaDoor
