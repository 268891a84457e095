
/- The walk of the statement SlabOrder, and how its argument is opened. -/
import Derived.Test.YtbaealdabplmdaaDoorSlC

import Derived.ProofKit

import Derived.Lib.SmallJoins

namespace Go.Proofs.YtbaealdabplmdaaDoor

open Go.RowKit

theorem order_of {n : Nat} {c a b : Int} (ha : S.tak n c a = true) (hb : S.tak n c b = true) (hne : a ≠ b) :
    S.tak (S.tkW n c a) c b = true ∧ S.tkW (S.tkW n c a) c b = S.tkW (S.tkW n c b) c a ∧ S.pc (S.tkn (S.tkW (S.tkW n c a) c b)) 16 = S.pc (S.tkn n) 16 + 2 := by
  have key : ∀ {a b : Int}, S.tak n c a = true → S.tak n c b = true → a ≠ b → S.tak (S.tkW n c a) c b = true := by
    intro a b ha hb hne
    obtain ⟨i, rfl, a1, a2, a3, a4, a5, a6, a7, a8, a9, a10, a11⟩ := S.take_of ha
    obtain ⟨j, rfl, b1, b2, b3, b4, b5, b6, b7, b8, b9, b10, b11⟩ := S.take_of hb
    unfold S.tak
    rw [Bool.and_eq_true, Bool.and_eq_true, decide_eq_true_eq]
    refine ⟨decide_eq_true ⟨a3, .inr ?_⟩, ⟨by omega, by omega⟩, ?_⟩
    · rw [a10]; omega
    · unfold S.has
      rw [a11, Int.toNat_natCast, S.bit_add a5, b5, decide_eq_false (show ¬ i = j by omega)]
      simp
  have h1 := key ha hb hne
  have h2 := key hb ha (Ne.symm hne)
  obtain ⟨i, e1, a1, a2, a3, a4, a5, a6, a7, a8, a9, a10, a11⟩ := S.take_of ha
  obtain ⟨j, e2, b1, b2, b3, b4, b5, b6, b7, b8, b9, b10, b11⟩ := S.take_of hb
  obtain ⟨j', e3, c1, c2, c3, c4, c5, c6, c7, c8, c9, c10, c11⟩ := S.take_of h1
  obtain ⟨i', e4, d1, d2, d3, d4, d5, d6, d7, d8, d9, d10, d11⟩ := S.take_of h2
  obtain rfl : j' = j := by omega
  obtain rfl : i' = i := by omega
  refine ⟨h1, ?_, ?_⟩
  · rw [c8, d8, a11, b11]; omega
  · rw [c11, S.pc_add c5, a11, S.pc_add a5, if_pos a2, if_pos b2]
theorem u64_nat6 {z : Int} (h : (Lit.int .u64 z).wf = true) : ∃ n : Nat, z = n ∧ n < 2 ^ 64 := by
  simp [Lit.wf, IntKind.min, IntKind.max, IntKind.signed, IntKind.bits] at h
  exact ⟨z.toNat, by omega, by omega⟩
set_option maxRecDepth 100000 in
theorem slabOrder_walk (x c a b : Int) (w : World) (wx : (Lit.int .u64 x).wf = true) (hT : TabAt 0 Lib.deBruijn64tab w) (hs : 0 < w.heap.size) :
    Calls Tryd.prog 7 #[.agg #[.int .u64 x, .int .i64 c, .int .i64 a, .int .i64 b]] w fun e w' => e = .returned (.bool true) ∧ Below w.heap.size w w' := by
  obtain ⟨n, rfl, hn⟩ := u64_nat6 wx
  have HT := Lib.hid hT; clear hT wx
  have HA : Hid (∀ W : World, Calls Tryd.prog 21 #[.int .u64 n, .int .i64 c, .int .i64 a] W fun e w' => e = .returned (.tuple #[.int .u64 (S.tkW n c a : Nat), .bool (S.tak n c a)]) ∧ ∃ m, w' = W.drewN m) := fun W => sl_take n c a W hn
  have HB : Hid (∀ W : World, Calls Tryd.prog 21 #[.int .u64 n, .int .i64 c, .int .i64 b] W fun e w' => e = .returned (.tuple #[.int .u64 (S.tkW n c b : Nat), .bool (S.tak n c b)]) ∧ ∃ m, w' = W.drewN m) := fun W => sl_take n c b W hn
  have HL : Hid (∀ W : World, Calls Tryd.prog 10 #[.int .u64 n] W (LsPost W (S.ls (S.tkn n) 16))) := fun W => sl_list n W hn
  have HC : Hid (∀ W : World, Calls Tryd.prog 21 #[.int .u64 (S.tkW n c a : Nat), .int .i64 c, .int .i64 b] W fun e w' => e = .returned (.tuple #[.int .u64 (S.tkW (S.tkW n c a) c b : Nat), .bool (S.tak (S.tkW n c a) c b)]) ∧ ∃ m, w' = W.drewN m) := fun W => sl_take _ c b W (S.tkW_lt hn _ _)
  have HD : Hid (∀ W : World, Calls Tryd.prog 21 #[.int .u64 (S.tkW n c b : Nat), .int .i64 c, .int .i64 a] W fun e w' => e = .returned (.tuple #[.int .u64 (S.tkW (S.tkW n c b) c a : Nat), .bool (S.tak (S.tkW n c b) c a)]) ∧ ∃ m, w' = W.drewN m) := fun W => sl_take _ c a W (S.tkW_lt hn _ _)
  have HM : Hid (∀ W : World, Calls Tryd.prog 10 #[.int .u64 (S.tkW (S.tkW n c a) c b : Nat)] W (LsPost W (S.ls (S.tkn (S.tkW (S.tkW n c a) c b)) 16))) := fun W => sl_list _ W (S.tkW_lt (S.tkW_lt hn _ _) _ _)
  by_cases hgo : S.tak n c a = true ∧ S.tak n c b = true ∧ a ≠ b
  · obtain ⟨ha, hb, hne⟩ := hgo
    obtain ⟨o1, o2, o3⟩ := order_of ha hb hne
    obtain ⟨o4, _, _⟩ := order_of hb ha (Ne.symm hne)
    rw [← S.ls_length, ← S.ls_length] at o3
    rw [ha] at HA
    rw [hb] at HB
    rw [o1] at HC
    rw [o4, ← o2] at HD
    have hle : (S.ls (S.tkn n) 16).length ≤ 16 := by rw [S.ls_length]; exact S.pc_le _ _
    clear ha hb o1 o2 o4
    generalize S.ls (S.tkn (S.tkW (S.tkW n c a) c b)) 16 = L2 at *
    generalize S.tkW (S.tkW n c a) c b = z at *
    generalize S.tkW n c a = y at *
    generalize S.tkW n c b = y' at *
    generalize S.ls (S.tkn n) 16 = L1 at *
    obtain ⟨k1, hk1⟩ : ∃ k, k = L1.length := ⟨_, rfl⟩
    obtain ⟨k2, hk2⟩ : ∃ k, k = L2.length := ⟨_, rfl⟩
    have K1 := Lib.hid hk1
    have K2 := Lib.hid hk2
    have hk3 : k2 = k1 + 2 := by omega
    have hk4 : k1 ≤ 16 := by omega
    clear hk1 hk2 o3 hle
    subst hk3
    go_enter Tryd.func7, Tryd.ntmps7
    go_wp2_with fail
    have hx0 := cell_of_row (w.alloc (.cells #[.int .u64 n, .int .i64 c, .int .i64 a, .int .i64 b] 44)) w.heap.size 0 _ 44 (0, 0) (heap_alloc_new w _)
    have hx1 := cell_of_row (w.alloc (.cells #[.int .u64 n, .int .i64 c, .int .i64 a, .int .i64 b] 44)) w.heap.size 1 _ 44 (0, 0) (heap_alloc_new w _)
    have hx2 := cell_of_row (w.alloc (.cells #[.int .u64 n, .int .i64 c, .int .i64 a, .int .i64 b] 44)) w.heap.size 2 _ 44 (0, 0) (heap_alloc_new w _)
    have hx3 := cell_of_row (w.alloc (.cells #[.int .u64 n, .int .i64 c, .int .i64 a, .int .i64 b] 44)) w.heap.size 3 _ 44 (0, 0) (heap_alloc_new w _)
    have HB0 : Hid (∀ m, Below w.heap.size w ((w.alloc (.cells #[.int .u64 n, .int .i64 c, .int .i64 a, .int .i64 b] 44)).drewN m)) := fun m => below_drewN' ((Below.refl w.heap.size w).alloc (Nat.le_refl _) _) m
    generalize w.alloc (.cells #[.int .u64 n, .int .i64 c, .int .i64 a, .int .i64 b] 44) = W0 at *
    have HT0 : Hid (TabAt 0 Lib.deBruijn64tab W0) := TabAt.below HT.out (HB0.out 0) hs
    refine (alive6_any _ HT0.out).mono ?_
    rintro e w1 ⟨rfl, m0, rfl⟩
    go_wp2_with fail
    go_quiet (fail)
    clear hx0 hx1 hx2 hx3
    go_wp2_with fail
    refine (HA.out _).mono ?_
    rintro e w' ⟨rfl, m1, rfl⟩
    go_wp2_with fail
    refine (HB.out _).mono ?_
    rintro e w' ⟨rfl, m2, rfl⟩
    go_wp2_with fail
    refine (HC.out _).mono ?_
    rintro e w' ⟨rfl, m3, rfl⟩
    go_wp2_with fail
    refine (HD.out _).mono ?_
    rintro e w' ⟨rfl, m4, rfl⟩
    go_wp2_with fail
    refine (HM.out _).mono ?_
    rintro e w5 ⟨a5, c5, rfl, _, hb5⟩
    rw [← K2.out]
    have HB5 : Hid (Below w.heap.size w w5) := (HB0.out _).trans (hb5.mono (HB0.out _).size)
    clear hb5
    go_wp2_with fail
    refine (HL.out _).mono ?_
    rintro e w6 ⟨a6, c6, rfl, _, hb6⟩
    rw [← K1.out]
    have HB6 : Hid (Below w.heap.size w w6) := HB5.out.trans (hb6.mono HB5.out.size)
    clear hb6
    go_wp2
    go_ret
    exact ⟨ret_bool (by simp), HB6.out⟩
  · have hk : S.tak n c a = false ∨ S.tak n c a = true ∧ (S.tak n c b = false ∨ S.tak n c b = true ∧ a = b) := by
      cases h1 : S.tak n c a with
      | false => exact .inl rfl
      | true =>
        right
        refine ⟨rfl, ?_⟩
        cases h2 : S.tak n c b with
        | false => exact .inl rfl
        | true =>
          right
          refine ⟨rfl, ?_⟩
          apply Decidable.byContradiction
          intro h3
          exact hgo ⟨h1, h2, h3⟩
    clear hgo HC HD HM HL
    go_enter Tryd.func7, Tryd.ntmps7
    go_wp2_with fail
    have hx0 := cell_of_row (w.alloc (.cells #[.int .u64 n, .int .i64 c, .int .i64 a, .int .i64 b] 44)) w.heap.size 0 _ 44 (0, 0) (heap_alloc_new w _)
    have hx1 := cell_of_row (w.alloc (.cells #[.int .u64 n, .int .i64 c, .int .i64 a, .int .i64 b] 44)) w.heap.size 1 _ 44 (0, 0) (heap_alloc_new w _)
    have hx2 := cell_of_row (w.alloc (.cells #[.int .u64 n, .int .i64 c, .int .i64 a, .int .i64 b] 44)) w.heap.size 2 _ 44 (0, 0) (heap_alloc_new w _)
    have hx3 := cell_of_row (w.alloc (.cells #[.int .u64 n, .int .i64 c, .int .i64 a, .int .i64 b] 44)) w.heap.size 3 _ 44 (0, 0) (heap_alloc_new w _)
    have HB0 : Hid (∀ m, Below w.heap.size w ((w.alloc (.cells #[.int .u64 n, .int .i64 c, .int .i64 a, .int .i64 b] 44)).drewN m)) := fun m => below_drewN' ((Below.refl w.heap.size w).alloc (Nat.le_refl _) _) m
    generalize w.alloc (.cells #[.int .u64 n, .int .i64 c, .int .i64 a, .int .i64 b] 44) = W0 at *
    have HT0 : Hid (TabAt 0 Lib.deBruijn64tab W0) := TabAt.below HT.out (HB0.out 0) hs
    refine (alive6_any _ HT0.out).mono ?_
    rintro e w1 ⟨rfl, m0, rfl⟩
    go_wp2_with fail
    go_quiet (fail)
    clear hx0 hx1 hx2 hx3
    rcases hk with h1 | ⟨h1, h2 | ⟨h2, rfl⟩⟩
    · rw [h1] at HA
      clear h1
      go_wp2_with fail
      refine (HA.out _).mono ?_
      rintro e w' ⟨rfl, m1, rfl⟩
      go_wp2_with fail
      refine (HB.out _).mono ?_
      rintro e w' ⟨rfl, m2, rfl⟩
      go_wp2
      go_ret
      exact ⟨rfl, HB0.out _⟩
    · rw [h1] at HA
      rw [h2] at HB
      clear h1 h2
      go_wp2_with fail
      refine (HA.out _).mono ?_
      rintro e w' ⟨rfl, m1, rfl⟩
      go_wp2_with fail
      refine (HB.out _).mono ?_
      rintro e w' ⟨rfl, m2, rfl⟩
      go_wp2
      go_ret
      exact ⟨rfl, HB0.out _⟩
    · rw [h1] at HA
      clear HB h1 h2
      go_wp2_with fail
      refine (HA.out _).mono ?_
      rintro e w' ⟨rfl, m1, rfl⟩
      go_wp2_with fail
      refine (HA.out _).mono ?_
      rintro e w' ⟨rfl, m2, rfl⟩
      go_wp2
      go_ret
      exact ⟨rfl, HB0.out _⟩
section

open Go.ChangeShapes Go.WideShapes Go.ChangeAt Go.Deep Go.Joins

variable {H : Type} {enc : TypeId × Value → H} {w : World} {base b0 : Nat} {spare : Nat → Bool} {held : Bool} {r : Reach} {v : Value} {d : DataW H} {p : List MemPlace}

theorem cellsTwo6 : Tryd.prog.cellsOf 44 = 4 := by kernel_rfl
theorem open_two6 (hv : Value.okWide Tryd.prog w r b0 44 v) (h : DataW.Trod enc Tryd.prog w base spare held 44 v d p) :
    ∃ x y p q : Int, v = .agg #[.int .u64 x, .int .i64 y, .int .i64 p, .int .i64 q] ∧ (Lit.int .u64 x).wf = true := by
  obtain ⟨c0, c1, c2, c3, y0, y1, y2, y3, m, rfl, rfl, rfl, hy0, hy1, hy2, hy3⟩ := open_agg4 Tryd.underlying44 (by kernel_rfl) cellsTwo6 hv h
  obtain ⟨a, e0, _, wa⟩ := DataW.trod_int Tryd.underlying22 hy0
  obtain ⟨b, e1, _, _⟩ := DataW.trod_int Tryd.underlying3 hy1
  obtain ⟨c, e2, _, _⟩ := DataW.trod_int Tryd.underlying3 hy2
  obtain ⟨d, e3, _, _⟩ := DataW.trod_int Tryd.underlying3 hy3
  simp at e0 e1 e2 e3
  subst e0 e1 e2 e3
  exact ⟨a, b, c, d, rfl, wa⟩
end

end Go.Proofs.YtbaealdabplmdaaDoor
