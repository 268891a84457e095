
/- The walk of HeadShapes: whatever is handed in, the call answers true, and what was there stays. -/
import Derived.Test.YtmelmiookkeoaaaDoorHdFitsL

import Derived.Test.YtmelmiookkeoaaaDoorHdF

import Derived.Deep.QuietTactic

import Derived.BigQuiet

import Derived.BigGuardPart

import Derived.Deep.DeepCutAuto

import Derived.Deep.RegionWith

import Derived.Outline

import Derived.Deep.RegionHeldLaw

namespace Go.Proofs.YtmelmiookkeoaaaDoor

open Go.RowKit

/-- Three shapes in memory. -/
def Rows3 (W : World) (b1 b2 b3 : Nat) (s x : V.Sh) : Prop :=
  (W.cell? ⟨b1, 0, none⟩ = some (.int .i64 s.lines) ∧ W.cell? ⟨b1, 1, none⟩ = some (.int .i64 s.slabs) ∧ W.cell? ⟨b1, 2, none⟩ = some (.int .i64 s.table) ∧ W.cell? ⟨b1, 3, none⟩ = some (.int .i64 s.data)) ∧
  (W.cell? ⟨b2, 0, none⟩ = some (.int .i64 x.lines) ∧ W.cell? ⟨b2, 1, none⟩ = some (.int .i64 x.slabs) ∧ W.cell? ⟨b2, 2, none⟩ = some (.int .i64 x.table) ∧ W.cell? ⟨b2, 3, none⟩ = some (.int .i64 x.data)) ∧
  (W.cell? ⟨b3, 0, none⟩ = some (.int .i64 x.lines) ∧ W.cell? ⟨b3, 1, none⟩ = some (.int .i64 x.slabs) ∧ W.cell? ⟨b3, 2, none⟩ = some (.int .i64 x.table) ∧ W.cell? ⟨b3, 3, none⟩ = some (.int .i64 x.data))
theorem Rows3.mk {w W : World} {b1 b2 b3 : Nat} {s x : V.Sh} {t1 t2 t3 : TypeId} (hb : Below w.heap.size w W)
    (h1 : w.heap[b1]? = some (.cells #[.int .i64 s.lines, .int .i64 s.slabs, .int .i64 s.table, .int .i64 s.data] t1 (0, 0)))
    (h2 : w.heap[b2]? = some (.cells #[.int .i64 x.lines, .int .i64 x.slabs, .int .i64 x.table, .int .i64 x.data] t2 (0, 0)))
    (h3 : w.heap[b3]? = some (.cells #[.int .i64 x.lines, .int .i64 x.slabs, .int .i64 x.table, .int .i64 x.data] t3 (0, 0))) : Rows3 W b1 b2 b3 s x :=
  ⟨(four' ((hb.block _ (Array.getElem?_eq_some_iff.1 h1).1).trans h1)).1, (four' ((hb.block _ (Array.getElem?_eq_some_iff.1 h2).1).trans h2)).1, (four' ((hb.block _ (Array.getElem?_eq_some_iff.1 h3).1).trans h3)).1⟩
set_option maxHeartbeats 4000000 in
set_option maxRecDepth 100000 in
theorem headShapes_walk (a0 : Int) (sa sb sc sd : Int) (w : World) (w0 : (Lit.int .i64 a0).wf = true) (w1 : (Lit.int .i64 sa).wf = true) (hT : TabT w) (hg : 0 < w.heap.size) :
    Calls Tryd.prog 3 #[.int .i64 a0, .agg #[.int .i64 sa, .int .i64 sb, .int .i64 sc, .int .i64 sd]] w fun e w' => e = .returned (.bool true) ∧ Below w.heap.size w w' := by
  have h0 := hd_i64 w0
  have h1 := hd_i64 w1
  have h0' : -9223372036854775808 ≤ a0 ∧ a0 ≤ 9223372036854775807 := h0
  have HAL : Hid (∀ o, Calls Tryd.prog 11 #[] (w.alloc o) fun e w' => e = .returned (.bool true) ∧ Below (w.alloc o).heap.size (w.alloc o) w') := fun o => alive5_any _ (hT.below ((Below.refl _ _).alloc (Nat.le_refl _) o) hg) (Nat.lt_of_lt_of_le hg (by simp))
  have HB0 : Hid (∀ o, Below w.heap.size w (w.alloc o)) := fun o => (Below.refl _ _).alloc (Nat.le_refl _) o
  clear w0 w1
  by_cases hbig : a0 < -1099511627776 ∨ 1099511627776 < a0
  · have HOF := fun w => Lib.hid (of_not w h0 (by omega))
    clear h0 h1 hT hg
    rcases hbig with hbig | hbig
    all_goals
      go_enter Tryd.func3, Tryd.ntmps3
      go_wp2_with fail
      refine (HAL.out _).mono ?_
      rintro e w1 ⟨rfl, hb⟩
      have HB1 : Hid (Below w.heap.size w w1) := (HB0.out _).trans (hb.mono (HB0.out _).size)
      clear hb
      go_wp2_with fail
      refine (HOF _).out.mono ?_
      rintro e w2 ⟨rfl, hb⟩
      have HB2 : Hid (∀ o, Below w.heap.size w (w2.alloc o)) := fun o => (HB1.out.trans (hb.mono HB1.out.size)).alloc (Nat.le_trans HB1.out.size hb.size) o
      clear hb
      go_wp2
      go_ret
      exact ⟨rfl, HB2.out _⟩
  · have hb1 : ¬ a0 < -1099511627776 := fun h => hbig (.inl h)
    have hb2 : ¬ 1099511627776 < a0 := fun h => hbig (.inr h)
    have HOF : Hid (∀ w, Calls Tryd.prog 12 #[.int .i64 a0] w (ShPost w (V.Sh.of a0) (.bool (V.isSh a0)))) := fun w => hd_of w a0 h0
    have HOR : Hid (∀ w, Calls Tryd.prog 13 #[.int .i64 a0] w (ShPost w (V.Sh.of a0) (.bool (V.isSh a0)))) := fun w => rf5_of w a0 h0
    have hlin : I64 (V.Sh.of a0).lines := by
      unfold V.Sh.of
      split
      · exact ⟨by show (_ : Int) ≤ ((a0.toNat : Nat) : Int); omega, by show ((a0.toNat : Nat) : Int) ≤ _; omega⟩
      · exact ⟨by decide, by decide⟩
    have HWS : Hid (∀ W, Below w.heap.size w W → Calls Tryd.prog 15 #[.agg #[.int .i64 sa, .int .i64 sb, .int .i64 sc, .int .i64 sd]] W (WordsPost W (⟨sa, sb, sc, sd⟩ : V.Sh).words)) := fun W hb => hd_words W ⟨sa, sb, sc, sd⟩ h1 (hT.below hb hg) (Nat.lt_of_lt_of_le hg hb.size)
    have HRS : Hid (∀ W, Calls Tryd.prog 16 #[.agg #[.int .i64 sa, .int .i64 sb, .int .i64 sc, .int .i64 sd]] W (WordsPost W (⟨sa, sb, sc, sd⟩ : V.Sh).words)) := fun W => rf5_words W ⟨sa, sb, sc, sd⟩ h1
    have HWX : Hid (∀ W, Below w.heap.size w W → Calls Tryd.prog 15 #[shV (V.Sh.of a0)] W (WordsPost W (V.Sh.of a0).words)) := fun W hb => hd_words W _ hlin (hT.below hb hg) (Nat.lt_of_lt_of_le hg hb.size)
    have HRX : Hid (∀ W, Calls Tryd.prog 16 #[shV (V.Sh.of a0)] W (WordsPost W (V.Sh.of a0).words)) := fun W => rf5_words W _ hlin
    have HR3 : Hid (∀ {w W : World} {b1 b2 b3 : Nat} {s x : V.Sh} {t1 t2 t3 : TypeId}, _ → _ → _ → _ → Rows3 W b1 b2 b3 s x) := @Rows3.mk
    clear h0 h1 hT hg hlin hbig
    generalize (⟨sa, sb, sc, sd⟩ : V.Sh).words = ws at *
    generalize (V.Sh.of a0).words = wx at *
    generalize V.isSh a0 = isb at *
    generalize V.Sh.of a0 = x at *
    obtain ⟨xa, xb, xc, xd⟩ := x
    unfold ShPost shV at *
    dsimp only at *
    go_enter Tryd.func3, Tryd.ntmps3
    go_wp2_with fail
    refine (HAL.out _).mono ?_
    rintro e w1 ⟨rfl, hb⟩
    have HB1 : Hid (Below w.heap.size w w1) := (HB0.out _).trans (hb.mono (HB0.out _).size)
    have hr1 := (hb.block _ (show w.heap.size < _ by simp)).trans (heap_alloc_new w _)
    have HR1 := Lib.hid hr1
    clear hb hr1
    go_wp2_with fail
    refine (HOF.out _).mono ?_
    rintro e w2 ⟨rfl, hb⟩
    have HB2 : Hid (∀ o, Below w.heap.size w (w2.alloc o)) := fun o => (HB1.out.trans (hb.mono HB1.out.size)).alloc (Nat.le_trans HB1.out.size hb.size) o
    have HR2 : Hid (∀ o, (w2.alloc o).heap[w.heap.size]? = some (.cells #[.int .i64 sa, .int .i64 sb, .int .i64 sc, .int .i64 sd] 23 (0, 0))) := fun o => by
      have h := HR1.out
      have h2 := (hb.block _ (Array.getElem?_eq_some_iff.1 h).1).trans h
      exact (Below.heap_alloc _ _ _ (Array.getElem?_eq_some_iff.1 h2).1).trans h2
    have HX2 : Hid (∀ o, (w2.alloc o).heap[w2.heap.size]? = some o) := fun o => heap_alloc_new w2 o
    clear hb
    go_wp2_with fail
    refine (HOR.out _).mono ?_
    rintro e w3 ⟨rfl, hb⟩
    have HB3 : Hid (∀ o, Below w.heap.size w (w3.alloc o)) := fun o => ((HB2.out _).trans (hb.mono (HB2.out _).size)).alloc (Nat.le_trans (HB2.out _).size hb.size) o
    have hk : ∀ (o : Obj) (k : Nat) (c : Obj), (w2.alloc (.cells #[.int .i64 xa, .int .i64 xb, .int .i64 xc, .int .i64 xd] 25 (0, 0))).heap[k]? = some c → (w3.alloc o).heap[k]? = some c := fun o k c h => by
      have h2 := (hb.block _ (Array.getElem?_eq_some_iff.1 h).1).trans h
      exact (Below.heap_alloc _ _ _ (Array.getElem?_eq_some_iff.1 h2).1).trans h2
    have HR4 : Hid (∀ W, Below (w3.alloc (.cells #[.int .i64 xa, .int .i64 xb, .int .i64 xc, .int .i64 xd] 23 (0, 0))).heap.size (w3.alloc (.cells #[.int .i64 xa, .int .i64 xb, .int .i64 xc, .int .i64 xd] 23 (0, 0))) W → Rows3 W w.heap.size w2.heap.size w3.heap.size ⟨sa, sb, sc, sd⟩ ⟨xa, xb, xc, xd⟩) := fun W hW =>
      HR3.out hW (hk _ _ _ (HR2.out _)) (hk _ _ _ (HX2.out _)) (heap_alloc_new w3 _)
    clear hb hk HR2 HX2 HR3
    go_upto_region 8 with fail
    obtain ⟨wr, hwr⟩ : ∃ wr, wr = w3.alloc (.cells #[.int .i64 xa, .int .i64 xb, .int .i64 xc, .int .i64 xd] 23 (0, 0)) := ⟨_, rfl⟩
    have hB := HB3.out (.cells #[.int .i64 xa, .int .i64 xb, .int .i64 xc, .int .i64 xd] 23 (0, 0))
    rw [← hwr] at HR4 hB ⊢
    have HBW := Lib.hid hB
    clear hwr hB HB3 HB2 HB1 HAL HOF HOR HR1 HB0
    have hpk : ∀ (l : List Nat) (W : World), Below wr.heap.size wr W → ∀ e w', WordsPost W l e w' → ∃ A c, e = .returned (.slice A l.length c) ∧ IsWords w' (.slice A l.length c) l ∧ Below W.heap.size W w' ∧ Below wr.heap.size wr w' ∧ Rows3 w' w.heap.size w2.heap.size w3.heap.size ⟨sa, sb, sc, sd⟩ ⟨xa, xb, xc, xd⟩ := by
      rintro l W hW e w' ⟨v, rfl, hv, hb⟩
      have hv' := hv
      obtain ⟨A, c, rfl, _⟩ := hv'
      rw [List.length_map] at hv ⊢
      exact ⟨A, c, rfl, hv, hb, hW.trans (hb.mono hW.size), HR4.out _ (hW.trans (hb.mono hW.size))⟩
    have P1 : Hid (∀ W, Below wr.heap.size wr W → Calls Tryd.prog 15 #[.agg #[.int .i64 sa, .int .i64 sb, .int .i64 sc, .int .i64 sd]] W fun e w' => ∃ A c, e = .returned (.slice A ws.length c) ∧ IsWords w' (.slice A ws.length c) ws ∧ Below W.heap.size W w' ∧ Below wr.heap.size wr w' ∧ Rows3 w' w.heap.size w2.heap.size w3.heap.size ⟨sa, sb, sc, sd⟩ ⟨xa, xb, xc, xd⟩) := fun W hW => (HWS.out W (HBW.out.trans (hW.mono HBW.out.size))).mono (hpk ws W hW)
    have P2 : Hid (∀ W, Below wr.heap.size wr W → Calls Tryd.prog 16 #[.agg #[.int .i64 sa, .int .i64 sb, .int .i64 sc, .int .i64 sd]] W fun e w' => ∃ A c, e = .returned (.slice A ws.length c) ∧ IsWords w' (.slice A ws.length c) ws ∧ Below W.heap.size W w' ∧ Below wr.heap.size wr w' ∧ Rows3 w' w.heap.size w2.heap.size w3.heap.size ⟨sa, sb, sc, sd⟩ ⟨xa, xb, xc, xd⟩) := fun W hW => (HRS.out W).mono (hpk ws W hW)
    have P3 : Hid (∀ W, Below wr.heap.size wr W → Calls Tryd.prog 15 #[.agg #[.int .i64 xa, .int .i64 xb, .int .i64 xc, .int .i64 xd]] W fun e w' => ∃ A c, e = .returned (.slice A wx.length c) ∧ IsWords w' (.slice A wx.length c) wx ∧ Below W.heap.size W w' ∧ Below wr.heap.size wr w' ∧ Rows3 w' w.heap.size w2.heap.size w3.heap.size ⟨sa, sb, sc, sd⟩ ⟨xa, xb, xc, xd⟩) := fun W hW => (HWX.out W (HBW.out.trans (hW.mono HBW.out.size))).mono (hpk wx W hW)
    have P4 : Hid (∀ W, Below wr.heap.size wr W → Calls Tryd.prog 16 #[.agg #[.int .i64 xa, .int .i64 xb, .int .i64 xc, .int .i64 xd]] W fun e w' => ∃ A c, e = .returned (.slice A wx.length c) ∧ IsWords w' (.slice A wx.length c) wx ∧ Below W.heap.size W w' ∧ Below wr.heap.size wr w' ∧ Rows3 w' w.heap.size w2.heap.size w3.heap.size ⟨sa, sb, sc, sd⟩ ⟨xa, xb, xc, xd⟩) := fun W hW => (HRX.out W).mono (hpk wx W hW)
    have HSM : Hid (∀ (W : World) (A B : Option Addr) (n m c k : Nat) (l : List Nat), IsWords W (.slice A n c) l → IsWords W (.slice B m k) l → Calls Tryd.prog 14 #[.slice A n c, .slice B m k] W fun e w' => e = .returned (.bool true) ∧ ∃ m, w' = W.drewN m) := fun W A B n m c k l h1 h2 => by
      have := words_same h1 h2
      rwa [decide_eq_true rfl] at this
    have HB : Hid (Below wr.heap.size wr wr.drew) := (Below.refl _ _).drew
    obtain ⟨⟨p0, p1, p2, p3⟩, ⟨q0, q1, q2, q3⟩, r0, r1, r2, r3⟩ := HR4.out _ HB.out
    clear hpk HWS HRS HWX HRX
    first | (go_region_held_law (fun W => (W.cell? ⟨w.heap.size, 0, none⟩ = some (.int .i64 sa) ∧ W.cell? ⟨w.heap.size, 1, none⟩ = some (.int .i64 sb) ∧ W.cell? ⟨w.heap.size, 2, none⟩ = some (.int .i64 sc) ∧ W.cell? ⟨w.heap.size, 3, none⟩ = some (.int .i64 sd)) ∧ (W.cell? ⟨w2.heap.size, 0, none⟩ = some (.int .i64 xa) ∧ W.cell? ⟨w2.heap.size, 1, none⟩ = some (.int .i64 xb) ∧ W.cell? ⟨w2.heap.size, 2, none⟩ = some (.int .i64 xc) ∧ W.cell? ⟨w2.heap.size, 3, none⟩ = some (.int .i64 xd)) ∧ (W.cell? ⟨w3.heap.size, 0, none⟩ = some (.int .i64 xa) ∧ W.cell? ⟨w3.heap.size, 1, none⟩ = some (.int .i64 xb) ∧ W.cell? ⟨w3.heap.size, 2, none⟩ = some (.int .i64 xc) ∧ W.cell? ⟨w3.heap.size, 3, none⟩ = some (.int .i64 xd)))
      (exact ⟨⟨p0, p1, p2, p3⟩, ⟨q0, q1, q2, q3⟩, r0, r1, r2, r3⟩)
      (first
      | (go_at_call 15; first
          | ((with_reducible refine (P1.out _ HB.out).mono ?_); rintro e w5 ⟨A5, c5, rfl, hv5, hb5, hB5, hR5⟩; (try have HQ := Lib.hid (HQ.out.below hb5)); have HP := Lib.hid hv5; have HB := Lib.hid hB5; clear p0 p1 p2 p3 q0 q1 q2 q3 r0 r1 r2 r3; obtain ⟨⟨p0, p1, p2, p3⟩, ⟨q0, q1, q2, q3⟩, r0, r1, r2, r3⟩ := hR5; clear hv5 hb5 hB5)
          | ((with_reducible refine (P3.out _ HB.out).mono ?_); rintro e w5 ⟨A5, c5, rfl, hv5, hb5, hB5, hR5⟩; (try have HQ := Lib.hid (HQ.out.below hb5)); have HP := Lib.hid hv5; have HB := Lib.hid hB5; clear p0 p1 p2 p3 q0 q1 q2 q3 r0 r1 r2 r3; obtain ⟨⟨p0, p1, p2, p3⟩, ⟨q0, q1, q2, q3⟩, r0, r1, r2, r3⟩ := hR5; clear hv5 hb5 hB5))
      | (go_at_call 16; first
          | ((with_reducible refine (P2.out _ HB.out).mono ?_); rintro e w5 ⟨A5, c5, rfl, hv5, hb5, hB5, hR5⟩; (try have HP := Lib.hid (HP.out.below hb5)); have HQ := Lib.hid hv5; have HB := Lib.hid hB5; clear p0 p1 p2 p3 q0 q1 q2 q3 r0 r1 r2 r3; obtain ⟨⟨p0, p1, p2, p3⟩, ⟨q0, q1, q2, q3⟩, r0, r1, r2, r3⟩ := hR5; clear hv5 hb5 hB5)
          | ((with_reducible refine (P4.out _ HB.out).mono ?_); rintro e w5 ⟨A5, c5, rfl, hv5, hb5, hB5, hR5⟩; (try have HP := Lib.hid (HP.out.below hb5)); have HQ := Lib.hid hv5; have HB := Lib.hid hB5; clear p0 p1 p2 p3 q0 q1 q2 q3 r0 r1 r2 r3; obtain ⟨⟨p0, p1, p2, p3⟩, ⟨q0, q1, q2, q3⟩, r0, r1, r2, r3⟩ := hR5; clear hv5 hb5 hB5))
      | (go_at_call 14; (refine (HSM.out _ _ _ _ _ _ _ _ HP.out HQ.out).mono ?_); rintro e w6 ⟨rfl, m6, rfl⟩; have HB := Lib.hid (below_drewN' HB.out m6)))) | fail "the region"
    all_goals (go_wp2_with fail; go_ret; exact ⟨rfl, HBW.out.trans (HB.out.mono HBW.out.size)⟩)
end Go.Proofs.YtmelmiookkeoaaaDoor
