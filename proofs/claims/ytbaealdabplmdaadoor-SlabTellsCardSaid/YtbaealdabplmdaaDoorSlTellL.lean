
/- The walk of the statement SlabTells. -/
import Derived.Test.YtbaealdabplmdaaDoorSlTakeL

import Derived.Test.YtbaealdabplmdaaDoorSlWordL

import Derived.Deep.RegionHeldLaw

import Derived.Deep.DeepCutAuto

namespace Go.Proofs.YtbaealdabplmdaaDoor

open Go.RowKit

/-- What stands throughout: the reference's slab in its block, the table, and what was there. -/
structure Good6 (w : World) (g k t : Nat) (W : World) : Prop where
  slab : SlabAt W g k t
  tab : TabAt 0 Lib.deBruijn64tab W
  bel : Below w.heap.size w W
theorem Good6.drewN {w W : World} {g k t : Nat} (h : Good6 w g k t W) (m : Nat) : Good6 w g k t (W.drewN m) := ⟨by exact h.slab, by exact h.tab, below_drewN' h.bel m⟩
theorem Good6.drew {w W : World} {g k t : Nat} (h : Good6 w g k t W) : Good6 w g k t W.drew := ⟨by exact h.slab, by exact h.tab, h.bel.drew⟩
theorem Good6.below {w W W' : World} {g k t : Nat} (h : Good6 w g k t W) (hs : 0 < w.heap.size) (hb : Below W.heap.size W W') : Good6 w g k t W' :=
  ⟨h.slab.below hb, TabAt.below h.tab (hb.mono h.bel.size) hs, h.bel.trans (hb.mono h.bel.size)⟩
/-- A call that only reads leaves it. -/
theorem Good6.quiet {w W : World} {g k t : Nat} {f : FuncId} {args : Array Value} {v : Value} (h : Good6 w g k t W) (hc : Calls Tryd.prog f args W fun e w' => e = .returned v ∧ ∃ m, w' = W.drewN m) : Calls Tryd.prog f args W fun e w' => e = .returned v ∧ Good6 w g k t w' :=
  hc.mono fun _ _ ⟨he, m, hw⟩ => ⟨he, by rw [hw]; exact h.drewN m⟩
theorem Good6.makes {w W : World} {g k t : Nat} {f : FuncId} {args : Array Value} {v : Value} (h : Good6 w g k t W) (hs : 0 < w.heap.size) (hc : Calls Tryd.prog f args W fun e w' => e = .returned v ∧ Below W.heap.size W w') : Calls Tryd.prog f args W fun e w' => e = .returned v ∧ Good6 w g k t w' :=
  hc.mono fun _ _ ⟨he, hb⟩ => ⟨he, h.below hs hb⟩
set_option maxHeartbeats 2000000 in
set_option maxRecDepth 100000 in
theorem slabTells_walk (w0 c a : Int) (w : World) (hw : (Lit.int .u64 w0).wf = true) (_hc : (Lit.int .i64 c).wf = true) (_ha : (Lit.int .i64 a).wf = true) (hT : TabAt 0 Lib.deBruijn64tab w) (hs : 0 < w.heap.size) :
    Calls Tryd.prog 3 #[.int .u64 w0, .int .i64 c, .int .i64 a] w fun e w' => e = .returned (.bool true) ∧ Below w.heap.size w w' := by
  obtain ⟨n, rfl, hn⟩ := u64_nat7 hw
  have HT := Lib.hid hT
  have HOF := fun W => Lib.hid (rs_of n W)
  have HL1 := fun W => Lib.hid (sl_list n W hn)
  have HL2 := fun W => Lib.hid (rs_list n W)
  have C1 : ∀ g k t W, Hid (Good6 w g k t W → Calls Tryd.prog 12 #[.int .u64 n] W fun e w' => e = .returned (.bool (S.rgt n)) ∧ Good6 w g k t w') := fun g k t W h => h.quiet (sl_right n W hn)
  have C2 : ∀ g k t W, Hid (Good6 w g k t W → Calls Tryd.prog 13 #[.int .u64 n] W fun e w' => e = .returned (.int .i64 (S.cls n : Nat)) ∧ Good6 w g k t w') := fun g k t W h => h.quiet (sl_class n W hn)
  have C3 : ∀ g k t W, Hid (Good6 w g k t W → Calls Tryd.prog 14 #[.int .u64 n, .int .i64 a] W fun e w' => e = .returned (.bool (S.has n a)) ∧ Good6 w g k t w') := fun g k t W h => h.quiet (sl_has n a W hn)
  have C4 : ∀ g k t W, Hid (Good6 w g k t W → Calls Tryd.prog 15 #[.int .u64 n, .int .i64 c] W fun e w' => e = .returned (.int .i64 (S.nxt n c)) ∧ Good6 w g k t w') := fun g k t W h => h.quiet (sl_next n c W hn h.tab)
  have C5 : ∀ g k t W, Hid (Good6 w g k t W → Calls Tryd.prog 16 #[.int .u64 n, .int .i64 c] W fun e w' => e = .returned (.int .i64 (S.nxt n c)) ∧ Good6 w g k t w') := fun g k t W h => h.makes hs (rs_next n c W hn)
  have C6 : ∀ g k t W, Hid (Good6 w g k t W → Calls Tryd.prog 17 #[.int .i64 c] W fun e w' => e = .returned (.int .i64 (S.blk c : Nat)) ∧ Good6 w g k t w') := fun g k t W h => h.quiet (sl_blocks c W)
  have C7 : ∀ g k t W, Hid (Good6 w g k t W → Calls Tryd.prog 18 #[.int .i64 c] W fun e w' => e = .returned (.int .i64 (S.blk c : Nat)) ∧ Good6 w g k t w') := fun g k t W h => h.quiet (rs_blocks c W)
  have C8 : ∀ g k t W, Hid (Good6 w g k t W → Calls Tryd.prog 19 #[.int .i64 c] W fun e w' => e = .returned (.int .i64 (S.lns c : Nat)) ∧ Good6 w g k t w') := fun g k t W h => h.quiet (sl_lines c W)
  have C9 : ∀ g k t W, Hid (Good6 w g k t W → Calls Tryd.prog 20 #[.int .i64 c] W fun e w' => e = .returned (.int .i64 (S.lns c : Nat)) ∧ Good6 w g k t w') := fun g k t W h => h.quiet (rs_lines c W)
  have HHAS : Hid ((¬ (0 ≤ a ∧ a < 16) → S.has n a = false) ∧ (0 ≤ a → S.has n a = (S.tkn n).testBit a.toNat)) := ⟨fun h => has_far (fun h2 => h ⟨h2.2.1, h2.2.2⟩), has_is⟩
  have hlen : (S.ls (S.tkn n) 16).length ≤ 16 := by rw [S.ls_length]; exact S.pc_le _ _
  have HB0 : Hid (∀ m, Below w.heap.size w (w.drewN m)) := fun m => below_drewN' (Below.refl _ _) m
  clear hT hw _hc _ha hn
  generalize S.ls (S.tkn n) 16 = L at *
  generalize S.has n a = hh at *
  generalize S.nxt n c = nx at *
  generalize S.blk c = bk at *
  generalize S.lns c = ln at *
  generalize S.tkn n = t at *
  generalize S.cls n = k at *
  generalize S.rgt n = rr at *
  obtain ⟨len, hlen2⟩ : ∃ len, len = L.length := ⟨_, rfl⟩
  rw [← hlen2] at hlen
  have HLEN := Lib.hid hlen2
  clear hlen2
  go_enter Tryd.func3, Tryd.ntmps3
  go_wp2_with fail
  refine (alive6_any _ HT.out).mono ?_
  rintro e w1 ⟨rfl, m0, rfl⟩
  go_wp2_with fail
  refine ((HOF _).out).mono ?_
  clear HOF
  rintro e w5 ⟨rfl, hb⟩
  have hb5 := (HB0.out m0).trans (hb.mono (HB0.out m0).size)
  clear hb
  go_upto_region 4 with (refine wpList_store_row rfl 26 (.tmp 7) (.tmp 18) rfl _ (slabA k t) rfl rfl 26 _ (heap_alloc_new w5 _) (by rw [slabA_size]; exact info_slab) (by rw [slabA_zero, slabA_size, slabA_size]) (slabA_one k t) ?_)
  rw [World.setRow_alloc_new]
  obtain ⟨s1, s2, _⟩ := slab_new hb5 k t
  generalize w5.alloc (.cells (slabA k t) 26 (0, 0)) = W6 at *
  generalize w5.heap.size = g at *
  have HG : Hid (Good6 w g k t W6) := ⟨s1, TabAt.below HT.out (s2 0) hs, s2 0⟩
  clear s1 s2 hb5 HB0 HT
  go_wp2_with fail
  refine ((HL1 _).out).mono ?_
  rintro e w7 ⟨a7, c7, rfl, hi7, hb7⟩
  rw [← HLEN.out] at hi7 ⊢
  have HG7 : Hid (Good6 w g k t w7) := HG.out.below hs hb7
  have HI7 := Lib.hid hi7
  clear hb7 hi7 HG HL1
  go_wp2_with fail
  refine ((HL2 _).out).mono ?_
  rintro e w8 ⟨a8, c8, rfl, hi8, hb8⟩
  rw [← HLEN.out] at hi8 ⊢
  have HG8 : Hid (∀ m, Good6 w g k t (w8.drewN m)) := fun m => (HG7.out.below hs hb8).drewN m
  have HI8 := Lib.hid hi8
  have HI78 : Hid (IsInts .i64 w8 (.slice a7 len c7) L) := HI7.out.below hb8
  clear hb8 hi8 HG7 HI7 HL2
  go_wp2_with fail
  go_loopw [11, 31] (fun _ i wr => ∃ (j m : Nat), j ≤ len ∧ i = .int .i64 j ∧ wr = w8.drewN m) (fun _ i _ => len - (intOf i).toNat)
  case atStart => exact ⟨0, 0, by omega, rfl, rfl⟩
  case round =>
    obtain ⟨j, m, hj, rfl, rfl⟩ := hrel
    by_cases hlt : j < len
    · obtain ⟨b1, o1, rfl, -, k1, k2, q1⟩ := HI78.out.at6 (i := j) (by rw [← HLEN.out]; exact hlt)
      obtain ⟨b2, o2, rfl, -, k3, k4, q2⟩ := HI8.out.at6 (i := j) (by rw [← HLEN.out]; exact hlt)
      generalize L.getD j 0 = gx at *
      go_wp2_with fail
      go_quiet (fail)
      go_wp2
      go_roundw
      case rel => exact ⟨j + 1, _, by omega, by go_num, rfl⟩
      case measure => simp [intOf]; omega
    · obtain rfl : j = len := by omega
      have HG9 := Lib.hid (HG8.out m)
      clear HG8
      generalize w8.drewN m = w9 at *
      have hcases : (a < 0 ∧ hh = false) ∨ (0 ≤ a ∧ 16 ≤ a ∧ hh = false) ∨ ∃ p : Nat, a = (p : Int) ∧ p < 16 ∧ hh = t.testBit p := by
        by_cases h1 : a < 0
        · exact .inl ⟨h1, HHAS.out.1 (by omega)⟩
        · by_cases h2 : 16 ≤ a
          · exact .inr (.inl ⟨by omega, h2, HHAS.out.1 (by omega)⟩)
          · obtain ⟨p, rfl⟩ := Int.eq_ofNat_of_zero_le (Int.not_lt.1 h1)
            refine .inr (.inr ⟨p, rfl, by omega, ?_⟩)
            have := HHAS.out.2 (Int.not_lt.1 h1)
            rwa [Int.toNat_natCast] at this
      clear HHAS
      have HG := Lib.hid HG9.out
      have hc0 := HG.out.slab.cls
      go_upto_region 13 with fail
      go_cut [12] (fun s wx => s = .bool hh ∧ wx = w9)
      case first =>
        rcases hcases with ⟨ha, rfl⟩ | ⟨ha1, ha2, rfl⟩ | ⟨p, rfl, hp, hpp⟩
        · go_wp2_with fail
          all_goals (go_meet; exact ⟨rfl, rfl⟩)
        · go_wp2_with fail
          all_goals (go_meet; exact ⟨rfl, rfl⟩)
        · have hcell := HG.out.slab.bit hp
          rw [← hpp] at hcell
          have hmm : min (max (p : Int) 0) 15 = (p : Int) := by omega
          clear hpp
          go_wp2_with fail
          all_goals (go_meet; exact ⟨rfl, rfl⟩)
      case rest =>
        obtain ⟨rfl, rfl⟩ := hcut
        clear HLEN HI8 HI78 HG9
        go_upto_region 14 with fail
        first | (go_region_held_law (fun W => W.cell? ⟨g, 0, none⟩ = some (.int .i64 (k : Int))) (first | exact HG.out.slab.cls | exact HG.out.drew.slab.cls | exact hc0)
          (first
          | (go_at_call 12; refine ((C1 g k t _).out (by first | exact HG.out | exact HG.out.drew)).mono ?_; rintro e wn ⟨rfl, hg⟩; have HG := Lib.hid hg; clear hg)
          | (go_at_call 13; refine ((C2 g k t _).out (by first | exact HG.out | exact HG.out.drew)).mono ?_; rintro e wn ⟨rfl, hg⟩; have HG := Lib.hid hg; clear hg)
          | (go_at_call 14; refine ((C3 g k t _).out (by first | exact HG.out | exact HG.out.drew)).mono ?_; rintro e wn ⟨rfl, hg⟩; have HG := Lib.hid hg; clear hg)
          | (go_at_call 15; refine ((C4 g k t _).out (by first | exact HG.out | exact HG.out.drew)).mono ?_; rintro e wn ⟨rfl, hg⟩; have HG := Lib.hid hg; clear hg)
          | (go_at_call 16; refine ((C5 g k t _).out (by first | exact HG.out | exact HG.out.drew)).mono ?_; rintro e wn ⟨rfl, hg⟩; have HG := Lib.hid hg; clear hg)
          | (go_at_call 17; refine ((C6 g k t _).out (by first | exact HG.out | exact HG.out.drew)).mono ?_; rintro e wn ⟨rfl, hg⟩; have HG := Lib.hid hg; clear hg)
          | (go_at_call 18; refine ((C7 g k t _).out (by first | exact HG.out | exact HG.out.drew)).mono ?_; rintro e wn ⟨rfl, hg⟩; have HG := Lib.hid hg; clear hg)
          | (go_at_call 19; refine ((C8 g k t _).out (by first | exact HG.out | exact HG.out.drew)).mono ?_; rintro e wn ⟨rfl, hg⟩; have HG := Lib.hid hg; clear hg)
          | (go_at_call 20; refine ((C9 g k t _).out (by first | exact HG.out | exact HG.out.drew)).mono ?_; rintro e wn ⟨rfl, hg⟩; have HG := Lib.hid hg; clear hg))) | fail "held"
        all_goals (go_wp2; go_ret; exact ⟨ret_bool (by simp), HG.out.bel⟩)
end Go.Proofs.YtbaealdabplmdaaDoor
