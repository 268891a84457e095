
/- The walk of the statement SlabWords. -/
import Derived.Test.YtbaealdabplmdaaDoorSlOrdL

import Derived.BigQuiet

namespace Go.Proofs.YtbaealdabplmdaaDoor

open Go.RowKit

theorem IsInts.at6 {k : IntKind} {w : World} {A : Option Addr} {n c : Nat} {zs : List Int} (h : IsInts k w (.slice A n c) zs) {i : Nat} (hi : i < zs.length) :
    ∃ b o, A = some ⟨b, o, none⟩ ∧ n = zs.length ∧ n ≤ c ∧ c ≤ maxLen ∧ w.cell? ⟨b, o + i, none⟩ = some (.int k (zs.getD i 0)) := by
  obtain ⟨a, cap, h1, h2, h3, h4, _⟩ := h
  simp only [Value.slice.injEq] at h1
  obtain ⟨rfl, rfl, rfl⟩ := h1
  rcases h4 with rfl | ⟨b, o, rfl, hc⟩
  · cases hi
  · exact ⟨b, o, rfl, rfl, h2, h3, hc i hi⟩
theorem take_next {la lb : List Int} {i : Nat} (h : la.take i = lb.take i) (ha : i < la.length) (hb : i < lb.length) : la.take (i + 1) = lb.take (i + 1) ↔ la.getD i 0 = lb.getD i 0 := by
  have e1 := List.take_succ_eq_append_getElem ha
  have e2 := List.take_succ_eq_append_getElem hb
  rw [e1, e2, h, List.append_cancel_left_eq]
  simp only [List.cons.injEq, and_true]
  simp [List.getD_eq_getElem?_getD, List.getElem?_eq_getElem ha, List.getElem?_eq_getElem hb]
theorem unright_ls {n : Nat} (h : S.rgt n = false) : S.ls (S.tkn n) 16 = [] := by
  rcases S.shape n with ⟨_, _, _, h1⟩ | ⟨h1, _⟩
  · rw [h1]; decide
  · rw [h1] at h; cases h
set_option maxRecDepth 100000 in
theorem slabWords_walk (v0 w0 : Int) (w : World) (wv : (Lit.int .u64 v0).wf = true) (ww : (Lit.int .u64 w0).wf = true) (hT : TabAt 0 Lib.deBruijn64tab w) (_hs : 0 < w.heap.size) :
    Calls Tryd.prog 6 #[.int .u64 v0, .int .u64 w0] w fun e w' => e = .returned (.bool true) ∧ Below w.heap.size w w' := by
  obtain ⟨x, rfl, hx⟩ := u64_nat6 wv
  obtain ⟨y, rfl, hy⟩ := u64_nat6 ww
  have HT := Lib.hid hT; clear hT wv ww
  have HRX : Hid (∀ W : World, Calls Tryd.prog 12 #[.int .u64 x] W fun e w' => e = .returned (.bool (S.rgt x)) ∧ ∃ m, w' = W.drewN m) := fun W => sl_right x W hx
  have HRY : Hid (∀ W : World, Calls Tryd.prog 12 #[.int .u64 y] W fun e w' => e = .returned (.bool (S.rgt y)) ∧ ∃ m, w' = W.drewN m) := fun W => sl_right y W hy
  have HLX : Hid (∀ W : World, Calls Tryd.prog 10 #[.int .u64 x] W (LsPost W (S.ls (S.tkn x) 16))) := fun W => sl_list x W hx
  have HLY : Hid (∀ W : World, Calls Tryd.prog 10 #[.int .u64 y] W (LsPost W (S.ls (S.tkn y) 16))) := fun W => sl_list y W hy
  have hlx : (S.ls (S.tkn x) 16).length ≤ 16 := by rw [S.ls_length]; exact S.pc_le _ _
  have hly : (S.ls (S.tkn y) 16).length ≤ 16 := by rw [S.ls_length]; exact S.pc_le _ _
  have HB0 : Hid (∀ m, Below w.heap.size w (w.drewN m)) := fun m => below_drewN' (Below.refl _ _) m
  cases hrx : S.rgt x with
  | false =>
    rw [unright_ls hrx] at HLX
    rw [hrx] at HRX
    clear hrx hlx HRY
    obtain ⟨ky, hky⟩ : ∃ k, k = (S.ls (S.tkn y) 16).length := ⟨_, rfl⟩
    rw [← hky] at hly
    have KY := Lib.hid hky
    clear hky
    generalize S.ls (S.tkn y) 16 = LY at *
    go_enter Tryd.func6, Tryd.ntmps6
    go_wp2_with fail
    refine (alive6_any _ HT.out).mono ?_
    rintro e w1 ⟨rfl, m0, rfl⟩
    go_wp2_with fail
    refine (HRX.out _).mono ?_
    rintro e w' ⟨rfl, m1, rfl⟩
    go_wp2_with fail
    refine (HLX.out _).mono ?_
    rintro e w5 ⟨a5, c5, rfl, _, hb5⟩
    rw [List.length_nil]
    have HB5 : Hid (Below w.heap.size w w5) := (HB0.out _).trans (hb5.mono (HB0.out _).size)
    clear hb5
    go_wp2_with fail
    refine (HLY.out _).mono ?_
    rintro e w6 ⟨a6, c6, rfl, _, hb6⟩
    rw [← KY.out]
    have HB6 : Hid (Below w.heap.size w w6) := HB5.out.trans (hb6.mono HB5.out.size)
    clear hb6
    go_wp2
    go_ret
    exact ⟨rfl, HB6.out⟩
  | true =>
    cases hry : S.rgt y with
    | false =>
      rw [unright_ls hry] at HLY
      rw [hrx] at HRX
      rw [hry] at HRY
      clear hrx hry hly
      obtain ⟨kx, hkx⟩ : ∃ k, k = (S.ls (S.tkn x) 16).length := ⟨_, rfl⟩
      rw [← hkx] at hlx
      have KX := Lib.hid hkx
      clear hkx
      generalize S.ls (S.tkn x) 16 = LX at *
      go_enter Tryd.func6, Tryd.ntmps6
      go_wp2_with fail
      refine (alive6_any _ HT.out).mono ?_
      rintro e w1 ⟨rfl, m0, rfl⟩
      go_wp2_with fail
      refine (HRX.out _).mono ?_
      rintro e w' ⟨rfl, m1, rfl⟩
      go_wp2_with fail
      refine (HRY.out _).mono ?_
      rintro e w' ⟨rfl, m2, rfl⟩
      go_wp2_with fail
      refine (HLX.out _).mono ?_
      rintro e w5 ⟨a5, c5, rfl, _, hb5⟩
      rw [← KX.out]
      have HB5 : Hid (Below w.heap.size w w5) := (HB0.out _).trans (hb5.mono (HB0.out _).size)
      clear hb5
      go_wp2_with fail
      refine (HLY.out _).mono ?_
      rintro e w6 ⟨a6, c6, rfl, _, hb6⟩
      rw [List.length_nil]
      have HB6 : Hid (Below w.heap.size w w6) := HB5.out.trans (hb6.mono HB5.out.size)
      clear hb6
      go_wp2
      go_ret
      exact ⟨rfl, HB6.out⟩
    | true =>
      have HCX : Hid (∀ W : World, Calls Tryd.prog 13 #[.int .u64 x] W fun e w' => e = .returned (.int .i64 (S.cls x : Nat)) ∧ ∃ m, w' = W.drewN m) := fun W => sl_class x W hx
      have HCY : Hid (∀ W : World, Calls Tryd.prog 13 #[.int .u64 y] W fun e w' => e = .returned (.int .i64 (S.cls y : Nat)) ∧ ∃ m, w' = W.drewN m) := fun W => sl_class y W hy
      have HSM : Hid (S.cls x = S.cls y → S.ls (S.tkn x) 16 = S.ls (S.tkn y) 16 → x = y) := fun h1 h2 => S.same_of hrx hry h1 h2
      have HSN : Hid (x = y → S.cls x = S.cls y ∧ S.ls (S.tkn x) 16 = S.ls (S.tkn y) 16) := by rintro rfl; exact ⟨rfl, rfl⟩
      rw [hrx] at HRX
      rw [hry] at HRY
      clear hrx hry
      generalize S.ls (S.tkn x) 16 = LX at *
      generalize S.ls (S.tkn y) 16 = LY at *
      generalize S.cls x = cx at *
      generalize S.cls y = cy at *
      obtain ⟨kx, hkx⟩ : ∃ k, k = LX.length := ⟨_, rfl⟩
      obtain ⟨ky, hky⟩ : ∃ k, k = LY.length := ⟨_, rfl⟩
      rw [← hkx] at hlx
      rw [← hky] at hly
      have KX := Lib.hid hkx
      have KY := Lib.hid hky
      clear hkx hky
      by_cases hc : cx = cy ∧ kx = ky
      · obtain ⟨rfl, rfl⟩ := hc
        go_enter Tryd.func6, Tryd.ntmps6
        go_wp2_with fail
        refine (alive6_any _ HT.out).mono ?_
        rintro e w1 ⟨rfl, m0, rfl⟩
        go_wp2_with fail
        refine (HRX.out _).mono ?_
        rintro e w' ⟨rfl, m1, rfl⟩
        go_wp2_with fail
        refine (HRY.out _).mono ?_
        rintro e w' ⟨rfl, m2, rfl⟩
        go_wp2_with fail
        refine (HLX.out _).mono ?_
        rintro e w5 ⟨a5, c5, rfl, hi5, hb5⟩
        rw [← KX.out] at hi5 ⊢
        have HI5 := Lib.hid hi5
        have HB5 : Hid (Below w.heap.size w w5) := (HB0.out _).trans (hb5.mono (HB0.out _).size)
        clear hb5 hi5
        go_wp2_with fail
        refine (HLY.out _).mono ?_
        rintro e w6 ⟨a6, c6, rfl, hi6, hb6⟩
        rw [← KY.out] at hi6 ⊢
        have HI6 := Lib.hid hi6
        have HI5' : Hid (IsInts .i64 w6 (.slice a5 kx c5) LX) := HI5.out.below hb6
        have HB6 : Hid (Below w.heap.size w w6) := HB5.out.trans (hb6.mono HB5.out.size)
        clear hb6 hi6 HI5 HB5
        go_wp2_with fail
        refine (HCX.out _).mono ?_
        rintro e w' ⟨rfl, m3, rfl⟩
        go_wp2_with fail
        refine (HCY.out _).mono ?_
        rintro e w' ⟨rfl, m4, rfl⟩
        go_wp2_with fail
        go_loopw [7, 8] (fun s k wr => ∃ (i : Nat) (b : Bool), i ≤ kx ∧ k = .int .i64 i ∧ s = .bool b ∧ (b = true → LX.take i = LY.take i) ∧ (b = false → LX ≠ LY) ∧ ∃ m, wr = w6.drewN m) (fun _ k _ => kx - (intOf k).toNat)
        case atStart => exact ⟨0, true, by omega, rfl, by simp, fun _ => rfl, fun h => (by cases h), _, rfl⟩
        case round =>
          obtain ⟨i, b, hi, rfl, rfl, h1, h2, m5, rfl⟩ := hrel
          have H1 := Lib.hid h1
          have H2 := Lib.hid h2
          clear h1 h2
          cases b with
          | false =>
            have hne : x ≠ y := fun h => H2.out (by first | rfl | trivial) (HSN.out h).2
            go_wp2
            all_goals (go_ret; exact ⟨ret_bool (by first | rfl | (rw [Bool.eq_iff_iff]; simp <;> omega) | simp), by exact below_drewN' HB6.out _⟩)
          | true =>
            by_cases hlt : i < kx
            · obtain ⟨b1, o1, rfl, -, k1, k2, q1⟩ := HI5'.out.at6 (i := i) (by rw [← KX.out]; exact hlt)
              obtain ⟨b2, o2, rfl, -, k3, k4, q2⟩ := HI6.out.at6 (i := i) (by rw [← KY.out]; exact hlt)
              have HN := Lib.hid (take_next (H1.out (by first | rfl | trivial)) (by rw [← KX.out]; exact hlt) (by rw [← KY.out]; exact hlt))
              generalize LX.getD i 0 = gx at *
              generalize LY.getD i 0 = gy at *
              go_wp2_with fail
              go_quiet (fail)
              go_wp2
              all_goals (go_roundw)
              case rel => exact ⟨i + 1, decide (gx = gy), by omega, by go_num, by first | rfl | (congr 1; rw [Bool.eq_iff_iff]; simp), fun h => HN.out.2 (of_decide_eq_true h), fun h e => (of_decide_eq_false h) (HN.out.1 (by rw [e])), _, rfl⟩
              case measure => simp [intOf]; omega
            · obtain rfl : i = kx := by omega
              have heq : x = y := HSM.out (by first | rfl | trivial) (by
                have := H1.out (by first | rfl | trivial)
                rwa [List.take_of_length_le (Nat.le_of_eq KX.out.symm), List.take_of_length_le (Nat.le_of_eq KY.out.symm)] at this)
              go_wp2
              all_goals (go_ret; exact ⟨ret_bool (by first | rfl | (rw [Bool.eq_iff_iff]; simp <;> omega) | simp), by exact below_drewN' HB6.out _⟩)
      · have hne : x ≠ y := fun h => hc ⟨(HSN.out h).1, by rw [KX.out, KY.out, (HSN.out h).2]⟩
        have hd : cx ≠ cy ∨ cx = cy ∧ kx ≠ ky := by omega
        clear HSM HSN hc
        go_enter Tryd.func6, Tryd.ntmps6
        go_wp2_with fail
        refine (alive6_any _ HT.out).mono ?_
        rintro e w1 ⟨rfl, m0, rfl⟩
        go_wp2_with fail
        refine (HRX.out _).mono ?_
        rintro e w' ⟨rfl, m1, rfl⟩
        go_wp2_with fail
        refine (HRY.out _).mono ?_
        rintro e w' ⟨rfl, m2, rfl⟩
        go_wp2_with fail
        refine (HLX.out _).mono ?_
        rintro e w5 ⟨a5, c5, rfl, _, hb5⟩
        rw [← KX.out]
        have HB5 : Hid (Below w.heap.size w w5) := (HB0.out _).trans (hb5.mono (HB0.out _).size)
        clear hb5
        go_wp2_with fail
        refine (HLY.out _).mono ?_
        rintro e w6 ⟨a6, c6, rfl, _, hb6⟩
        rw [← KY.out]
        have HB6 : Hid (Below w.heap.size w w6) := HB5.out.trans (hb6.mono HB5.out.size)
        clear hb6 HB5
        go_wp2_with fail
        refine (HCX.out _).mono ?_
        rintro e w' ⟨rfl, m3, rfl⟩
        go_wp2_with fail
        refine (HCY.out _).mono ?_
        rintro e w' ⟨rfl, m4, rfl⟩
        rcases hd with hd | ⟨rfl, hd⟩
        · go_wp2_with fail
          go_loopw [7, 8] (fun s k wr => k = .int .i64 0 ∧ s = .bool false ∧ ∃ m, wr = w6.drewN m) (fun _ _ _ => 0)
          case atStart => exact ⟨rfl, by first | rfl | (congr 1; simp <;> omega) | simp, _, rfl⟩
          case round =>
            obtain ⟨rfl, rfl, m5, rfl⟩ := hrel
            go_wp2
            all_goals (go_ret; exact ⟨ret_bool (by first | rfl | (rw [Bool.eq_iff_iff]; simp <;> omega) | simp), by exact below_drewN' HB6.out _⟩)
        · go_wp2_with fail
          go_loopw [7, 8] (fun s k wr => k = .int .i64 0 ∧ s = .bool false ∧ ∃ m, wr = w6.drewN m) (fun _ _ _ => 0)
          case atStart => exact ⟨rfl, by first | rfl | (congr 1; simp <;> omega) | simp, _, rfl⟩
          case round =>
            obtain ⟨rfl, rfl, m5, rfl⟩ := hrel
            go_wp2
            all_goals (go_ret; exact ⟨ret_bool (by first | rfl | (rw [Bool.eq_iff_iff]; simp <;> omega) | simp), by exact below_drewN' HB6.out _⟩)
end Go.Proofs.YtbaealdabplmdaaDoor
