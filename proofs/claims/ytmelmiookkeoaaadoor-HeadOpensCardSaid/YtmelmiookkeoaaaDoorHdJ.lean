
/- Layer 5: the contract of Open, the reference's. -/
import Derived.Test.YtmelmiookkeoaaaDoorHdF

namespace Go.Proofs.YtmelmiookkeoaaaDoor

open Go.RowKit

set_option maxHeartbeats 1000000 in
set_option maxRecDepth 100000 in
theorem rf5_open {w : World} {A : Option Addr} {c : Nat} {l : List Nat} (hl : IsWords w (.slice A 8 c) l) (n : Nat) (hn : n ≤ 1024) :
    Calls Tryd.prog 26 #[.slice A 8 c, .int .i64 (n : Int)] w (ShPost w (if 19 ≤ n ∧ l = V.wrds n then V.Sh.at n else V.Sh.zero) (.bool (decide (19 ≤ n ∧ l = V.wrds n)))) := by
  have HL := Lib.hid hl
  have HLL := Lib.hid hl.len.1
  have HOF : Hid (∀ o, Calls Tryd.prog 13 #[.int .i64 (n : Int)] (w.alloc o) (ShPost (w.alloc o) (V.Sh.of (n : Int)) (.bool (V.isSh (n : Int))))) := fun o => rf5_of _ _ ⟨by omega, by omega⟩
  have hlin : I64 (V.Sh.of (n : Int)).lines := by
    unfold V.Sh.of
    split
    · exact ⟨by show (_ : Int) ≤ ((_ : Nat) : Int); omega, by show ((Int.toNat _ : Nat) : Int) ≤ _; omega⟩
    · exact ⟨by decide, by decide⟩
  have HWD : Hid (∀ W, Calls Tryd.prog 16 #[shV (V.Sh.of (n : Int))] W (WordsPost W (V.Sh.of (n : Int)).words)) := fun W => rf5_words W _ hlin
  have HB0 : Hid (∀ o, Below w.heap.size w (w.alloc o)) := fun o => (Below.refl _ _).alloc (Nat.le_refl _) o
  have hfc : (19 ≤ n ∧ V.isSh (n : Int) = true ∧ (V.Sh.of (n : Int)).words = V.wrds n ∧ V.Sh.of (n : Int) = V.Sh.at n) ∨ (¬ 19 ≤ n ∧ V.isSh (n : Int) = false) := by
    by_cases h : 19 ≤ n
    · exact .inl ⟨h, V.isSh_nat ⟨h, hn⟩, by rw [V.Sh.of_nat ⟨h, hn⟩, V.Sh.words_at ⟨h, hn⟩], V.Sh.of_nat ⟨h, hn⟩⟩
    · exact .inr ⟨h, V.isSh_no (by omega)⟩
  have HFC := Lib.hid hfc
  clear hl hlin hfc
  generalize hwl : (V.Sh.of (n : Int)).words = wl at *
  generalize V.isSh (n : Int) = isb at *
  generalize hsh : V.Sh.of (n : Int) = sh at *
  clear hwl hsh
  obtain ⟨xa, xb, xc, xd⟩ := sh
  unfold ShPost shV at HOF
  unfold shV at HWD
  dsimp only at HOF HWD
  obtain ⟨rs, hrs⟩ : ∃ rs : V.Sh, rs = (if 19 ≤ n ∧ l = V.wrds n then V.Sh.at n else V.Sh.zero) := ⟨_, rfl⟩
  obtain ⟨rb, hrb⟩ : ∃ rb : Bool, rb = decide (19 ≤ n ∧ l = V.wrds n) := ⟨_, rfl⟩
  rw [← hrs, ← hrb]
  have HRS := Lib.hid hrs
  have HRB := Lib.hid hrb
  clear hrs hrb
  go_enter Tryd.func26, Tryd.ntmps26
  go_wp2_with fail
  refine (HOF.out _).mono ?_
  rintro e w1 ⟨rfl, hb⟩
  have HB2 : Hid (∀ o, Below w.heap.size w (w1.alloc o)) := fun o => ((HB0.out _).trans (hb.mono (by simp))).alloc (Nat.le_trans (by simp) hb.size) o
  have HR2 : Hid (∀ o, (w1.alloc o).heap[w.heap.size]? = some (.cells #[.int .i64 0, .int .i64 0, .int .i64 0, .int .i64 0] 23 (0, 0))) := fun o => by
    have h2 := (hb.block _ (show w.heap.size < _ by simp)).trans (heap_alloc_new w (.cells #[.int .i64 0, .int .i64 0, .int .i64 0, .int .i64 0] 23 (0, 0)))
    exact (Below.heap_alloc _ _ _ (Array.getElem?_eq_some_iff.1 h2).1).trans h2
  have HX2 : Hid (∀ o, (w1.alloc o).heap[w1.heap.size]? = some o) := fun o => heap_alloc_new w1 o
  have y0 := (four' (HX2.out (.cells #[.int .i64 xa, .int .i64 xb, .int .i64 xc, .int .i64 xd] 23 (0, 0)))).1.1
  have y1 := (four' (HX2.out (.cells #[.int .i64 xa, .int .i64 xb, .int .i64 xc, .int .i64 xd] 23 (0, 0)))).1.2.1
  have y2 := (four' (HX2.out (.cells #[.int .i64 xa, .int .i64 xb, .int .i64 xc, .int .i64 xd] 23 (0, 0)))).1.2.2.1
  have y3 := (four' (HX2.out (.cells #[.int .i64 xa, .int .i64 xb, .int .i64 xc, .int .i64 xd] 23 (0, 0)))).1.2.2.2
  clear hb
  go_wp2_with fail
  refine (HWD.out _).mono ?_
  rintro e w3 ⟨v, rfl, hv, hb⟩
  have hv' := hv
  obtain ⟨B2, k, rfl, _⟩ := hv'
  rw [List.length_map] at hv ⊢
  have HB3 : Hid (Below w.heap.size w w3) := (HB2.out _).trans (hb.mono (HB2.out _).size)
  have hr3 := (hb.block _ (Array.getElem?_eq_some_iff.1 (HR2.out _)).1).trans (HR2.out _)
  have hx3 := (hb.block _ (Array.getElem?_eq_some_iff.1 (HX2.out _)).1).trans (HX2.out _)
  have HBS : Hid (∀ q (v0 v1 v2 v3 : Value), Below w.heap.size w (((((w3.drewN q).setCell ⟨w.heap.size, 0, none⟩ v0).setCell ⟨w.heap.size, 1, none⟩ v1).setCell ⟨w.heap.size, 2, none⟩ v2).setCell ⟨w.heap.size, 3, none⟩ v3)) := fun q => sets_below' (below_drewN' HB3.out q) (Nat.le_refl _)
  have HBS0 : Hid (∀ (v0 v1 v2 v3 : Value), Below w.heap.size w ((((w3.setCell ⟨w.heap.size, 0, none⟩ v0).setCell ⟨w.heap.size, 1, none⟩ v1).setCell ⟨w.heap.size, 2, none⟩ v2).setCell ⟨w.heap.size, 3, none⟩ v3)) := sets_below' HB3.out (Nat.le_refl _)
  obtain ⟨⟨z0, z1, z2, z3⟩, ⟨f0, f1, f2, f3⟩⟩ := four' hr3
  obtain ⟨⟨x0, x1, x2, x3⟩, _⟩ := four' hx3
  have HL3 := Lib.hid (HL.out.below HB3.out)
  have HV3 := Lib.hid hv
  clear hv hb hr3 hx3 y0 y1 y2 y3
  rcases HFC.out with ⟨h19, rfl, rfl, hsh⟩ | ⟨h19, rfl⟩
  · have HSH : Hid (V.Sh.at n = ⟨xa, xb, xc, xd⟩) := hsh.symm
    rw [V.wrds_length] at HV3 ⊢
    have HW8 := Lib.hid (V.wrds_length n)
    have H19 := Lib.hid h19
    clear hsh h19
    generalize V.wrds n = wl at *
    go_wp2_with fail
    go_loopw [9] (fun x W => ∃ j : Nat, j ≤ 8 ∧ x = .int .i64 j ∧ l.take j = wl.take j ∧ ∃ q, W = w3.drewN q) (fun x _ => 8 - (intOf x).toNat)
    case atStart => exact ⟨0, by omega, rfl, rfl, nodraw _⟩
    case round =>
      obtain ⟨j, hj, rfl, hsame, u, rfl⟩ := hrel
      have HSAME := Lib.hid hsame
      clear hsame
      by_cases hlt : j < 8
      · obtain ⟨b1, o1, x, rfl, hx, hx2, hc1⟩ := HL3.out.get j hlt
        obtain ⟨b2, o2, y, rfl, hy, hy2, hc2⟩ := HV3.out.get j hlt
        have HX := Lib.hid hx; have HY := Lib.hid hy
        clear hx hy
        by_cases hxy : x = y
        · subst hxy
          have hb : ((x : Int) != (x : Int)) = false := by simp
          go_wp2_with fail
          go_quiet (fail)
          go_wp2
          go_roundw
          case rel =>
            refine ⟨j + 1, by omega, by go_num, ?_, _, rfl⟩
            rw [List.take_add_one, List.take_add_one, HX.out, HY.out, HSAME.out]
          case measure => simp [intOf]; omega
        · have hb : ((x : Int) != (y : Int)) = true := by simp; omega
          have HNE : Hid (¬ (19 ≤ n ∧ l = wl)) := fun e => hxy (by have h1 := HX.out; rw [e.2, HY.out] at h1; exact (Option.some.inj h1).symm)
          clear hxy
          go_wp2_with fail
          go_quiet (fail)
          go_wp2
          exact bodyPost_ret (v := .tuple #[shV V.Sh.zero, .bool false]) (by simp [results, Tryd.results26, go_sem, shV, V.Sh.zero, z0, z1, z2, z3]) rfl ⟨by rw [HRS.out, HRB.out, if_neg HNE.out, decide_eq_false HNE.out], by first | exact HBS.out _ _ _ _ _ | (rw [World.drewN_drewN]; exact HBS.out _ _ _ _ _)⟩
      · obtain rfl : j = 8 := by omega
        have HE : Hid (19 ≤ n ∧ l = wl) := ⟨H19.out, by
          have h := HSAME.out
          rwa [List.take_of_length_le (Nat.le_of_eq HLL.out), List.take_of_length_le (Nat.le_of_eq HW8.out)] at h⟩
        go_wp2
        exact bodyPost_ret (v := .tuple #[.agg #[.int .i64 xa, .int .i64 xb, .int .i64 xc, .int .i64 xd], .bool true]) (by simp [results, Tryd.results26, go_sem, z0, z1, z2, z3]) rfl ⟨by rw [HRS.out, HRB.out, if_pos HE.out, decide_eq_true HE.out, HSH.out]; rfl, HBS.out _ _ _ _ _⟩
  · have HNE : Hid (¬ (19 ≤ n ∧ l = V.wrds n)) := fun e => h19 e.1
    clear h19
    go_wp2
    exact bodyPost_ret (v := .tuple #[shV V.Sh.zero, .bool false]) (by simp [results, Tryd.results26, go_sem, shV, V.Sh.zero, z0, z1, z2, z3]) rfl ⟨by rw [HRS.out, HRB.out, if_neg HNE.out, decide_eq_false HNE.out], HBS0.out _ _ _ _⟩
end Go.Proofs.YtmelmiookkeoaaaDoor
