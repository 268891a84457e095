
/- Layer 5: the contract of Words, the reference's; lists of words compared. -/
import Derived.Test.YtmelmiookkeoaaaDoorHdB

import Derived.Test.YtmelmiookkeoaaaDoorHdE

import Derived.Deep.QuietTactic

import Derived.BigQuiet

namespace Go.Proofs.YtmelmiookkeoaaaDoor

open Go.RowKit

set_option maxRecDepth 100000 in
theorem rf5_words (w : World) (s : V.Sh) (h1 : I64 s.lines) :
    Calls Tryd.prog 16 #[shV s] w (WordsPost w s.words) := by
  obtain ⟨i0, hi, hz0, hz1, hz2⟩ := info_parts info_u64
  have h1' : -9223372036854775808 ≤ s.lines ∧ s.lines ≤ 9223372036854775807 := h1
  have HOF : Hid (∀ o, Calls Tryd.prog 13 #[.int .i64 s.lines] (w.alloc o) (ShPost (w.alloc o) (V.Sh.of s.lines) (.bool (V.isSh s.lines)))) := fun o => rf5_of _ _ h1
  have HB0 : Hid (∀ o w1, Below (w.alloc o).heap.size (w.alloc o) w1 → ∀ o2, Below w.heap.size w (w1.alloc o2)) := fun o w1 hb o2 => ((((Below.refl _ _).alloc (Nat.le_refl _) o).trans (hb.mono (by simp))).alloc (Nat.le_trans (by simp) hb.size) o2)
  have HC0 : Hid (∀ a b c d t w1, Below (w.alloc (.cells #[a, b, c, d] t (0, 0))).heap.size (w.alloc (.cells #[a, b, c, d] t (0, 0))) w1 → ∀ o2, (w1.alloc o2).cell? ⟨w.heap.size, 0, none⟩ = some a ∧ (w1.alloc o2).cell? ⟨w.heap.size, 1, none⟩ = some b ∧ (w1.alloc o2).cell? ⟨w.heap.size, 2, none⟩ = some c ∧ (w1.alloc o2).cell? ⟨w.heap.size, 3, none⟩ = some d) := by
    intro a b c d t w1 hb o2
    have hlt : w.heap.size < (w.alloc (.cells #[a, b, c, d] t (0, 0))).heap.size := by simp
    exact (four' ((Below.heap_alloc _ _ _ (Nat.lt_of_lt_of_le hlt hb.size)).trans ((hb.block _ hlt).trans (heap_alloc_new w _)))).1
  by_cases hin : 19 ≤ s.lines ∧ s.lines ≤ 1024
  · obtain ⟨a, b, c, d⟩ := s
    dsimp only at *
    obtain ⟨n, rfl⟩ := Int.eq_ofNat_of_zero_le (show 0 ≤ a by omega)
    have hn : 19 ≤ n ∧ n ≤ 1024 := by omega
    have hsm := V.slabs_most hn.2
    have hda : V.dataAt n ≤ 10000 := by unfold V.dataAt; omega
    rw [V.isSh_nat hn, V.Sh.of_nat hn] at HOF
    have HOF2 : Hid (∀ o, Calls Tryd.prog 13 #[.int .i64 (n : Int)] (w.alloc o) fun e w' => e = .returned (.tuple #[.agg #[.int .i64 (n : Int), .int .i64 (V.slabs n : Int), .int .i64 128, .int .i64 (V.dataAt n : Int)], .bool true]) ∧ Below (w.alloc o).heap.size (w.alloc o) w') := HOF.out
    unfold shV
    dsimp only
    clear HOF h1 h1'
    by_cases hsame : b = (V.slabs n : Int) ∧ c = 128 ∧ d = (V.dataAt n : Int)
    · obtain ⟨rfl, rfl, rfl⟩ := hsame
      have hW : (⟨(n : Int), (V.slabs n : Int), 128, (V.dataAt n : Int)⟩ : V.Sh).words = V.wrds n := V.Sh.words_at hn
      rw [hW]
      have HSIX : Hid (V.six n = [465675318387, 1, n, V.slabs n, 128, V.dataAt n]) := rfl
      have HWR : Hid (V.wrds n = V.six n ++ [V.hsum n, 0]) := rfl
      have HSUM : Hid (V.hsum n = C.nxt 0 (V.bts (V.six n))) := rfl
      have HLT := Lib.hid (V.six_lt hn.2)
      have hsl := V.hsum_lt n
      clear hW hin
      generalize V.slabs n = sl at *
      generalize V.dataAt n = da at *
      generalize V.six n = sx at *
      generalize V.hsum n = hs6 at *
      generalize V.wrds n = wr8 at *
      go_enter Tryd.func16, Tryd.ntmps16
      go_wp2_with fail
      refine (HOF2.out _).mono ?_
      rintro e w1 ⟨rfl, hb⟩
      have HB1 := Lib.hid (HB0.out _ _ hb)
      have hc0 := fun o2 => (HC0.out _ _ _ _ _ _ hb o2).1
      have hc1 := fun o2 => (HC0.out _ _ _ _ _ _ hb o2).2.1
      have hc2 := fun o2 => (HC0.out _ _ _ _ _ _ hb o2).2.2.1
      have hc3 := fun o2 => (HC0.out _ _ _ _ _ _ hb o2).2.2.2
      clear hb
      have HB3 : Hid (∀ o2 o3, Below w.heap.size w ((w1.alloc o2).alloc o3)) := fun o2 o3 => (HB1.out o2).alloc (HB1.out o2).size o3
      have HG3 : Hid (∀ o2 t, ((w1.alloc o2).alloc (.cells (sx.map (fun n : Nat => Value.int .u64 (n : Int))).toArray t (0, 0))).heap[w1.heap.size + 1]? = some (.cells (sx.map (fun n : Nat => Value.int .u64 (n : Int))).toArray t (0, 0))) := by
        intro o2 t
        have := heap_alloc_new (w1.alloc o2) (.cells (sx.map (fun n : Nat => Value.int .u64 (n : Int))).toArray t (0, 0))
        rwa [show (w1.alloc o2).heap.size = w1.heap.size + 1 by simp] at this
      have hsz1 : w.heap.size ≤ w1.heap.size + 1 := by
        have := (HB1.out (.cells #[] 0 (0, 0))).size
        simpa using this
      have HSZ := Lib.hid hsz1
      have HEQ : Hid ((sx.map (fun n : Nat => Value.int .u64 (n : Int))).toArray = #[.int .u64 465675318387, .int .u64 1, .int .u64 (n : Int), .int .u64 (sl : Int), .int .u64 128, .int .u64 (da : Int)] ∧ sx.length = 6) := by
        rw [HSIX.out]; exact ⟨rfl, rfl⟩
      have HIW : Hid (∀ o2 t, IsWords ((w1.alloc o2).alloc (.cells #[.int .u64 465675318387, .int .u64 1, .int .u64 (n : Int), .int .u64 (sl : Int), .int .u64 128, .int .u64 (da : Int)] t (0, 0))) (.slice (some ⟨w1.heap.size + 1, 0, none⟩) 6 6) sx) := by
        intro o2 t
        have h := isWords_block (HG3.out o2 t) HLT.out (by rw [HEQ.out.2]; decide)
        rw [HEQ.out.1, HEQ.out.2] at h
        exact h
      have HOW : Hid (∀ o2 t, ((w1.alloc o2).alloc (.cells #[.int .u64 465675318387, .int .u64 1, .int .u64 (n : Int), .int .u64 (sl : Int), .int .u64 128, .int .u64 (da : Int)] t (0, 0))).ownsRow w.heap.size t 1 (.slice (some ⟨w1.heap.size + 1, 0, none⟩) 6 6) 6 ((sx.map (fun n : Nat => (n : Int))).map (Value.int .u64))) := by
        intro o2 t
        have h := HG3.out o2 t
        rw [← HEQ.out.1]
        have e : (sx.map (fun n : Nat => (n : Int))).map (Value.int .u64) = sx.map (fun n : Nat => Value.int .u64 (n : Int)) := by simp
        rw [← e] at h ⊢
        have := owns_of_row (k := .u64) (xs := sx.map (fun n : Nat => (n : Int))) h HSZ.out (by rw [List.length_map, HEQ.out.2]; decide)
        rw [List.length_map, HEQ.out.2] at this
        exact this
      clear hsz1
      go_wp2_with fail
      refine (rf5_bytes (HIW.out _ _) (by omega)).mono ?_
      rintro e w3 ⟨v, rfl, hv, hb⟩
      have HB4 : Hid (Below w.heap.size w w3) := (HB3.out _ _).trans (hb.mono (HB3.out _ _).size)
      have HOW3 := Lib.hid (owns_below (HOW.out _ _) hb)
      have HV := Lib.hid hv
      have HSM := Lib.hid (rsum_any v _ w3 hv)
      rw [← HSUM.out] at HSM
      clear hv hb
      go_wp2_with fail
      refine HSM.out.mono ?_
      rintro e w4 ⟨rfl, m, rfl⟩
      have HI2 : Hid (∀ t, IsInts .u64 ((w3.drewN m).alloc (.cells #[.int .u64 (hs6 : Int), .int .u64 0] t (0, 0))) (.slice (some ⟨w3.heap.size, 0, none⟩) 2 2) [(hs6 : Int), 0]) := by
        intro t
        exact isWords_block (l := [hs6, 0]) (heap_alloc_new (w3.drewN m) _) (by intro x hx; simp at hx; omega) (by unfold maxLen; simp)
      have HOW4 : Hid (∀ o, ((w3.drewN m).alloc o).ownsRow w.heap.size 40 1 (.slice (some ⟨w1.heap.size + 1, 0, none⟩) 6 6) 6 ((sx.map (fun n : Nat => (n : Int))).map (Value.int .u64))) := by
        intro o
        exact owns_below HOW3.out (below_drewN' (Below.refl _ _) m |>.alloc (Nat.le_refl _) o)
      have HB5 : Hid (∀ o, Below w.heap.size w ((w3.drewN m).alloc o)) := fun o => (below_drewN' HB4.out m).alloc HB4.out.size o
      go_wp2_with (at_builtin; refine wpList_append_ints rfl (.tmp 32) (.tmp 37) 31 rfl .u64 w.heap.size 40 i0 _ 8 Tryd.underlying31 hi hz0 hz1 hz2 rfl _ _ _ rfl (HOW4.out _) _ 2 2 _ rfl (HI2.out _) (by unfold maxLen; omega) (by omega) (HB5.out _).size ?_)
      intro v' w5 hown' hgr
      have hown : w5.ownsRow w.heap.size 40 1 v' 8 (((sx.map (fun n : Nat => (n : Int))) ++ [(hs6 : Int), 0]).map (Value.int .u64)) := by simpa using hown'
      have hres : IsInts .u64 w5 v' ((sx.map (fun n : Nat => (n : Int))) ++ [(hs6 : Int), 0]) := IsInts.of_own hown (fun z hz => by
        rcases List.mem_append.1 hz with hz | hz
        · obtain ⟨x, hx, rfl⟩ := List.mem_map.1 hz
          exact WalkArith.wf_u64 (by have := HLT.out x hx; omega)
        · simp only [List.mem_cons, List.not_mem_nil, or_false] at hz
          rcases hz with rfl | rfl
          · exact WalkArith.wf_u64 (by omega)
          · rfl)
      have HRES : Hid (IsWords w5 v' wr8) := by
        show IsInts _ _ _ _
        rw [HWR.out, List.map_append]
        exact hres
      have HB6 : Hid (Below w.heap.size w w5) := (HB5.out _).grown hgr (HB5.out _).size (fun k hk => by simp only [Value.ownBlock, Option.some.injEq] at hk; have := HSZ.out; omega)
      clear hown hown' hgr hres
      go_wp2
      go_ret
      exact ⟨_, rfl, HRES.out, HB6.out⟩
    · have hW : (⟨(n : Int), b, c, d⟩ : V.Sh).words = [] := if_neg (fun h => hsame (by
        have := h.2.2
        dsimp only at this
        rw [V.Sh.of_nat hn] at this
        simpa [V.Sh.at] using this))
      rw [hW]
      have hne : ¬ ((b = (V.slabs n : Int)) ∧ (c = 128) ∧ d = (V.dataAt n : Int)) := hsame
      clear hW hin hsame
      generalize V.slabs n = sl at *
      generalize V.dataAt n = da at *
      go_enter Tryd.func16, Tryd.ntmps16
      go_wp2_with fail
      refine (HOF2.out _).mono ?_
      rintro e w1 ⟨rfl, hb⟩
      have HB1 := Lib.hid (HB0.out _ _ hb)
      have hc0 := fun o2 => (HC0.out _ _ _ _ _ _ hb o2).1
      have hc1 := fun o2 => (HC0.out _ _ _ _ _ _ hb o2).2.1
      have hc2 := fun o2 => (HC0.out _ _ _ _ _ _ hb o2).2.2.1
      have hc3 := fun o2 => (HC0.out _ _ _ _ _ _ hb o2).2.2.2
      clear hb
      go_wp2_with fail
      all_goals first | (go_ret; exact ⟨_, rfl, IsInts.nil _ _, HB1.out _⟩) | skip
  · have hw : s.words = [] := if_neg (fun h => hin ⟨h.1, h.2.1⟩)
    rw [hw]
    rw [V.isSh_no hin, V.Sh.of_no hin] at HOF
    have HOF2 : Hid (∀ o, Calls Tryd.prog 13 #[.int .i64 s.lines] (w.alloc o) fun e w' => e = .returned (.tuple #[.agg #[.int .i64 0, .int .i64 0, .int .i64 0, .int .i64 0], .bool false]) ∧ Below (w.alloc o).heap.size (w.alloc o) w') := HOF.out
    obtain ⟨a, b, c, d⟩ := s
    unfold shV
    dsimp only at *
    clear hw hin HOF
    go_enter Tryd.func16, Tryd.ntmps16
    go_wp2_with fail
    refine (HOF2.out _).mono ?_
    rintro e w1 ⟨rfl, hb⟩
    have HB1 := Lib.hid (HB0.out _ _ hb)
    clear hb
    go_wp2
    go_ret
    exact ⟨_, rfl, IsInts.nil _ _, HB1.out _⟩

/-- Two slices of words, held against each other. -/
theorem words_same {w : World} {A B : Option Addr} {n c m k : Nat} {l r : List Nat} (hl : IsWords w (.slice A n c) l) (hr : IsWords w (.slice B m k) r) :
    Calls Tryd.prog 14 #[.slice A n c, .slice B m k] w fun e w' => e = .returned (.bool (decide (l = r))) ∧ ∃ m, w' = w.drewN m := by
  obtain ⟨hll, hlc, hlm⟩ := hl.len
  obtain ⟨hrl, hrc, hrm⟩ := hr.len
  unfold maxLen at hlm hrm
  have HL := Lib.hid hl; have HR := Lib.hid hr
  have HLL := Lib.hid hll; have HRL := Lib.hid hrl
  clear hl hr hll hrl
  by_cases hnm : n = m
  · subst hnm
    go_enter Tryd.func14, Tryd.ntmps14
    go_wp2_with fail
    go_loopw [13] (fun x wr => ∃ j : Nat, j ≤ n ∧ x = .int .i64 j ∧ l.take j = r.take j ∧ ∃ n, wr = w.drewN n) (fun x _ => n - (intOf x).toNat)
    case atStart => exact ⟨0, by omega, rfl, rfl, nodraw _⟩
    case round =>
      obtain ⟨j, hj, rfl, hsame, u, rfl⟩ := hrel
      have HSAME := Lib.hid hsame
      clear hsame
      by_cases hlt : j < n
      · obtain ⟨b1, o1, x, rfl, hx, hx2, hc1⟩ := HL.out.get j hlt
        obtain ⟨b2, o2, y, rfl, hy, hy2, hc2⟩ := HR.out.get j hlt
        have HX := Lib.hid hx; have HY := Lib.hid hy
        clear hx hy
        by_cases hxy : x = y
        · subst hxy
          have hb : ((x : Int) != (x : Int)) = false := by simp
          go_wp2_with fail
          go_quiet (fail)
          go_wp2
          go_roundw
          case rel =>
            refine ⟨j + 1, by omega, by go_num, ?_, _, rfl⟩
            rw [List.take_add_one, List.take_add_one, HX.out, HY.out, HSAME.out]
          case measure => simp [intOf]; omega
        · have hb : ((x : Int) != (y : Int)) = true := by simp; omega
          have HNE : Hid (decide (l = r) = false) := decide_eq_false (fun e => hxy (by have h1 := HX.out; rw [e, HY.out] at h1; exact (Option.some.inj h1).symm))
          clear hxy
          go_wp2_with fail
          go_quiet (fail)
          go_wp2
          go_ret
          refine ⟨by rw [HNE.out]; rfl, ?_⟩
          first | exact ⟨_, rfl⟩ | exact ⟨_, World.drewN_drewN _ _ _⟩ | (rw [World.drewN_drewN]; exact ⟨_, rfl⟩)
      · obtain rfl : j = n := by omega
        have HE : Hid (decide (l = r) = true) := decide_eq_true (by
          have h := HSAME.out
          rwa [List.take_of_length_le (Nat.le_of_eq HLL.out), List.take_of_length_le (Nat.le_of_eq HRL.out)] at h)
        go_wp2
        go_ret
        exact ⟨by rw [HE.out]; rfl, _, rfl⟩
  · have HNE : Hid (decide (l = r) = false) := decide_eq_false (fun e => hnm (by rw [← HLL.out, ← HRL.out, e]))
    have hb : ((n : Int) != (m : Int)) = true := by simp; omega
    go_enter Tryd.func14, Tryd.ntmps14
    go_wp2
    go_ret
    exact ⟨by rw [HNE.out]; rfl, nodraw _⟩

/-- Two slices of words, held against each other. -/
theorem words_equal {w : World} {A B : Option Addr} {n c m k : Nat} {l r : List Nat} (hl : IsWords w (.slice A n c) l) (hr : IsWords w (.slice B m k) r) :
    Calls Tryd.prog 48 #[.slice A n c, .slice B m k] w fun e w' => e = .returned (.bool (decide (l = r))) ∧ ∃ m, w' = w.drewN m := by
  obtain ⟨hll, hlc, hlm⟩ := hl.len
  obtain ⟨hrl, hrc, hrm⟩ := hr.len
  unfold maxLen at hlm hrm
  have HL := Lib.hid hl; have HR := Lib.hid hr
  have HLL := Lib.hid hll; have HRL := Lib.hid hrl
  clear hl hr hll hrl
  by_cases hnm : n = m
  · subst hnm
    go_enter Tryd.func48, Tryd.ntmps48
    go_wp2_with fail
    go_loopw [13] (fun x wr => ∃ j : Nat, j ≤ n ∧ x = .int .i64 j ∧ l.take j = r.take j ∧ ∃ n, wr = w.drewN n) (fun x _ => n - (intOf x).toNat)
    case atStart => exact ⟨0, by omega, rfl, rfl, nodraw _⟩
    case round =>
      obtain ⟨j, hj, rfl, hsame, u, rfl⟩ := hrel
      have HSAME := Lib.hid hsame
      clear hsame
      by_cases hlt : j < n
      · obtain ⟨b1, o1, x, rfl, hx, hx2, hc1⟩ := HL.out.get j hlt
        obtain ⟨b2, o2, y, rfl, hy, hy2, hc2⟩ := HR.out.get j hlt
        have HX := Lib.hid hx; have HY := Lib.hid hy
        clear hx hy
        by_cases hxy : x = y
        · subst hxy
          have hb : ((x : Int) != (x : Int)) = false := by simp
          go_wp2_with fail
          go_quiet (fail)
          go_wp2
          go_roundw
          case rel =>
            refine ⟨j + 1, by omega, by go_num, ?_, _, rfl⟩
            rw [List.take_add_one, List.take_add_one, HX.out, HY.out, HSAME.out]
          case measure => simp [intOf]; omega
        · have hb : ((x : Int) != (y : Int)) = true := by simp; omega
          have HNE : Hid (decide (l = r) = false) := decide_eq_false (fun e => hxy (by have h1 := HX.out; rw [e, HY.out] at h1; exact (Option.some.inj h1).symm))
          clear hxy
          go_wp2_with fail
          go_quiet (fail)
          go_wp2
          go_ret
          refine ⟨by rw [HNE.out]; rfl, ?_⟩
          first | exact ⟨_, rfl⟩ | exact ⟨_, World.drewN_drewN _ _ _⟩ | (rw [World.drewN_drewN]; exact ⟨_, rfl⟩)
      · obtain rfl : j = n := by omega
        have HE : Hid (decide (l = r) = true) := decide_eq_true (by
          have h := HSAME.out
          rwa [List.take_of_length_le (Nat.le_of_eq HLL.out), List.take_of_length_le (Nat.le_of_eq HRL.out)] at h)
        go_wp2
        go_ret
        exact ⟨by rw [HE.out]; rfl, _, rfl⟩
  · have HNE : Hid (decide (l = r) = false) := decide_eq_false (fun e => hnm (by rw [← HLL.out, ← HRL.out, e]))
    have hb : ((n : Int) != (m : Int)) = true := by simp; omega
    go_enter Tryd.func48, Tryd.ntmps48
    go_wp2
    go_ret
    exact ⟨by rw [HNE.out]; rfl, nodraw _⟩
end Go.Proofs.YtmelmiookkeoaaaDoor
