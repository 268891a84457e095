
/- Layer 5: the statements' own 'alive' answers true. -/
import Derived.Test.YtmelmiookkeoaaaDoorHdN

namespace Go.Proofs.YtmelmiookkeoaaaDoor

open Go.RowKit

theorem of19 : V.Sh.of 19 = ⟨19, 1, 128, 192⟩ ∧ V.isSh 19 = true := by decide
theorem of18 : V.Sh.of 18 = ⟨0, 0, 0, 0⟩ ∧ V.isSh 18 = false := by decide
theorem at40 : V.Sh.at 40 = ⟨40, 2, 128, 192⟩ := by decide
theorem f40 : (V.newDv 40).format.2.1 = 0 ∧ (V.newDv 40).format.2.2 = ⟨40, 2, 128, 192⟩ ∧ (V.newDv 40).format.1.left ≠ 0 ∧ (V.newDv 40).format.1.opens = (⟨40, 2, 128, 192⟩, 0) := by
  have hg := V.newDv_good (n := 40) (by decide) (by decide)
  have hn : (V.newDv 40).lines.length = 40 := V.newDv_len 40
  have h1 := V.format_goes hg (by rw [hn]; decide) (show (V.newDv 40).left < 0 by decide)
  have h2 := V.format_done hg h1.1
  have hl := V.format_len (V.newDv 40)
  have hleft : (V.newDv 40).format.1.left ≠ 0 := by have := h1.2; omega
  refine ⟨h1.1, by rw [h2.2.1, hn, at40], hleft, ?_⟩
  have := V.opens_yes (d := (V.newDv 40).format.1) (by rw [hl, hn]; decide) hleft (by rw [hl]; exact h2.2.2.1)
  rw [this, hl, hn, at40]
theorem n40 : (V.newDv 40).opens = (⟨0, 0, 0, 0⟩, 5) ∧ (V.newDv 40).left ≠ 0 := by
  refine ⟨if_neg (fun h => ?_), by decide⟩
  have hw := V.words_eq (d := V.newDv 40) (off := 0) (k := 8) (V.room_zero.2 ⟨by decide, by decide, by decide, by rw [V.newDv_len]; decide⟩) (by decide) 0 (by decide)
  rw [h.2, V.newDv_word] at hw
  have h3 : (V.wrds (V.newDv 40).lines.length)[0]? = some 465675318387 := rfl
  rw [h3] at hw
  exact absurd (Option.some.inj hw) (by decide)
set_option maxHeartbeats 1000000 in
set_option maxRecDepth 100000 in
theorem alive5_any (w : World) (hT : TabT w) (hg : 0 < w.heap.size) : Calls Tryd.prog 11 #[] w fun e w' => e = .returned (.bool true) ∧ Below w.heap.size w w' := by
  have HOF19 : Hid (∀ w : World, Calls Tryd.prog 12 #[.int .i64 19] w fun e w' => e = .returned (.tuple #[.agg #[.int .i64 19, .int .i64 1, .int .i64 128, .int .i64 192], .bool true]) ∧ Below w.heap.size w w') := by
    intro w
    have h := hd_of w 19 ⟨by decide, by decide⟩
    rw [of19.1, of19.2] at h
    exact h
  have HOF18 : Hid (∀ w : World, Calls Tryd.prog 12 #[.int .i64 18] w fun e w' => e = .returned (.tuple #[.agg #[.int .i64 0, .int .i64 0, .int .i64 0, .int .i64 0], .bool false]) ∧ Below w.heap.size w w') := by
    intro w
    have h := hd_of w 18 ⟨by decide, by decide⟩
    rw [of18.1, of18.2] at h
    exact h
  have HT := Lib.hid hT
  have HG := Lib.hid hg
  clear hT hg
  have HAL : Hid (∀ w1, Below w.heap.size w w1 → ∀ o, Below w.heap.size w (w1.alloc o)) := fun w1 h o => h.alloc h.size o
  go_enter Tryd.func11, Tryd.ntmps11
  go_wp2_with fail
  refine (HOF19.out _).mono ?_
  rintro e w1 ⟨rfl, hb⟩
  have HB1 := Lib.hid hb
  clear hb
  go_wp2_with fail
  refine (HOF18.out _).mono ?_
  rintro e w2 ⟨rfl, hb⟩
  have HB2 : Hid (Below w.heap.size w w2) := (HAL.out _ HB1.out _).trans (hb.mono (HAL.out _ HB1.out _).size)
  have HR1 : Hid (w2.heap[w1.heap.size]? = some (.cells #[.int .i64 19, .int .i64 1, .int .i64 128, .int .i64 192] 25 (0, 0))) := (hb.block _ (by simp)).trans (heap_alloc_new w1 _)
  clear hb
  go_wp2_with fail
  have HT3 : Hid (∀ o, TabT (w2.alloc o)) := fun o => HT.out.below (HAL.out _ HB2.out o) HG.out
  have HG3 : Hid (∀ o, 0 < (w2.alloc o).heap.size) := fun o => Nat.lt_of_lt_of_le HG.out (HAL.out _ HB2.out o).size
  have HB3 : Hid (∀ o, Below w.heap.size w (w2.alloc o)) := HAL.out _ HB2.out
  have HR13 : Hid (∀ o, (w2.alloc o).heap[w1.heap.size]? = some (.cells #[.int .i64 19, .int .i64 1, .int .i64 128, .int .i64 192] 25 (0, 0))) := fun o => by
    have h := HR1.out
    exact (Below.heap_alloc _ _ _ (Array.getElem?_eq_some_iff.1 h).1).trans h
  refine (in_new 40 (by decide) (by decide) (w2.alloc _) (w2.alloc _) (Below.refl _ _)).mono ?_
  rintro e w4 ⟨D, rfl, hd⟩
  have HD4 := Lib.hid hd
  have HFM : Hid (Calls Tryd.prog 19 #[.pointer (some ⟨D, 0, none⟩)] w4 fun e w' => e = .returned (.tuple #[.agg #[.int .i64 40, .int .i64 2, .int .i64 128, .int .i64 192], .int .i64 0]) ∧ DevIn (w2.alloc (.cells #[.int .i64 0, .int .i64 0, .int .i64 0, .int .i64 0] 25 (0, 0))) (.pointer (some ⟨D, 0, none⟩)) (V.newDv 40).format.1 w') := by
    have h := in_format HD4.out (by decide) (HT3.out _) (HG3.out _)
    rw [f40.1, f40.2.1] at h
    exact h
  clear hd
  go_wp2_with fail
  refine HFM.out.mono ?_
  rintro e w5 ⟨rfl, hd5⟩
  have HB5 := Lib.hid hd5.below
  have HR15 : Hid (w5.heap[w1.heap.size]? = some (.cells #[.int .i64 19, .int .i64 1, .int .i64 128, .int .i64 192] 25 (0, 0))) := by
    have h := HR13.out (.cells #[.int .i64 0, .int .i64 0, .int .i64 0, .int .i64 0] 25 (0, 0))
    exact (hd5.below.block _ (Array.getElem?_eq_some_iff.1 h).1).trans h
  have HOPN : Hid (∀ o, Calls Tryd.prog 23 #[.pointer (some ⟨D, 0, none⟩)] (w5.alloc o) fun e w' => e = .returned (.tuple #[.agg #[.int .i64 40, .int .i64 2, .int .i64 128, .int .i64 192], .int .i64 0]) ∧ Below (w5.alloc o).heap.size (w5.alloc o) w') := by
    intro o
    have h := in_open (hd5.alloc o) f40.2.2.1 (HT3.out _) (HG3.out _)
    rw [f40.2.2.2] at h
    exact h.mono fun e w' ⟨a, _, b⟩ => ⟨a, b⟩
  clear hd5 HD4 HFM
  go_wp2_with fail
  refine (HOPN.out _).mono ?_
  rintro e w6 ⟨rfl, hb6⟩
  have hlt6 : w5.heap.size < (w5.alloc (.cells #[.int .i64 40, .int .i64 2, .int .i64 128, .int .i64 192] 25 (0, 0))).heap.size := by simp
  have HR66 : Hid (w6.heap[w5.heap.size]? = some (.cells #[.int .i64 40, .int .i64 2, .int .i64 128, .int .i64 192] 25 (0, 0))) := (hb6.block _ hlt6).trans (heap_alloc_new w5 _)
  have HR16 : Hid (w6.heap[w1.heap.size]? = some (.cells #[.int .i64 19, .int .i64 1, .int .i64 128, .int .i64 192] 25 (0, 0))) := by
    have h := HR15.out
    have hl := (Array.getElem?_eq_some_iff.1 h).1
    exact (hb6.block _ (Nat.lt_trans hl hlt6)).trans ((Below.heap_alloc _ _ _ hl).trans h)
  have HB6 : Hid (Below w.heap.size w w6) := by
    have h := (HB3.out _).trans (HB5.out.mono (HB3.out _).size)
    have h2 := h.alloc h.size (.cells #[.int .i64 40, .int .i64 2, .int .i64 128, .int .i64 192] 25 (0, 0))
    exact h2.trans (hb6.mono h2.size)
  have HT7 : Hid (∀ o, TabT (w6.alloc o)) := fun o => HT.out.below (HAL.out _ HB6.out o) HG.out
  have HG7 : Hid (∀ o, 0 < (w6.alloc o).heap.size) := fun o => Nat.lt_of_lt_of_le HG.out (HAL.out _ HB6.out o).size
  clear hb6 hlt6
  go_wp2_with fail
  refine (in_new 40 (by decide) (by decide) (w6.alloc _) (w6.alloc _) (Below.refl _ _)).mono ?_
  rintro e w8 ⟨D2, rfl, hd⟩
  have HOPN2 : Hid (Calls Tryd.prog 23 #[.pointer (some ⟨D2, 0, none⟩)] w8 fun e w' => e = .returned (.tuple #[.agg #[.int .i64 0, .int .i64 0, .int .i64 0, .int .i64 0], .int .i64 5]) ∧ DevIn (w6.alloc (.cells #[.int .i64 40, .int .i64 2, .int .i64 128, .int .i64 192] 25 (0, 0))) (.pointer (some ⟨D2, 0, none⟩)) (V.newDv 40) w') := by
    have h := in_open hd n40.2 (HT7.out _) (HG7.out _)
    rw [n40.1] at h
    exact h.mono fun e w' ⟨a, b, _⟩ => ⟨a, b⟩
  clear hd
  go_wp2_with fail
  refine HOPN2.out.mono ?_
  rintro e w9 ⟨rfl, hd9⟩
  have hb9 := hd9.below
  have hlt9 : w6.heap.size < (w6.alloc (.cells #[.int .i64 40, .int .i64 2, .int .i64 128, .int .i64 192] 25 (0, 0))).heap.size := by simp
  have hr8 := (hb9.block _ hlt9).trans (heap_alloc_new w6 _)
  have hr6 : w9.heap[w5.heap.size]? = some (.cells #[.int .i64 40, .int .i64 2, .int .i64 128, .int .i64 192] 25 (0, 0)) := by
    have h := HR66.out
    have hl := (Array.getElem?_eq_some_iff.1 h).1
    exact (hb9.block _ (Nat.lt_trans hl hlt9)).trans ((Below.heap_alloc _ _ _ hl).trans h)
  have hr1 : w9.heap[w1.heap.size]? = some (.cells #[.int .i64 19, .int .i64 1, .int .i64 128, .int .i64 192] 25 (0, 0)) := by
    have h := HR16.out
    have hl := (Array.getElem?_eq_some_iff.1 h).1
    exact (hb9.block _ (Nat.lt_trans hl hlt9)).trans ((Below.heap_alloc _ _ _ hl).trans h)
  have HB9 : Hid (∀ o, Below w.heap.size w (w9.alloc o)) := fun o => by
    have h := (HAL.out _ HB6.out _).trans (hb9.mono (HAL.out _ HB6.out _).size)
    exact h.alloc h.size o
  have hk : ∀ (o : Obj) (k : Nat) (c : Obj), w9.heap[k]? = some c → (w9.alloc o).heap[k]? = some c := fun o k c h => (Below.heap_alloc _ _ _ (Array.getElem?_eq_some_iff.1 h).1).trans h
  have HWD : Hid (∀ o, Calls Tryd.prog 15 #[.agg #[.int .i64 19, .int .i64 1, .int .i64 128, .int .i64 192]] (w9.alloc o) (WordsPost (w9.alloc o) (V.wrds 19))) := by
    intro o
    have h := hd_words (w9.alloc o) (V.Sh.at 19) ⟨by decide, by decide⟩ (HT.out.below (HB9.out o) HG.out) (Nat.lt_of_lt_of_le HG.out (HB9.out o).size)
    rw [V.Sh.words_at (by decide)] at h
    exact h
  have a0 := fun o => (four' (hk o _ _ hr1)).1.1
  have a1 := fun o => (four' (hk o _ _ hr1)).1.2.1
  have a2 := fun o => (four' (hk o _ _ hr1)).1.2.2.1
  have a3 := fun o => (four' (hk o _ _ hr1)).1.2.2.2
  have b0 := fun o => (four' (hk o _ _ hr6)).1.1
  have b1 := fun o => (four' (hk o _ _ hr6)).1.2.1
  have b2 := fun o => (four' (hk o _ _ hr6)).1.2.2.1
  have b3 := fun o => (four' (hk o _ _ hr6)).1.2.2.2
  have c0 := fun o => (four' (hk o _ _ hr8)).1.1
  have c1 := fun o => (four' (hk o _ _ hr8)).1.2.1
  have c2 := fun o => (four' (hk o _ _ hr8)).1.2.2.1
  have c3 := fun o => (four' (hk o _ _ hr8)).1.2.2.2
  clear hd9 hb9 hlt9 hr8 hr6 hr1 hk
  go_wp2_with fail
  refine (HWD.out _).mono ?_
  rintro e w10 ⟨v, rfl, hv, hb10⟩
  obtain ⟨A, cap, rfl, _⟩ := hv
  rw [List.length_map, V.wrds_length]
  have HB10 : Hid (Below w.heap.size w w10) := (HB9.out _).trans (hb10.mono (HB9.out _).size)
  clear hb10
  go_wp2
  go_ret
  exact ⟨rfl, HB10.out⟩
end Go.Proofs.YtmelmiookkeoaaaDoor
