/- The walk of SureAlone: whatever is handed in, the call answers true, and what was there stays. -/
import Derived.Test.YtccdmcidfnmnjaaSuT
namespace Go.Proofs.Ytccdmcidfnmnjaa
open Go.RowKit

section
variable {w0 wr : World} {v1 v2 : Value} {d d' o : V.Dv}
/-- A call on the first one, behind a block that is new: that block stays. -/
theorem Both.runN {W1 : World} (h : Both w0 v1 d v2 o wr) (hnb : Below wr.heap.size wr W1) (g : Nat) (hg : wr.heap.size ≤ g) (ob : Obj) (hob : W1.heap[g]? = some ob) {f : FuncId} {args : Array Value} {R : Ending → Prop} (hc : ∀ F, Dev W1 v1 d F → Calls Try.prog f args W1 fun e w' => R e ∧ DevStep W1 v1 d' F w') :
    Calls Try.prog f args W1 fun e w' => R e ∧ Both w0 v1 d' v2 o w' ∧ w'.heap[g]? = some ob := by
  have hn := h.newer hnb
  obtain ⟨F1, F2, h1, h2, h3, h4, h5, h6⟩ := h
  have k1 := h1.only (Only.of_below (F := []) hnb) (fun k hk => by simp at hk)
  have k2 := h2.only (Only.of_below (F := []) hnb) (fun k hk => by simp at hk)
  refine (hc F1 k1).mono ?_
  rintro e w' ⟨hR, F', j1, j2, j3⟩
  refine ⟨hR, ⟨F', F2, j1, k2.only j2 h6, fun k hk => ?_, h4, hn.below.trans (j2.below hn.below.size h3), fun k hk hk2 => ?_⟩, ?_⟩
  · rcases j3 k hk with e | e
    · exact h3 k e
    · have := h5.size; have := hnb.size; omega
  · rcases j3 k hk with e | e
    · exact h6 k e hk2
    · have := h2.lt k hk2; have := hnb.size; omega
  · exact (j2.block g (Array.getElem?_eq_some_iff.1 hob).1 (fun hf => by have := h1.lt _ hf; omega)).trans hob
end
abbrev five : Obj := .cells #[.int .u64 5] 33
theorem five_words {w : World} {g : Nat} (h : w.heap[g]? = some five) : IsWords w (.slice (some ⟨g, 0, none⟩) 1 1) [5] := isWords_block (l := [5]) h (by decide) (by decide)
set_option maxHeartbeats 2000000 in
set_option maxRecDepth 100000 in
theorem sureAlone_walk (A : Option Addr) (len cap : Nat) (B : Option Addr) (m c2 : Nat) (off many q0 : Int) (zs : List Int) (w : World) (h0 : IsInts .u64 w (.slice A len cap) zs) (h1 : (Lit.int .i64 off).wf = true) (h2 : (Lit.int .u8 q0).wf = true) :
    Calls Try.prog 6 #[.agg #[.slice A len cap, .slice B m c2, .int .i64 off, .int .i64 many, .int .u8 q0]] w fun e w' => e = .returned (.bool true) ∧ Below w.heap.size w w' := by
  obtain ⟨q, rfl, hq⟩ := su_u8 h2
  have hoff := su_i64 h1
  obtain ⟨hw, hn⟩ := words_in h0
  obtain ⟨hlen, hlc, hlm⟩ := hw.len
  clear h0 h1 h2
  generalize zs.map Int.toNat = l at *
  unfold maxLen at hlm
  obtain ⟨ob, hob⟩ : ∃ ob, ob = Obj.cells #[.slice A len cap, .slice B m c2, .int .i64 off, .int .i64 many, .int .u8 (q : Int)] 70 := ⟨_, rfl⟩
  have HX : Hid (∀ W, Below (w.alloc ob).heap.size (w.alloc ob) W → W.cell? ⟨w.heap.size, 0, none⟩ = some (.slice A len cap) ∧ W.cell? ⟨w.heap.size, 2, none⟩ = some (.int .i64 off) ∧ W.cell? ⟨w.heap.size, 4, none⟩ = some (.int .u8 (q : Int)) ∧ Below w.heap.size w W) := by
    intro W hb
    have hx : W.heap[w.heap.size]? = some ob := (hb.block w.heap.size (by simp)).trans (heap_alloc_new w ob)
    rw [hob] at hx
    exact ⟨cell_of_row W _ 0 _ _ _ hx, cell_of_row W _ 2 _ _ _ hx, cell_of_row W _ 4 _ _ _ hx, ((Below.refl _ _).alloc (Nat.le_refl _) ob).trans (hb.mono (by simp))⟩
  have HW0 : Hid (IsWords (w.alloc ob) (.slice A len cap) l) := hw.below ((Below.refl _ _).alloc (Nat.le_refl _) ob)
  have HN := Lib.hid hn
  have HOB := Lib.hid hob
  by_cases h80 : 80 < len
  · clear hw hn hlen hob
    go_enter Try.func6, Try.ntmps6
    go_wp2_with fail
    rw [← HOB.out]
    refine (alive4_any _).mono ?_
    rintro e w1 ⟨rfl, hb1⟩
    obtain ⟨c0, _, _, hb⟩ := HX.out w1 hb1
    have HB1 := Lib.hid hb
    clear hb hb1
    go_wp2
    go_ret
    exact ⟨rfl, HB1.out⟩
  · have hst : (V.twoDv l q).steps ≤ 80 := by
      show ((V.stored l l.length).stop (q : Int)).steps ≤ _
      rw [V.stop_steps]
      have := V.stored_steps l l.length
      omega
    clear hw hn hlen hob
    by_cases hx : 0 ≤ off ∧ off % 8 = 0 ∧ off ≤ 504
    · obtain ⟨hx0, hx1, hx2⟩ := hx
      have hb8 : (off % 8 == 0) = true := by simpa using hx1
      have HX8 := Lib.hid hx1
      have HOFF := Lib.hid hoff
      have HTW := Lib.hid (fun W hb => two_any (w0 := w.alloc ob) W hb A len cap l HW0.out HN.out (by omega) q hq)
      have hd8 := V.twoDv_len l q
      clear hx1 hoff
      generalize V.twoDv l q = d at *
      have HE1 := Lib.hid (V.alone_one (d := d) 5 hx0 HX8.out (by rw [hd8]; omega))
      have hst1 : (d.put off 5).1.steps ≤ 100 := Nat.le_trans (V.runL_steps _ _) (by simp; omega)
      have hd81 : (d.put off 5).1.lines.length = 8 := (V.runL_len _ _).trans hd8
      have HPa : Hid (∀ W D1 D2, Both (w.alloc ob) (.pointer (some ⟨D1, 0, none⟩)) d (.pointer (some ⟨D2, 0, none⟩)) d W → Calls Try.prog 37 #[.pointer (some ⟨D1, 0, none⟩), .int .i64 off, .int .u64 5] W fun e w' => e = .returned (.int .i64 (d.put off 5).2) ∧ Both (w.alloc ob) (.pointer (some ⟨D1, 0, none⟩)) (d.put off 5).1 (.pointer (some ⟨D2, 0, none⟩)) d w') := (fun W D1 D2 h => h.run (fun F hF => su_put hF off HOFF.out 5 (by decide) (by omega)))
      have HPb : Hid (∀ W W1 D1 D2 g, Both (w.alloc ob) (.pointer (some ⟨D1, 0, none⟩)) d (.pointer (some ⟨D2, 0, none⟩)) d W → Below W.heap.size W W1 → W.heap.size ≤ g → W1.heap[g]? = some five → Calls Try.prog 37 #[.pointer (some ⟨D1, 0, none⟩), .int .i64 off, .int .u64 5] W1 fun e w' => e = .returned (.int .i64 (d.put off 5).2) ∧ Both (w.alloc ob) (.pointer (some ⟨D1, 0, none⟩)) (d.put off 5).1 (.pointer (some ⟨D2, 0, none⟩)) d w' ∧ w'.heap[g]? = some five) := fun W W1 D1 D2 g h h1 h2 h3 => h.runN h1 g h2 five h3 (fun F hF => su_put hF off HOFF.out 5 (by decide) (by omega))
      have HQ : Hid (∀ W D1 D2 g, Both (w.alloc ob) (.pointer (some ⟨D1, 0, none⟩)) (d.put off 5).1 (.pointer (some ⟨D2, 0, none⟩)) d W → W.heap[g]? = some five → Calls Try.prog 33 #[.pointer (some ⟨D2, 0, none⟩), .int .i64 off, .slice (some ⟨g, 0, none⟩) 1 1] W fun e w' => e = .returned (.int .i64 (d.put off 5).2) ∧ Both (w.alloc ob) (.pointer (some ⟨D2, 0, none⟩)) (d.put off 5).1 (.pointer (some ⟨D1, 0, none⟩)) (d.put off 5).1 w') := by
        intro W D1 D2 g h hg
        have h1 := h.swap.run (fun F hF => su_putAll hF off HOFF.out (some ⟨g, 0, none⟩) 1 1 [5] (five_words hg) (by omega))
        rw [HE1.out] at h1
        exact h1
      have HE2 := Lib.hid (V.alone_none (d := (d.put off 5).1) hx0 HX8.out (by rw [hd81]; omega))
      have HD8 := Lib.hid hd8
      have HD81 := Lib.hid hd81
      clear hd8 hd81
      generalize d.put off 5 = r at *
      obtain ⟨d1, er⟩ := r
      dsimp only at *
      go_enter Try.func6, Try.ntmps6
      go_wp2_with fail
      rw [← HOB.out]
      refine (alive4_any _).mono ?_
      rintro e w1 ⟨rfl, hb1⟩
      obtain ⟨c0, c2', c4, _⟩ := HX.out w1 hb1
      have HT1 := Lib.hid (HTW.out w1 hb1)
      clear hb1
      go_wp2_with fail
      refine HT1.out.mono ?_
      rintro e w2 ⟨D1, D2, rfl, hd2⟩
      have HD2 := Lib.hid hd2
      clear hd2 c0 c2' c4
      obtain ⟨c0, c2', c4, _⟩ := HX.out w2 HD2.out.below
      have HDd : Hid (Both (w.alloc ob) (.pointer (some ⟨D1, 0, none⟩)) d (.pointer (some ⟨D2, 0, none⟩)) d w2.drew) := HD2.out.drewN 1
      have c2a : (w2.alloc (.cells #[.int .u64 5] 33)).cell? ⟨w.heap.size, 2, none⟩ = some (.int .i64 off) := (HX.out _ (HD2.out.newer ((Below.refl _ _).alloc (Nat.le_refl _) _)).below).2.1
      go_upto_region 11 with fail
      go_cut [6, 7] (fun s t wx => s = .int .i64 er ∧ t = .int .i64 er ∧ Hid (Both (w.alloc ob) (.pointer (some ⟨D1, 0, none⟩)) d1 (.pointer (some ⟨D2, 0, none⟩)) d1 wx))
      case first =>
        go_region_with (first
          | (go_at_call 37; first
              | ((with_reducible refine (HPa.out _ _ _ HDd.out).mono ?_); rintro e w3 ⟨rfl, h3⟩; have HD3 := Lib.hid h3; have c3 := (HX.out w3 h3.below).2.1; have c3a := (HX.out (w3.alloc (.cells #[.int .u64 5] 33)) (h3.newer ((Below.refl _ _).alloc (Nat.le_refl _) _)).below).2.1; clear h3)
              | (go_loud (refine (HPb.out w2 ((w2.alloc (.cells #[.int .u64 5] 33)).drew) D1 D2 w2.heap.size HD2.out ((Below.refl _ _).alloc (Nat.le_refl _) _).drew (Nat.le_refl _) (heap_alloc_new w2 _)).mono ?_); rintro e w3 ⟨rfl, h3, h3b⟩; have HD3 := Lib.hid h3; have H3B := Lib.hid h3b; have c3 := (HX.out w3 h3.below).2.1; have c3a := (HX.out (w3.alloc (.cells #[.int .u64 5] 33)) (h3.newer ((Below.refl _ _).alloc (Nat.le_refl _) _)).below).2.1; clear h3 h3b))
          | (go_at_call 33; first
              | ((with_reducible refine (HQ.out _ _ _ _ HD3.out H3B.out).mono ?_); rintro e w4 ⟨rfl, h4⟩; have HD4 := Lib.hid h4.swap; clear h4)
              | (go_loud (refine (HQ.out _ _ _ _ (HD3.out.newer ((Below.refl _ _).alloc (Nat.le_refl _) five)) (heap_alloc_new _ _)).mono ?_; rintro e w4 ⟨rfl, h4⟩; have HD4 := Lib.hid h4.swap; clear h4))))
        all_goals (go_wp2_with fail; go_meet; exact ⟨rfl, rfl, HD4⟩)
      case rest =>
        obtain ⟨rfl, rfl, HT3⟩ := hcut
        have hbe : ((er : Int) != (er : Int)) = false := by simp
        have hbs : ((d1.state : Int) == (d1.state : Int)) = true := by simp
        have hst2 : d1.fence.steps ≤ 1000 := Nat.le_trans (V.St.steps .fence d1) (by omega)
        have HPN : Hid (∀ W D1 D2, Both (w.alloc ob) (.pointer (some ⟨D1, 0, none⟩)) d1 (.pointer (some ⟨D2, 0, none⟩)) d1 W → Calls Try.prog 33 #[.pointer (some ⟨D1, 0, none⟩), .int .i64 off, .slice none 0 0] W fun e w' => e = .returned (.int .i64 d1.state) ∧ Both (w.alloc ob) (.pointer (some ⟨D1, 0, none⟩)) d1.fence (.pointer (some ⟨D2, 0, none⟩)) d1 w') := by
          intro W D1 D2 h
          have h1 := h.run (fun F hF => su_putAll hF off HOFF.out none 0 0 [] (IsInts.nil _ _) (by omega))
          rw [HE2.out] at h1
          exact h1
        have HFN : Hid (∀ W D1 D2, Both (w.alloc ob) (.pointer (some ⟨D1, 0, none⟩)) d1.fence (.pointer (some ⟨D2, 0, none⟩)) d1 W → Calls Try.prog 15 #[.pointer (some ⟨D2, 0, none⟩)] W fun e w' => e = .returned (.int .i64 d1.state) ∧ Both (w.alloc ob) (.pointer (some ⟨D2, 0, none⟩)) d1.fence (.pointer (some ⟨D1, 0, none⟩)) d1.fence w') := fun W D1 D2 h => h.swap.run (fun F hF => dev_fence hF (by omega))
        have HSA := Lib.hid (fun W D1 D2 (h : Both (w.alloc ob) (.pointer (some ⟨D1, 0, none⟩)) d1 (.pointer (some ⟨D2, 0, none⟩)) d1 W) => same_any W h (by omega))
        have HSB := Lib.hid (fun W D1 D2 (h : Both (w.alloc ob) (.pointer (some ⟨D1, 0, none⟩)) d1.fence (.pointer (some ⟨D2, 0, none⟩)) d1.fence W) => same_any W h (by omega))
        clear HE2 HD81 hst2
        generalize d1.fence = d3 at *
        generalize d1.state = s3 at *
        go_wp2_with fail
        refine (HSA.out _ _ _ HT3.out).mono ?_
        rintro e w4 ⟨rfl, h4⟩
        have HT4 := Lib.hid h4
        clear h4
        obtain ⟨_, c2b, _, _⟩ := HX.out w4 HT4.out.below
        go_wp2_with fail
        refine (HPN.out _ _ _ HT4.out).mono ?_
        rintro e w5 ⟨rfl, h5⟩
        have HT5 := Lib.hid h5
        clear h5
        go_wp2_with fail
        refine (HFN.out _ _ _ HT5.out).mono ?_
        rintro e w6 ⟨rfl, h6⟩
        have HT6 := Lib.hid h6.swap
        clear h6
        go_wp2_with fail
        refine (HSB.out _ _ _ HT6.out).mono ?_
        rintro e w7 ⟨rfl, h7⟩
        have HB7 := Lib.hid (HX.out w7 h7.below).2.2.2
        clear h7
        go_wp2
        go_ret
        exact ⟨rfl, HB7.out⟩
    · have hd8 := V.twoDv_len l q
      have HOFF := Lib.hid hoff
      have HTW := Lib.hid (fun W hb => two_any (w0 := w.alloc ob) W hb A len cap l HW0.out HN.out (by omega) q hq)
      generalize V.twoDv l q = d at *
      obtain ⟨hw1, hw2⟩ := V.alone_wrong (d := d) (off := off) 5 (fun h => hx ⟨h.1, h.2.1, by rw [hd8] at h; omega⟩)
      have HPa : Hid (∀ W D1 D2, Both (w.alloc ob) (.pointer (some ⟨D1, 0, none⟩)) d (.pointer (some ⟨D2, 0, none⟩)) d W → Calls Try.prog 37 #[.pointer (some ⟨D1, 0, none⟩), .int .i64 off, .int .u64 5] W fun e w' => e = .returned (.int .i64 (d.put off 5).2) ∧ Both (w.alloc ob) (.pointer (some ⟨D1, 0, none⟩)) (d.put off 5).1 (.pointer (some ⟨D2, 0, none⟩)) d w') := (fun W D1 D2 h => h.run (fun F hF => su_put hF off HOFF.out 5 (by decide) (by omega)))
      have HQ : Hid (∀ W D1 D2 g, Both (w.alloc ob) (.pointer (some ⟨D1, 0, none⟩)) (d.put off 5).1 (.pointer (some ⟨D2, 0, none⟩)) d W → W.heap[g]? = some five → Calls Try.prog 33 #[.pointer (some ⟨D2, 0, none⟩), .int .i64 off, .slice (some ⟨g, 0, none⟩) 1 1] W fun e w' => e = .returned (.int .i64 4) ∧ Below (w.alloc ob).heap.size (w.alloc ob) w') := by
        intro W D1 D2 g h hg
        have h1 := h.swap.run (fun F hF => su_putAll hF off HOFF.out (some ⟨g, 0, none⟩) 1 1 [5] (five_words hg) (by omega))
        rw [hw2] at h1
        exact h1.mono fun e w' ⟨a, b⟩ => ⟨a, b.below⟩
      have hbe : ((d.put off 5).2 != 0) = true := by simpa using hw1
      clear hw1 hw2 hd8
      generalize d.put off 5 = r at *
      obtain ⟨d1, er⟩ := r
      dsimp only at *
      have hx2 : off < 0 ∨ (0 ≤ off ∧ off % 8 ≠ 0) ∨ (0 ≤ off ∧ off % 8 = 0 ∧ 504 < off) := by omega
      clear hx hoff
      rcases hx2 with hx | ⟨hx, hx8⟩ | ⟨hx, hx8, hx9⟩
      ·
        go_enter Try.func6, Try.ntmps6
        go_wp2_with fail
        rw [← HOB.out]
        refine (alive4_any _).mono ?_
        rintro e w1 ⟨rfl, hb1⟩
        obtain ⟨c0, c2', c4, _⟩ := HX.out w1 hb1
        have HT1 := Lib.hid (HTW.out w1 hb1)
        clear hb1
        go_wp2_with fail
        refine HT1.out.mono ?_
        rintro e w2 ⟨D1, D2, rfl, hd2⟩
        have HD2 := Lib.hid hd2
        clear hd2 c0 c2' c4
        obtain ⟨c0, c2', c4, _⟩ := HX.out w2 HD2.out.below
        go_wp2_with fail
        refine (HPa.out w2 D1 D2 HD2.out).mono ?_
        rintro e w3 ⟨rfl, h3⟩
        have HD3 := Lib.hid h3
        clear h3 c0 c2' c4
        obtain ⟨c0, c2', c4, _⟩ := HX.out w3 HD3.out.below
        go_wp2_with fail
        refine (HQ.out _ _ _ _ (HD3.out.newer ((Below.refl _ _).alloc (Nat.le_refl _) five)) (heap_alloc_new _ _)).mono ?_
        rintro e w4 ⟨rfl, h4⟩
        have HB4 := Lib.hid (HX.out w4 h4).2.2.2
        clear h4
        go_wp2
        go_ret
        exact ⟨rfl, HB4.out⟩
      ·
        have hb8 : (off % 8 == 0) = false := by simpa using hx8
        clear hx8
        go_enter Try.func6, Try.ntmps6
        go_wp2_with fail
        rw [← HOB.out]
        refine (alive4_any _).mono ?_
        rintro e w1 ⟨rfl, hb1⟩
        obtain ⟨c0, c2', c4, _⟩ := HX.out w1 hb1
        have HT1 := Lib.hid (HTW.out w1 hb1)
        clear hb1
        go_wp2_with fail
        refine HT1.out.mono ?_
        rintro e w2 ⟨D1, D2, rfl, hd2⟩
        have HD2 := Lib.hid hd2
        clear hd2 c0 c2' c4
        obtain ⟨c0, c2', c4, _⟩ := HX.out w2 HD2.out.below
        go_wp2_with fail
        refine (HPa.out w2 D1 D2 HD2.out).mono ?_
        rintro e w3 ⟨rfl, h3⟩
        have HD3 := Lib.hid h3
        clear h3 c0 c2' c4
        obtain ⟨c0, c2', c4, _⟩ := HX.out w3 HD3.out.below
        go_wp2_with fail
        refine (HQ.out _ _ _ _ (HD3.out.newer ((Below.refl _ _).alloc (Nat.le_refl _) five)) (heap_alloc_new _ _)).mono ?_
        rintro e w4 ⟨rfl, h4⟩
        have HB4 := Lib.hid (HX.out w4 h4).2.2.2
        clear h4
        go_wp2
        go_ret
        exact ⟨rfl, HB4.out⟩
      ·
        have hb8 : (off % 8 == 0) = true := by simpa using hx8
        have hx10 : decide (off ≤ 504) = false := by simp; omega
        have HX9 := Lib.hid hx9
        clear hx8 hx9
        go_enter Try.func6, Try.ntmps6
        go_wp2_with fail
        rw [← HOB.out]
        refine (alive4_any _).mono ?_
        rintro e w1 ⟨rfl, hb1⟩
        obtain ⟨c0, c2', c4, _⟩ := HX.out w1 hb1
        have HT1 := Lib.hid (HTW.out w1 hb1)
        clear hb1
        go_wp2_with fail
        refine HT1.out.mono ?_
        rintro e w2 ⟨D1, D2, rfl, hd2⟩
        have HD2 := Lib.hid hd2
        clear hd2 c0 c2' c4
        obtain ⟨c0, c2', c4, _⟩ := HX.out w2 HD2.out.below
        go_wp2_with fail
        refine (HPa.out w2 D1 D2 HD2.out).mono ?_
        rintro e w3 ⟨rfl, h3⟩
        have HD3 := Lib.hid h3
        clear h3 c0 c2' c4
        obtain ⟨c0, c2', c4, _⟩ := HX.out w3 HD3.out.below
        go_wp2_with fail
        refine (HQ.out _ _ _ _ (HD3.out.newer ((Below.refl _ _).alloc (Nat.le_refl _) five)) (heap_alloc_new _ _)).mono ?_
        rintro e w4 ⟨rfl, h4⟩
        have HB4 := Lib.hid (HX.out w4 h4).2.2.2
        clear h4
        go_wp2
        go_ret
        exact ⟨rfl, HB4.out⟩
end Go.Proofs.Ytccdmcidfnmnjaa
