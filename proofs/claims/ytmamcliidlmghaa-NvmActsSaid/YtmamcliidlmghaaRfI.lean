/- The reference of layer 3: the contracts of Image and Right. -/
import Derived.Test.YtmamcliidlmghaaRfG
namespace Go.Proofs.Ytmamcliidlmghaa
open Go.RowKit

theorem rf_right (w : World) (n : Nat) (hn : n ≤ 140737488351232) : Calls Try.prog 7 #[.int .i64 (n : Int)] w fun e w' => e = .returned (.bool (decide (64 ≤ n ∧ n % 64 = 0 ∧ n ≤ 65536))) ∧ w = w' := by
  by_cases h0 : 64 ≤ n
  · have h0i : (64 : Int) ≤ (n : Int) := by omega
    by_cases h1 : n % 64 = 0
    · have hb : ((n : Int) % 64 == 0) = true := by
        have : (n : Int) % 64 = 0 := by omega
        simpa using this
      by_cases h2 : n ≤ 65536
      · rw [decide_eq_true (show 64 ≤ n ∧ n % 64 = 0 ∧ n ≤ 65536 from ⟨h0, h1, h2⟩)]
        have h2i : decide ((n : Int) ≤ 65536) = true := by simp; omega
        clear h1
        go_enter Try.func7, Try.ntmps7
        go_wp2
        go_ret
        exact ⟨rfl, rfl⟩
      · rw [decide_eq_false (show ¬ (64 ≤ n ∧ n % 64 = 0 ∧ n ≤ 65536) by omega)]
        have h2i : decide ((n : Int) ≤ 65536) = false := by simp; omega
        have h2j : (65536 : Int) < (n : Int) := by omega
        clear h1 h2
        go_enter Try.func7, Try.ntmps7
        go_wp2
        go_ret
        exact ⟨rfl, rfl⟩
    · rw [decide_eq_false (show ¬ (64 ≤ n ∧ n % 64 = 0 ∧ n ≤ 65536) by omega)]
      have hb : ((n : Int) % 64 == 0) = false := by
        have : ¬ (n : Int) % 64 = 0 := by omega
        simpa using this
      clear h1
      go_enter Try.func7, Try.ntmps7
      go_wp2
      go_ret
      exact ⟨rfl, rfl⟩
  · rw [decide_eq_false (show ¬ (64 ≤ n ∧ n % 64 = 0 ∧ n ≤ 65536) by omega)]
    have h0i : (n : Int) < 64 := by omega
    go_enter Try.func7, Try.ntmps7
    go_wp2
    go_ret
    exact ⟨rfl, rfl⟩

theorem flat_succ {d : V.Dv} {j : Nat} (hj : j < d.lines.length) : (d.lines.take (j + 1)).flatMap (·.now) = (d.lines.take j).flatMap (·.now) ++ (d.at j).now := by
  have h := at_get hj
  rw [List.getElem?_eq_getElem hj] at h
  rw [List.take_succ_eq_append_getElem hj, List.flatMap_append, Option.some.inj h]
  simp
section
variable {w : World} {F : List Nat}
set_option maxHeartbeats 2000000 in
set_option maxRecDepth 100000 in
theorem rf_image {m : Value} {d : V.Dv} (h : RefAt w F m d) (hg : d.Good) :
    Calls Try.prog 25 #[m] w fun e w' => ∃ g c, e = .returned (.slice (some ⟨g, 0, none⟩) (64 * d.lines.length) c) ∧ IsBytes w' (.slice (some ⟨g, 0, none⟩) (64 * d.lines.length) c) d.image ∧ Below w.heap.size w w' := by
  obtain ⟨C, cap, cs, down, left, rfl, hc1, hc2, hrow, _, hCF, hCw, hop⟩ := h.open
  obtain ⟨i0, hi, hz0, hz1, hz2⟩ := info_parts info_u8
  have hnn := hg.most
  have hnn1 := hg.some
  have hc2' : cap ≤ 2 ^ 63 - 1 := hc2
  have HTL := Lib.hid (fun j hj => take_flat_length hg.lines j hj)
  have HSU := Lib.hid (fun j hj => flat_succ (d := d) (j := j) hj)
  have HIM : Hid ((d.lines.take d.lines.length).flatMap (·.now) = d.image) := by show _ = _; rw [List.take_length]; rfl
  have HRG := Lib.hid (V.image_range hg.lines)
  have HGL : Hid (∀ j, (d.at j).now.length = 64) := fun j => (hg.at j).len
  have HOP := Lib.hid hop
  have HBX := Lib.hid (boxed w)
  clear h hrow hop hg
  go_enter Try.func25, Try.ntmps25
  go_wp2_with fail
  go_loopw [3, 4] (fun v x wr => ∃ j : Nat, j ≤ d.lines.length ∧ x = .int .i64 j ∧ Hid (wr.heap[w.heap.size]? = some (.cells #[.slice (some ⟨C, 0, none⟩) d.lines.length cap, .bool down, .int .i64 left, .int .i64 (d.steps : Int)] 31 (0, 0))) ∧ Hid (Below w.heap.size w wr) ∧ Hid (wr.ownsRow (w.heap.size + 1) 5 1 v (64 * j) (((d.lines.take j).flatMap (·.now)).map (Value.int .u8)))) (fun _ x _ => d.lines.length - (intOf x).toNat)
  case atStart => exact ⟨0, by omega, rfl, (HBX.out _ _ (Below.refl _ _)).1, (HBX.out _ _ (Below.refl _ _)).2, by show World.ownsRow _ _ _ _ _ _ _; simpa using (owns_nil : World.ownsRow _ (w.heap.size + 1) 5 1 _ 0 [])⟩
  case round =>
    obtain ⟨j, hj, rfl, hbx, hbw, hown⟩ := hrel
    obtain ⟨⟨x0, x1, x2, x3⟩, _⟩ := four hbx.out
    by_cases hlt : j < d.lines.length
    · obtain ⟨p, _, hp⟩ := HOP.out j hlt
      obtain ⟨c1, c2, hce⟩ := hp wr hbw.out
      have HNOW := Lib.hid (rf_now hce)
      have HGJ := HGL.out j
      have HSJ := HSU.out j hlt
      have hbsz := hbw.out.size
      have hbl : w.heap.size < wr.heap.size := (Array.getElem?_eq_some_iff.1 hbx.out).1
      clear hp hce
      go_wp2_with fail
      refine HNOW.out.mono ?_
      rintro e w2 ⟨u, rfl, ⟨g, o, c, hu, _, _, hz⟩, hb2⟩
      rw [HGJ] at hu
      subst hu
      have HBX2 : Hid (w2.heap[w.heap.size]? = some (.cells #[.slice (some ⟨C, 0, none⟩) d.lines.length cap, .bool down, .int .i64 left, .int .i64 (d.steps : Int)] 31 (0, 0))) := (hb2.block _ hbl).trans hbx.out
      have HOW2 := Lib.hid (owns_only (F := []) hown.out (Only.of_below hb2) (fun _ _ hk => by cases hk))
      have HB2 := Lib.hid hb2
      have HZ := Lib.hid hz
      have hb2s := hb2.size
      clear hz hb2 x0 x1 x2 x3 c1 c2
      go_wp2_with (at_builtin; refine wpList_append_ints rfl (.tmp 12) (.tmp 18) 22 rfl .u8 (w.heap.size + 1) 5 i0 _ 1 Try.underlying22 hi hz0 hz1 hz2 rfl _ _ _ rfl HOW2.out _ 64 c _ rfl HZ.out (by unfold maxLen; omega) (by omega) (by omega) ?_)
      intro v' w3 hown' hgrow
      have hown3 : w3.ownsRow (w.heap.size + 1) 5 1 v' (64 * (j + 1)) (((d.lines.take (j + 1)).flatMap (·.now)).map (Value.int .u8)) := by
        rw [HSJ, show 64 * (j + 1) = 64 * j + 64 by omega]
        simpa using hown'
      have HBX3 : Hid (w3.heap[w.heap.size]? = some (.cells #[.slice (some ⟨C, 0, none⟩) d.lines.length cap, .bool down, .int .i64 left, .int .i64 (d.steps : Int)] 31 (0, 0))) := (hgrow.block _ (by omega) (fun e => by have := owns_block HOW2.out _ e.symm; omega)).trans HBX2.out
      have HB3 : Hid (Below w.heap.size w w3) := (hbw.out.trans (HB2.out.mono hbsz)).grown hgrow (by omega) (fun k hk => by have := owns_block HOW2.out k hk; omega)
      have HOW3 := Lib.hid hown3
      clear hown' hgrow hown3 HSJ
      go_wp2
      go_roundw
      case rel => exact ⟨j + 1, by omega, by go_num, HBX3, HB3, HOW3⟩
      case measure => simp [intOf]; omega
    · obtain rfl : j = d.lines.length := by omega
      have hown' := hown.out
      rw [HIM.out] at hown'
      have hown2 := hown'
      rcases hown2.2 with ⟨_, h0⟩ | ⟨g, c, cur, rfl, _, _, hgc, hcm, _⟩
      · omega
      have HFI : Hid (IsBytes wr (.slice (some ⟨g, 0, none⟩) (64 * d.lines.length) c) d.image) := IsInts.of_own hown' (fun z hz => wf_byte (HRG.out z hz))
      clear hown' hown2
      go_wp2
      go_ret
      exact ⟨g, c, rfl, HFI.out, hbw.out⟩
end
end Go.Proofs.Ytmamcliidlmghaa
