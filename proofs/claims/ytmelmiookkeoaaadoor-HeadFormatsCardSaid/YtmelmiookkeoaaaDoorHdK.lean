
/- Layer 5: the contract of Image, the reference's. -/
import Derived.Test.YtmelmiookkeoaaaDoorHdF

namespace Go.Proofs.YtmelmiookkeoaaaDoor

open Go.RowKit

/-- The first bytes, and zeros. -/
def fillB (b : List Int) (N i : Nat) : List Int := b.take i ++ List.replicate (N - i) 0
theorem fillB_zero (b : List Int) (N : Nat) : fillB b N 0 = List.replicate N 0 := by simp [fillB]
theorem fillB_length (b : List Int) (N i : Nat) (hi : i ≤ b.length) (hN : i ≤ N) : (fillB b N i).length = N := by simp [fillB]; omega
theorem fillB_step (b : List Int) (N i : Nat) (hi : i < b.length) (hN : i < N) : (fillB b N i).set i (b.getD i 0) = fillB b N (i + 1) := by
  unfold fillB
  have h1 : (b.take i).length = i := by rw [List.length_take]; omega
  rw [List.set_append_right _ _ (by omega), h1, Nat.sub_self, show N - i = (N - (i + 1)) + 1 by omega, List.replicate_succ, List.set_cons_zero, List.take_succ_eq_append_getElem hi, List.append_assoc]
  congr 1
  rw [List.getD_eq_getElem?_getD, List.getElem?_eq_getElem hi]
  rfl
/-- All bytes of a device that was formatted. -/
def V.formed (n : Nat) : List Int := V.bts (V.wrds n ++ List.replicate (8 * n - 8) 0)
theorem formed_fill (n : Nat) : fillB (V.bts (V.wrds n)) (64 * n) 64 = V.formed n := by
  unfold fillB V.formed
  rw [V.bts_append, V.bts_zeros, List.take_of_length_le (by rw [V.bts_length, V.wrds_length]; decide)]
  congr 2; omega
theorem formed_length (n : Nat) (h : 1 ≤ n) : (V.formed n).length = 64 * n := by
  unfold V.formed
  rw [V.bts_length, List.length_append, V.wrds_length, List.length_replicate]; omega
set_option maxHeartbeats 1000000 in
set_option maxRecDepth 100000 in
theorem rf5_image (w : World) {n : Nat} (hn : 19 ≤ n ∧ n ≤ 1024) :
    Calls Tryd.prog 21 #[.agg #[.int .i64 (n : Int), .int .i64 (V.slabs n : Int), .int .i64 128, .int .i64 (V.dataAt n : Int)]] w fun e w' => ∃ g, e = .returned (.slice (some ⟨g, 0, none⟩) (64 * n) (64 * n)) ∧ IsBytes w' (.slice (some ⟨g, 0, none⟩) (64 * n) (64 * n)) (V.formed n) ∧ Below w.heap.size w w' := by
  obtain ⟨i0, hi, hz0, hz1, hz2⟩ := info_parts info_u8
  have HW : Hid (∀ W, Calls Tryd.prog 16 #[.agg #[.int .i64 (n : Int), .int .i64 (V.slabs n : Int), .int .i64 128, .int .i64 (V.dataAt n : Int)]] W (WordsPost W (V.wrds n))) := fun W => by
    have h := rf5_words W (V.Sh.at n) ⟨by show (_ : Int) ≤ (n : Int); omega, by show (n : Int) ≤ _; omega⟩
    rwa [V.Sh.words_at hn] at h
  have HWL := Lib.hid (V.wrds_length n)
  have HF := Lib.hid (formed_fill n)
  have HBL : Hid ((V.bts (V.wrds n)).length = 64) := by show _ = _; rw [V.bts_length, V.wrds_length]
  have HBR := Lib.hid (V.bts_range (V.wrds n))
  obtain ⟨N, hN⟩ : ∃ N : Nat, N = 64 * n := ⟨_, rfl⟩
  have hN2 : 64 * (n : Int) = (N : Int) := by omega
  have hN3 : 64 ≤ N ∧ N ≤ 65536 := by omega
  rw [← hN] at HF ⊢
  clear hN hn
  generalize V.slabs n = sl at *
  generalize V.dataAt n = da at *
  generalize V.wrds n = ws at *
  have HC0 : Hid (∀ a b c d t, (w.alloc (.cells #[a, b, c, d] t (0, 0))).heap[w.heap.size]? = some (.cells #[a, b, c, d] t (0, 0))) := fun a b c d t => heap_alloc_new w _
  go_enter Tryd.func21, Tryd.ntmps21
  go_wp2_with (refine wpList_make_full _ rfl _ _ 37 rfl (w.heap.size + 1) 5 i0 (.int .u8 0) 1 Tryd.underlying37 hi hz0 hz1 .i64 .i64 N N N rfl rfl rfl rfl (by rw [hz2]; omega) (by unfold maxLen; omega) (by simp) ?_)
  intro w1 hown hgr
  have HB1 : Hid (Below w.heap.size w w1) := ((Below.refl _ _).alloc (Nat.le_refl _) _).grown hgr (by simp) (fun k hk => by cases hk)
  have hrow1 := (hgr.block w.heap.size (by simp) (by simp)).trans (HC0.out _ _ _ _ _)
  have H0 : Hid (w1.ownsRow (w.heap.size + 1) 5 1 (.slice (some ⟨w.heap.size + 1, 0, none⟩) N N) N ((fillB (V.bts ws) N 0).map (Value.int .u8))) := by
    show World.ownsRow _ _ _ _ _ _ _
    rw [fillB_zero, List.map_replicate]
    have h := hown
    rwa [toList_madeCells_one] at h
  obtain ⟨⟨x0, x1, x2, x3⟩, _⟩ := four' hrow1
  clear hown hgr hrow1
  go_wp2_with fail
  refine (HW.out _).mono ?_
  rintro e w2 ⟨v, rfl, hv, hb⟩
  have hv' := hv
  obtain ⟨A, c, rfl, _⟩ := hv'
  rw [List.length_map, HWL.out] at hv ⊢
  have HBY := Lib.hid (rf5_bytes_new hv (by decide))
  have HL0 := owns_lt H0.out (g := w.heap.size + 1) rfl
  have hb0 := hb.size
  have HB2 : Hid (Below w.heap.size w w2) := HB1.out.trans (hb.mono HB1.out.size)
  have H2 := Lib.hid (owns_below H0.out hb)
  clear hv hb x0 x1 x2 x3
  go_wp2_with fail
  refine HBY.out.mono ?_
  rintro e w3 ⟨v, rfl, hv, hb, hvk⟩
  have hv' := hv
  obtain ⟨B2, c2, rfl, _⟩ := hv'
  have hv64 := hv
  rw [HBL.out] at hv64 ⊢
  have HV3 := Lib.hid hv64
  have HB3 : Hid (Below w.heap.size w w3) := HB2.out.trans (hb.mono HB2.out.size)
  have H3 := Lib.hid (owns_below H2.out hb)
  obtain ⟨bb, bo, rfl⟩ := IsInts.cells hv64 (by decide)
  have hne : bb ≠ w.heap.size + 1 := by
    have := hvk bb rfl
    omega
  have HNE := Lib.hid hne
  clear hv hv64 hb hne hvk HL0 hb0
  go_wp2_with fail
  go_loopw [5] (fun x W => ∃ i : Nat, i ≤ 64 ∧ x = .int .i64 i ∧ W.ownsRow (w.heap.size + 1) 5 1 (.slice (some ⟨w.heap.size + 1, 0, none⟩) N N) N ((fillB (V.bts ws) N i).map (Value.int .u8)) ∧ Below w.heap.size w W ∧ W.heap[bb]? = w3.heap[bb]?) (fun x _ => 64 - (intOf x).toNat)
  case atStart => exact ⟨0, by omega, rfl, H3.out, HB3.out, rfl⟩
  case round =>
    obtain ⟨i, hi64, rfl, hown, hbel, hkeep⟩ := hrel
    by_cases hlt : i < 64
    · have hlen : (fillB (V.bts ws) N i).length = N := fillB_length _ _ _ (by rw [HBL.out]; omega) (by omega)
      have hcell : wr.cell? ⟨w.heap.size + 1, i, none⟩ = some (.int .u8 ((fillB (V.bts ws) N i).getD i 0)) := by
        rw [hown.cellAt i (by omega)]
        simp [show i < (fillB (V.bts ws) N i).length by omega]
      have hfz := hown.frozenAt i
      have hsrc := (World.cell?_of_block (w := w3) (w' := wr) (a := ⟨bb, bo + i, none⟩) hkeep).trans (HV3.out.cell i hlt)
      have HS := Lib.hid (hown.stored i (.int .u8 ((V.bts ws).getD i 0))).1
      have HST := Lib.hid (fillB_step (V.bts ws) N i (by rw [HBL.out]; exact hlt) (by omega))
      have HBN := Lib.hid (hbel.setCell (p := ⟨w.heap.size + 1, i, none⟩) (Nat.le_succ _) (.int .u8 ((V.bts ws).getD i 0)))
      have HKN : Hid ((wr.setCell ⟨w.heap.size + 1, i, none⟩ (.int .u8 ((V.bts ws).getD i 0))).heap[bb]? = w3.heap[bb]?) := (Below.heap_setCell _ _ _ _ HNE.out).trans hkeep
      generalize (V.bts ws).getD i 0 = z at *
      clear hown hbel hlen hkeep
      go_wp2
      go_roundw
      case rel => exact ⟨i + 1, by omega, by go_num, by rw [← HST.out, List.map_set]; exact HS.out, HBN.out, HKN.out⟩
      case measure => simp [intOf]; omega
    · obtain rfl : i = 64 := by omega
      rw [HF.out] at hown
      have HO := Lib.hid hown
      have HBN := Lib.hid hbel
      have hlen : (V.formed n).length = N := by have := hown.1; simpa using this
      have HL := Lib.hid hlen
      clear hown hbel hlen hkeep
      go_wp2
      go_ret
      refine ⟨_, rfl, ?_, HBN.out⟩
      have h := HO.out
      rw [← HL.out] at h ⊢
      exact IsInts.of_row h (fun z hz => wf_byte (V.bts_range _ z hz))
end Go.Proofs.YtmelmiookkeoaaaDoor
