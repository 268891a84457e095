/- The walk of CrcPieces: whatever is handed in, the call answers true, and what was there stays. -/
import Derived.Test.YtjkkmnmgkglcoaaDoorCrcB
import Derived.Test.YtjkkmnmgkglcoaaDoorApp
namespace Go.Proofs.YtjkkmnmgkglcoaaDoor
open Go.RowKit

theorem crcPieces_core (g o : Nat) (zss : List (List Int)) (n cap : Nat) (w : World) (HL : Hid (zss.length = n)) (hn : n ≤ maxLen)
    (HC : Hid (∀ i, i < n → ∃ u, w.cell? ⟨g, o + i, none⟩ = some u ∧ IsInts .u8 w u (zss.getD i []) ∧ (zss.getD i []).length ≤ 140737488351232))
    (hT : TabT w) (hs : 0 < w.heap.size) :
    Calls Tryd.prog 4 #[.slice (some ⟨g, o, none⟩) n cap] w fun e w' => e = .returned (.bool true) ∧ Below w.heap.size w w' := by
  have HT := Lib.hid hT; clear hT
  unfold maxLen at hn
  obtain ⟨i0, hi, hiz0, hiz1, hiz2⟩ := info_parts info_u8
  go_enter Tryd.func4, Tryd.ntmps4
  go_wp2_with fail
  refine (alive_any _ HT.out hs).mono ?_
  rintro e w1 ⟨rfl, hb⟩
  have HB := Lib.hid hb
  clear hb
  go_wp2
  go_loopw [3, 4, 6, 11] (fun al x _ i wr => ∃ (j : Nat) (L : List Int), j ≤ n ∧ i = .int .i64 j ∧ L.length ≤ 3000 ∧ (∀ z ∈ L, 0 ≤ z ∧ z ≤ 255) ∧ wr.ownsRow w.heap.size 5 1 al L.length (L.map (Value.int .u8)) ∧ x = .int .u32 (C.nxt 0 L : Nat) ∧ Below w.heap.size w wr) (fun _ _ _ i _ => n - (intOf i).toNat)
  case atStart => exact ⟨0, [], by omega, rfl, by simp, (fun z hz => by cases hz), owns_nil, by rw [C.nxt_nil]; rfl, HB.out⟩
  case round =>
    obtain ⟨j, L, hj, rfl, hL3, hLr, hown, rfl, hbel⟩ := hrel
    by_cases hlt : j < n
    · obtain ⟨u, hu, hI0, hmost⟩ := HC.out j hlt
      have hcell : wr.cell? ⟨g, o + j, none⟩ = some u := (hbel.cell (p := ⟨g, o + j, none⟩) (World.block_lt_of_cell? w _ hu)).trans hu
      have hI := hI0.below hbel
      generalize zss.getD j [] = zs at *
      obtain ⟨A, c, rfl, hc1, hc2, hcR, hcw⟩ := hI
      have hI : IsInts .u8 wr (.slice A zs.length c) zs := ⟨A, c, rfl, hc1, hc2, hcR, hcw⟩
      have hrz := byte_range hcw
      obtain ⟨a, lc, hal, hlc1, hlc2⟩ := owns_form hown
      subst hal
      have HV : Hid (IsBytes wr (.slice a L.length lc) L) := IsInts.of_own hown (fun z hz => wf_byte (hLr z hz))
      have HOWN := Lib.hid hown
      have HI := Lib.hid hI
      have HR := Lib.hid hrz
      have HLR := Lib.hid hLr
      have HBE := Lib.hid hbel
      have HT2 : Hid (TabT wr) := HT.out.below hbel hs
      have hsz := hbel.size
      obtain ⟨ll, hll⟩ : ∃ ll, ll = L.length := ⟨_, rfl⟩
      obtain ⟨m, hm⟩ : ∃ m, m = zs.length := ⟨_, rfl⟩
      rw [← hll] at HV HOWN hL3 hlc1 ⊢
      rw [← hm] at HI hcell hc1 hmost
      have HLL := Lib.hid hll
      have HM := Lib.hid hm
      clear hll hm hown hI hrz hLr hbel hI0 hcR hcw hu
      unfold maxLen at hlc2 hc2
      have hx := C.nxt_lt (s := 0) (by decide) HLR.out
      have HA := Lib.hid (C.nxt_append 0 L zs)
      by_cases h3 : 3000 < (ll : Int) + (m : Int)
      · go_wp2
        go_ret
        exact ⟨rfl, HBE.out⟩
      · generalize C.nxt 0 L = x at *
        go_wp2_with fail
        refine (next_any _ _ x _ HI.out hx HT2.out).mono ?_
        rintro e w' ⟨rfl, m1, rfl⟩
        rw [HA.out]
        have h3' : (ll : Int) + (m : Int) ≤ 3000 := by omega
        go_wp2_with (refine wpList_append_ints rfl (.tmp 24) (.tmp 25) 23 rfl .u8 w.heap.size 5 i0 (.int .u8 0) 1 Tryd.underlying23 hi hiz0 hiz1 hiz2 rfl _ ll L rfl (by exact HOWN.out) A m c zs rfl (by exact HI.out) (by unfold maxLen; omega) (by omega) (by simpa using hsz) ?_)
        intro v' w2 hown' hgrow
        rw [← List.map_append] at hown'
        have hb2 : Below w.heap.size w w2 := (below_drewN' HBE.out m1).grown hgrow (by simpa using hsz) (owns_block HOWN.out)
        have hrr : ∀ z ∈ L ++ zs, 0 ≤ z ∧ z ≤ 255 := fun z hz => (List.mem_append.1 hz).elim (HLR.out z) (HR.out z)
        have HV2 : Hid (IsBytes w2 v' (L ++ zs)) := IsInts.of_own hown' (fun z hz => wf_byte (hrr z hz))
        have HOWN2 : Hid (w2.ownsRow w.heap.size 5 1 v' (L ++ zs).length ((L ++ zs).map (Value.int .u8))) := by
          rw [List.length_append, ← HLL.out, ← HM.out]; exact hown'
        have HT3 : Hid (TabT w2) := HT.out.below hb2 hs
        have HRR := Lib.hid hrr
        have hl2 : (L ++ zs).length ≤ 3000 := by rw [List.length_append, ← HLL.out, ← HM.out]; omega
        have HB2 := Lib.hid hb2
        obtain ⟨a', lc', hv', _, _⟩ := owns_form hown'
        subst hv'
        clear hown' hgrow hb2 hrr
        generalize L ++ zs = LL at *
        go_wp2_with fail
        refine (sum_any _ _ _ HV2.out HT3.out).mono ?_
        rintro e w' ⟨rfl, m2, rfl⟩
        generalize hy : C.nxt 0 LL = y at *
        have HY := Lib.hid hy
        clear hy
        go_wp2
        go_roundw
        case rel => exact ⟨j + 1, LL, by omega, by go_num, hl2, HRR.out, HOWN2.out, by rw [HY.out], below_drewN' HB2.out _⟩
        case measure => simp [intOf]; omega
    · obtain rfl : j = n := by omega
      have HBE := Lib.hid hbel
      clear hown hbel
      go_wp2
      go_ret
      exact ⟨rfl, HBE.out⟩

theorem crcPieces_nil (a : Option Addr) (cap : Nat) (w : World) (hT : TabT w) (hs : 0 < w.heap.size) :
    Calls Tryd.prog 4 #[.slice a 0 cap] w fun e w' => e = .returned (.bool true) ∧ Below w.heap.size w w' := by
  have HT := Lib.hid hT; clear hT
  go_enter Tryd.func4, Tryd.ntmps4
  go_wp2_with fail
  refine (alive_any _ HT.out hs).mono ?_
  rintro e w1 ⟨rfl, hb⟩
  have HB := Lib.hid hb
  clear hb
  go_wp2
  go_loopw [3, 4, 6, 11] (fun _ _ _ i wr => i = .int .i64 0 ∧ wr = w1) (fun _ _ _ _ _ => 0)
  case atStart => exact ⟨rfl, rfl⟩
  case round =>
    obtain ⟨rfl, rfl⟩ := hrel
    go_wp2
    go_ret
    exact ⟨rfl, HB.out⟩

theorem crcPieces_walk (b0 : Option Addr) (len0 cap0 : Nat) (z0 : List (List Int)) (w : World) (w0 : IsIntss .u8 140737488351232 w (.slice b0 len0 cap0) z0)
    (hT : TabT w) (hs : 0 < w.heap.size) :
    Calls Tryd.prog 4 #[.slice b0 len0 cap0] w fun e w' => e = .returned (.bool true) ∧ Below w.heap.size w w' := by
  obtain ⟨a, c, e, h1, h2, h3⟩ := w0
  simp only [Value.slice.injEq] at e
  obtain ⟨rfl, rfl, rfl⟩ := e
  rcases h3 with rfl | ⟨g, o, rfl, hc⟩
  · exact crcPieces_nil _ _ w hT hs
  · exact crcPieces_core g o z0 z0.length cap0 w rfl (by omega) hc hT hs
end Go.Proofs.YtjkkmnmgkglcoaaDoor
