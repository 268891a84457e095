/- The walk of CrcSums: whatever is handed in, the call answers true, and what was there stays. -/
import Derived.Test.YtjkkmnmgkglcoaaDoorCrcB
import Derived.Deep.QuietTactic
import Derived.BigQuiet
import Derived.Deep.DeepCutAuto
import Derived.StillTailTactics
namespace Go.Proofs.YtjkkmnmgkglcoaaDoor
open Go.RowKit

/-- The three texts, byte by byte, so far. -/
def three (a b c : List Int) (j : Nat) : Nat := ((a.getD j 0).toNat ^^^ (b.getD j 0).toNat) ^^^ (c.getD j 0).toNat
def sumsL (a b c : List Int) (n i : Nat) : List Int := (List.range n).map fun j => if j < i then ((three a b c j : Nat) : Int) else 0
theorem sumsL_zero (a b c : List Int) (n : Nat) : sumsL a b c n 0 = List.replicate n 0 := by
  apply List.ext_getElem (by simp [sumsL])
  intro i h1 h2
  simp [sumsL]
theorem sumsL_succ (a b c : List Int) (n i : Nat) : sumsL a b c n (i + 1) = (sumsL a b c n i).set i ((three a b c i : Nat) : Int) := by
  apply List.ext_getElem (by simp [sumsL])
  intro j h1 h2
  rw [List.getElem_set]
  simp only [sumsL, List.getElem_map, List.getElem_range]
  by_cases h : i = j
  · subst h; simp
  · rw [if_neg h]
    by_cases h3 : j < i
    · rw [if_pos h3, if_pos (by omega)]
    · rw [if_neg h3, if_neg (by omega)]
theorem sumsL_length (a b c : List Int) (n i : Nat) : (sumsL a b c n i).length = n := by simp [sumsL]
theorem three_lt {a b c : List Int} (ha : ∀ z ∈ a, 0 ≤ z ∧ z ≤ 255) (hb : ∀ z ∈ b, 0 ≤ z ∧ z ≤ 255) (hc : ∀ z ∈ c, 0 ≤ z ∧ z ≤ 255) (j : Nat) : three a b c j < 256 := by
  have h1 := getD_range ha j
  have h2 := getD_range hb j
  have h3 := getD_range hc j
  exact Nat.xor_lt_two_pow (n := 8) (Nat.xor_lt_two_pow (by omega) (by omega)) (by omega)
theorem sumsL_range {a b c : List Int} (ha : ∀ z ∈ a, 0 ≤ z ∧ z ≤ 255) (hb : ∀ z ∈ b, 0 ≤ z ∧ z ≤ 255) (hc : ∀ z ∈ c, 0 ≤ z ∧ z ≤ 255) (n i : Nat) : ∀ z ∈ sumsL a b c n i, 0 ≤ z ∧ z ≤ 255 := by
  intro z hz
  simp only [sumsL, List.mem_map, List.mem_range] at hz
  obtain ⟨j, _, rfl⟩ := hz
  have := three_lt ha hb hc j
  split <;> omega
theorem sums_done {a b c : List Int} {n : Nat} (la : n ≤ a.length) (lb : n ≤ b.length) (lc : n ≤ c.length) (ha : ∀ z ∈ a, 0 ≤ z ∧ z ≤ 255) (hb : ∀ z ∈ b, 0 ≤ z ∧ z ≤ 255) (hc : ∀ z ∈ c, 0 ≤ z ∧ z ≤ 255) :
    C.nxt 0 (sumsL a b c n n) = (C.nxt 0 (a.take n) ^^^ C.nxt 0 (b.take n)) ^^^ C.nxt 0 (c.take n) := by
  have l1 : (a.take n).length = n := by simp; omega
  have l2 : (b.take n).length = n := by simp; omega
  have l3 : (c.take n).length = n := by simp; omega
  refine C.sums l1 l2 l3 (sumsL_length ..) (range_take ha n) (range_take hb n) (range_take hc n) (sumsL_range ha hb hc n n) (C.num_three n _ _ _ _ l1 l2 l3 (sumsL_length ..) fun i hi => ?_)
  refine ⟨getD_range (range_take ha n) i, getD_range (range_take hb n) i, getD_range (range_take hc n) i, ?_⟩
  have e : ∀ l : List Int, (l.take n).getD i 0 = l.getD i 0 := fun l => by simp [List.getD_eq_getElem?_getD, hi]
  rw [e, e, e]
  have : (sumsL a b c n n).getD i 0 = ((three a b c i : Nat) : Int) := by
    simp [sumsL, List.getD_eq_getElem?_getD, hi]
  rw [this]
  rfl
theorem u8_xor_num {a b : Nat} (ha : a ≤ 255) (hb : b ≤ 255) : bits .xor .u8 (a : Int) (b : Int) = ((a ^^^ b : Nat) : Int) := u8_xor_nat _ _ (by omega) (by omega)

theorem min_if (x y : Int) : (if y < x then y else x) = min x y := by split <;> omega
theorem run_min_int4 {P : Program} (w : World) (ts : Array TypeId) (t : TypeId) (k k' k'' k3 : IntKind) (x y z u : Int) : (Builtin.min_ ts t #[.int k x, .int k' y, .int k'' z, .int k3 u]).run P w = .ok (.int k (min (min (min x y) z) u)) w := by
  simp [Builtin.min_, Builtin.min2, min_if]
theorem crcSums_walk (b0 : Option Addr) (len0 cap0 : Nat) (z0 : List Int) (b1 : Option Addr) (len1 cap1 : Nat) (z1 : List Int) (b2 : Option Addr) (len2 cap2 : Nat) (z2 : List Int) (w : World)
    (w0 : IsInts .u8 w (.slice b0 len0 cap0) z0) (w1 : IsInts .u8 w (.slice b1 len1 cap1) z1) (w2 : IsInts .u8 w (.slice b2 len2 cap2) z2)
    (hT : TabT w) (hs : 0 < w.heap.size) :
    Calls Tryd.prog 6 #[.slice b0 len0 cap0, .slice b1 len1 cap1, .slice b2 len2 cap2] w fun e w' => e = .returned (.bool true) ∧ Below w.heap.size w w' := by
  obtain ⟨hz0, hl0, hm0⟩ := w0.len
  obtain ⟨hz1, hl1, hm1⟩ := w1.len
  obtain ⟨hz2, hl2, hm2⟩ := w2.len
  have H0 := Lib.hid w0; have H1 := Lib.hid w1; have H2 := Lib.hid w2
  have HT := Lib.hid hT
  clear w0 w1 w2 hT
  unfold maxLen at hm0 hm1 hm2
  obtain ⟨n, hn, hn0, hn1, hn2, hn3⟩ : ∃ n : Nat, min (min (min (len0 : Int) (len1 : Int)) (len2 : Int)) 3000 = (n : Int) ∧ n ≤ len0 ∧ n ≤ len1 ∧ n ≤ len2 ∧ n ≤ 3000 := ⟨min (min (min len0 len1) len2) 3000, by omega, by omega, by omega, by omega, by omega⟩
  have hmin := fun W => (run_min_int4 (P := Tryd.prog) W #[3, 3, 3, 3] 3 .i64 .i64 .i64 .i64 len0 len1 len2 3000).trans (by rw [hn])
  clear hn
  have HL : Hid (z0.length = len0 ∧ z1.length = len1 ∧ z2.length = len2) := ⟨hz0, hz1, hz2⟩
  clear hz0 hz1 hz2
  go_enter Tryd.func6, Tryd.ntmps6
  go_wp2_with fail
  refine (alive_any _ HT.out hs).mono ?_
  rintro e w1 ⟨rfl, hb⟩
  have HB := Lib.hid hb
  clear hb
  go_upto_region 3 with fail
  go_cut [7] (fun s7 wx => s7 = .int .i64 (n : Int) ∧ wx = w1)
  case first =>
    go_wp2_with fail
    go_meet
    exact ⟨rfl, rfl⟩
  case rest =>
    obtain ⟨rfl, rfl⟩ := hcut
    have hc0 : (n : Int) ≤ cap0 := by omega
    have hc1 : (n : Int) ≤ cap1 := by omega
    have hc2 : (n : Int) ≤ cap2 := by omega
    obtain ⟨i0, hi, hiz0, hiz1, hiz2⟩ := info_parts info_u8
    go_wp2_with (refine wpList_make_full _ rfl _ _ 23 rfl wc.heap.size 5 i0 (.int .u8 0) 1 Tryd.underlying23 hi hiz0 hiz1 .i64 .i64 n n n rfl rfl rfl rfl (by rw [hiz2]; omega) (by unfold maxLen; omega) (by simp) ?_)
    intro w2 hown hg
    have hb2 : Below w.heap.size w w2 := HB.out.grown hg (by have := HB.out.size; simpa using this) (fun k hk => by cases hk)
    have HOWN : Hid (w2.ownsRow wc.heap.size 5 1 (.slice (some ⟨wc.heap.size, 0, none⟩) n n) n ((sumsL z0 z1 z2 n 0).map (Value.int .u8))) := by
      rw [toList_madeCells_one] at hown
      rw [sumsL_zero]
      show World.ownsRow _ _ _ _ _ _ _
      simpa using hown
    have HB2 := Lib.hid hb2
    have hwc := HB.out.size
    clear hown hg hb2
    go_wp2
    go_loopw [9, 23] (fun _ k wr => ∃ j : Nat, j ≤ n ∧ k = .int .i64 j ∧ wr.ownsRow wc.heap.size 5 1 (.slice (some ⟨wc.heap.size, 0, none⟩) n n) n ((sumsL z0 z1 z2 n j).map (Value.int .u8)) ∧ Below w.heap.size w wr) (fun _ k _ => n - (intOf k).toNat)
    case atStart => exact ⟨0, by omega, rfl, HOWN.out, HB2.out⟩
    case round =>
      obtain ⟨j, hjn, rfl, hown, hbel⟩ := hrel
      by_cases hlt : j < n
      · have hlen := sumsL_length z0 z1 z2 n j
        have hcell : wr.cell? ⟨wc.heap.size, j, none⟩ = some (.int .u8 ((sumsL z0 z1 z2 n j).getD j 0)) := by
          rw [hown.cellAt j (by omega)]
          simp [show j < (sumsL z0 z1 z2 n j).length by omega]
        have hfz := hown.frozenAt j
        have HS := Lib.hid (hown.stored j (.int .u8 ((three z0 z1 z2 j : Nat) : Int))).1
        have HBN := Lib.hid (hbel.setCell (p := ⟨wc.heap.size, j, none⟩) hwc (.int .u8 ((three z0 z1 z2 j : Nat) : Int)))
        have HM : Hid ((sumsL z0 z1 z2 n (j + 1)).map (Value.int .u8) = ((sumsL z0 z1 z2 n j).map (Value.int .u8)).set j (.int .u8 ((three z0 z1 z2 j : Nat) : Int))) := by
          show _ = _
          rw [sumsL_succ, List.map_set]
        obtain ⟨g0, o0, rfl⟩ := H0.out.cells (by omega)
        obtain ⟨g1, o1, rfl⟩ := H1.out.cells (by omega)
        obtain ⟨g2, o2, rfl⟩ := H2.out.cells (by omega)
        have c0 := (H0.out.below hbel).cell j (by omega)
        have c1 := (H1.out.below hbel).cell j (by omega)
        have c2 := (H2.out.below hbel).cell j (by omega)
        have r0 := getD_range H0.out.range j
        have r1 := getD_range H1.out.range j
        have r2 := getD_range H2.out.range j
        have HT3 : Hid (three z0 z1 z2 j = ((z0.getD j 0).toNat ^^^ (z1.getD j 0).toNat) ^^^ (z2.getD j 0).toNat) := rfl
        generalize three z0 z1 z2 j = t at *
        generalize z0.getD j 0 = x at *
        generalize z1.getD j 0 = y at *
        generalize z2.getD j 0 = z at *
        obtain ⟨x, rfl⟩ := Int.eq_ofNat_of_zero_le r0.1
        obtain ⟨y, rfl⟩ := Int.eq_ofNat_of_zero_le r1.1
        obtain ⟨z, rfl⟩ := Int.eq_ofNat_of_zero_le r2.1
        have E1 : bits .xor .u8 (x : Int) (y : Int) = ((x ^^^ y : Nat) : Int) := u8_xor_num (by omega) (by omega)
        have hxy : x ^^^ y ≤ 255 := by have := Nat.xor_lt_two_pow (n := 8) (x := x) (y := y) (by omega) (by omega); omega
        have E2 : bits .xor .u8 ((x ^^^ y : Nat) : Int) (z : Int) = (t : Int) := by rw [u8_xor_num hxy (by omega), HT3.out]; simp
        generalize x ^^^ y = q at *
        clear hown hbel hlen
        have hj0 : (0 : Int) ≤ (j : Int) := by omega
        have hjl0 : (j : Int) < (len0 : Int) := by omega
        have hjl1 : (j : Int) < (len1 : Int) := by omega
        have hjl2 : (j : Int) < (len2 : Int) := by omega
        have hjl3 : (j : Int) < (n : Int) := by omega
        go_wp2_with fail
        go_still_tail 17, (by kernel_rfl)
        change wpList _ _ _ _ _ wr.drew
        go_wp2
        go_roundw
        case rel => exact ⟨j + 1, by omega, by go_num, by rw [HM.out]; exact HS.out, below_drewN' HBN.out 1⟩
        case measure => simp [intOf]; omega
      · obtain rfl : j = n := by omega
        have HVX : Hid (IsBytes wr (.slice (some ⟨wc.heap.size, 0, none⟩) j j) (sumsL z0 z1 z2 j j)) := by
          have h := IsInts.of_row (k := .u8) (xs := sumsL z0 z1 z2 j j) (cap := j) (by rw [sumsL_length]; exact hown) (fun z hz => wf_byte (sumsL_range H0.out.range H1.out.range H2.out.range j j z hz))
          rw [sumsL_length] at h
          exact h
        have HV0 : Hid (IsBytes wr (.slice b0 j cap0) (z0.take j)) := (H0.out.below hbel).take j hn0
        have HV1 : Hid (IsBytes wr (.slice b1 j cap1) (z1.take j)) := (H1.out.below hbel).take j hn1
        have HV2 : Hid (IsBytes wr (.slice b2 j cap2) (z2.take j)) := (H2.out.below hbel).take j hn2
        have HT2 : Hid (TabT wr) := HT.out.below hbel hs
        have HBE := Lib.hid hbel
        have HE := Lib.hid (sums_done (n := j) (a := z0) (b := z1) (c := z2) (by rw [HL.out.1]; exact hn0) (by rw [HL.out.2.1]; exact hn1) (by rw [HL.out.2.2]; exact hn2) H0.out.range H1.out.range H2.out.range)
        have hx := C.nxt_lt (s := 0) (by decide) (range_take H0.out.range j)
        have hy := C.nxt_lt (s := 0) (by decide) (range_take H1.out.range j)
        have hz := C.nxt_lt (s := 0) (by decide) (range_take H2.out.range j)
        have E1 := Lib.hid (xor_num hx hy rfl)
        have E2 := Lib.hid (xor_num (C.xor_lt hx hy) hz HE.out.symm)
        clear hown hbel hx hy hz hlt hjn
        go_wp2_with fail
        go_quiet ((go_at_call 12; first | exact Calls.quiet_of (sum_any _ _ _ (by exact HVX.out) (by exact HT2.out)) | exact Calls.quiet_of (sum_any _ _ _ (by exact HV0.out) (by exact HT2.out)) | exact Calls.quiet_of (sum_any _ _ _ (by exact HV1.out) (by exact HT2.out)) | exact Calls.quiet_of (sum_any _ _ _ (by exact HV2.out) (by exact HT2.out))))
        rw [E1.out, E2.out]
        go_wp2
        go_ret
        exact ⟨ret_bool (by simp), below_drewN' HBE.out _⟩
end Go.Proofs.YtjkkmnmgkglcoaaDoor
