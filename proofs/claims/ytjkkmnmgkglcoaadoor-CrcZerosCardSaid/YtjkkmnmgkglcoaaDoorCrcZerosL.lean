/- The walk of CrcZeros: whatever is handed in, the call answers true, and what was there stays. -/
import Derived.Test.YtjkkmnmgkglcoaaDoorCrcB
import Derived.Deep.QuietTactic
import Derived.BigQuiet
import Derived.Deep.DeepCutAuto
namespace Go.Proofs.YtjkkmnmgkglcoaaDoor
open Go.RowKit

theorem crcZeros_walk (b0 : Option Addr) (len0 cap0 : Nat) (z0 : List Int) (b1 : Option Addr) (len1 cap1 : Nat) (z1 : List Int) (b2 : Option Addr) (len2 cap2 : Nat) (z2 : List Int) (w : World)
    (w0 : IsInts .u8 w (.slice b0 len0 cap0) z0) (w1 : IsInts .u8 w (.slice b1 len1 cap1) z1) (w2 : IsInts .u8 w (.slice b2 len2 cap2) z2)
    (hT : TabT w) (hs : 0 < w.heap.size) :
    Calls Tryd.prog 7 #[.slice b0 len0 cap0, .slice b1 len1 cap1, .slice b2 len2 cap2] w fun e w' => e = .returned (.bool true) ∧ Below w.heap.size w w' := by
  obtain ⟨hz0, hl0, hm0⟩ := w0.len
  obtain ⟨hz1, hl1, hm1⟩ := w1.len
  obtain ⟨hz2, hl2, hm2⟩ := w2.len
  have HZ2 := Lib.hid hz2
  have H0 := Lib.hid w0; have H1 := Lib.hid w1; have H2 := Lib.hid w2
  have HT := Lib.hid hT
  clear w0 w1 w2 hT hz0 hz1 hz2
  unfold maxLen at hm0 hm1 hm2
  obtain ⟨n, hn, hn0, hn1, hn3⟩ : ∃ n : Nat, min (min (len0 : Int) (len1 : Int)) 3000 = (n : Int) ∧ n ≤ len0 ∧ n ≤ len1 ∧ n ≤ 3000 := ⟨min (min len0 len1) 3000, by omega, by omega, by omega, by omega⟩
  have HN := Lib.hid hn; clear hn
  go_enter Tryd.func7, Tryd.ntmps7
  go_wp2_with fail
  refine (alive_any _ HT.out hs).mono ?_
  rintro e w1 ⟨rfl, hb⟩
  have HB := Lib.hid hb
  have HV0 : Hid (IsBytes w1 (.slice b0 n cap0) (z0.take n)) := (H0.out.below hb).take n hn0
  have HV1 : Hid (IsBytes w1 (.slice b1 n cap1) (z1.take n)) := (H1.out.below hb).take n hn1
  have HV2 : Hid (IsBytes w1 (.slice b2 len2 cap2) z2) := H2.out.below hb
  have HT1 : Hid (TabT w1) := HT.out.below hb hs
  clear hb
  go_upto_region 3 with fail
  go_cut [7] (fun s7 wx => s7 = .int .i64 (n : Int) ∧ wx = w1)
  case first =>
    go_wp2_with fail
    all_goals (go_meet; exact ⟨congrArg _ (by have := HN.out; omega), rfl⟩)
  case rest =>
    obtain ⟨rfl, rfl⟩ := hcut
    by_cases hl : 3000 < len2
    · go_wp2
      go_ret
      exact ⟨rfl, HB.out⟩
    have hc0 : (n : Int) ≤ cap0 := by omega
    have hc1 : (n : Int) ≤ cap1 := by omega
    go_wp2_with fail
    go_quiet ((go_at_call 12; first | exact Calls.quiet_of (sum_any _ _ _ (by exact HV0.out) (by exact HT1.out)) | exact Calls.quiet_of (sum_any _ _ _ (by exact HV1.out) (by exact HT1.out))))
    have hx := C.nxt_lt (s := 0) (by decide) (range_take H0.out.range n)
    have hy := C.nxt_lt (s := 0) (by decide) (range_take H1.out.range n)
    generalize C.nxt 0 (z0.take n) = x at *
    generalize C.nxt 0 (z1.take n) = y at *
    have hr2 := H2.out.range
    have hxz := C.nxt_lt hx hr2
    have hyz := C.nxt_lt hy hr2
    have hxo := C.nxt_lt hx (zeros_range len2)
    have hyo := C.nxt_lt hy (zeros_range len2)
    have E1 := Lib.hid (xor_num hxz hyz rfl)
    have E2 : Hid (bits .xor .u32 ((C.nxt x (List.replicate len2 0) : Nat) : Int) ((C.nxt y (List.replicate len2 0) : Nat) : Int) = ((C.nxt x z2 ^^^ C.nxt y z2 : Nat) : Int)) :=
      xor_num hxo hyo (by rw [C.nxt_xor (zeros_range len2), C.nxt_xor hr2, List.length_replicate, HZ2.out])
    have E3 := Lib.hid (nxt_beq _ _ (x : Int) (y : Int) ((C.nxt_inj hx hy hr2).trans (by omega)))
    clear hr2 hxz hyz hxo hyo
    obtain ⟨i0, hi, hiz0, hiz1, hiz2⟩ := info_parts info_u8
    go_wp2_with (refine wpList_make_full _ rfl _ _ 23 rfl wc.heap.size 5 i0 (.int .u8 0) 1 Tryd.underlying23 hi hiz0 hiz1 .i64 .i64 len2 len2 len2 rfl rfl rfl rfl (by rw [hiz2]; omega) (by unfold maxLen; omega) (by simp) ?_)
    intro w2 hown hg
    have hb2 : Below w.heap.size w w2 := (below_drewN' HB.out nq).grown hg (by have := HB.out.size; simpa using this) (fun k hk => by cases hk)
    have HVZ : Hid (IsBytes w2 (.slice (some ⟨wc.heap.size, 0, none⟩) len2 len2) (List.replicate len2 0)) := isBytes_made hown
    have HV2' : Hid (IsBytes w2 (.slice b2 len2 cap2) z2) := H2.out.below hb2
    have HT2 : Hid (TabT w2) := HT.out.below hb2 hs
    have HB2 := Lib.hid hb2
    clear hown hg hb2
    go_wp2_with fail
    refine (next_any _ _ x _ HV2'.out hx HT2.out).mono ?_
    rintro e w' ⟨rfl, m1, rfl⟩
    go_wp2_with fail
    refine (next_any _ _ y _ (by exact HV2'.out) hy (by exact HT2.out)).mono ?_
    rintro e w' ⟨rfl, m2, rfl⟩
    go_wp2_with fail
    refine (next_any _ _ x _ (by exact HVZ.out) hx (by exact HT2.out)).mono ?_
    rintro e w' ⟨rfl, m3, rfl⟩
    go_wp2_with fail
    refine (next_any _ _ y _ (by exact HVZ.out) hy (by exact HT2.out)).mono ?_
    rintro e w' ⟨rfl, m4, rfl⟩
    have e1 := E1.out
    have e2 := E2.out
    go_wp2_with fail
    clear e1 e2
    refine (next_any _ _ x _ (by exact HV2'.out) hx (by exact HT2.out)).mono ?_
    rintro e w' ⟨rfl, m5, rfl⟩
    go_wp2_with fail
    refine (next_any _ _ y _ (by exact HV2'.out) hy (by exact HT2.out)).mono ?_
    rintro e w' ⟨rfl, m6, rfl⟩
    have e3 := E3.out
    go_wp2
    go_ret
    exact ⟨rfl, below_drewN' HB2.out _⟩
end Go.Proofs.YtjkkmnmgkglcoaaDoor
