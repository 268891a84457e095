/- The walk of CrcTells: whatever is handed in, the call answers true, and what was there stays. -/
import Derived.Test.YtjkkmnmgkglcoaaDoorCrcB
namespace Go.Proofs.YtjkkmnmgkglcoaaDoor
open Go.RowKit

theorem crcTells_walk (a0 : Int) (b1 : Option Addr) (len1 cap1 : Nat) (z1 : List Int) (w : World) (w0 : (Lit.int .u32 a0).wf = true) (w1 : IsInts .u8 w (.slice b1 len1 cap1) z1)
    (hT : TabT w) (hs : 0 < w.heap.size) :
    Calls Tryd.prog 3 #[.int .u32 a0, .slice b1 len1 cap1] w fun e w' => e = .returned (.bool true) ∧ Below w.heap.size w w' := by
  have h0 : ∃ s : Nat, a0 = s ∧ s < 4294967296 := by
    simp [Lit.wf, IntKind.min, IntKind.max, IntKind.signed, IntKind.bits] at w0
    exact ⟨a0.toNat, by omega, by omega⟩
  obtain ⟨s, rfl, hsn⟩ := h0
  have hm : len1 ≤ maxLen := by
    obtain ⟨a, cap, h, h1, h2, _⟩ := w1
    simp only [Value.slice.injEq] at h
    obtain ⟨_, rfl, rfl⟩ := h
    omega
  have HV := Lib.hid w1; clear w1 w0
  have HT := Lib.hid hT; clear hT
  unfold maxLen at hm
  by_cases hl : 3000 < len1
  all_goals
    go_enter Tryd.func3, Tryd.ntmps3
    go_wp2_with fail
    refine (alive_any _ HT.out hs).mono ?_
    rintro e w1 ⟨rfl, hb⟩
    have HB := Lib.hid hb
    have HV1 : Hid (IsBytes w1 (.slice b1 len1 cap1) z1) := HV.out.below hb
    have HT1 : Hid (TabT w1) := HT.out.below hb hs
    clear hb
  · go_wp2
    go_ret
    exact ⟨rfl, HB.out⟩
  · go_wp2_with fail
    refine (next_any _ _ s _ HV1.out hsn HT1.out).mono ?_
    rintro e w' ⟨rfl, m1, rfl⟩
    go_wp2_with fail
    refine (rnext_any _ _ s _ (by exact HV1.out) hsn).mono ?_
    rintro e w' ⟨rfl, m2, rfl⟩
    go_wp2_with fail
    refine (sum_any _ _ _ (by exact HV1.out) (by exact HT1.out)).mono ?_
    rintro e w' ⟨rfl, m3, rfl⟩
    go_wp2_with fail
    refine (rsum_any _ _ _ (by exact HV1.out)).mono ?_
    rintro e w' ⟨rfl, m4, rfl⟩
    go_wp2
    go_ret
    exact ⟨rfl, below_drewN' HB.out _⟩
end Go.Proofs.YtjkkmnmgkglcoaaDoor
