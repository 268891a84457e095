/- The walk of CrcByte: whatever is handed in, the call answers true, and what was there stays. -/
import Derived.Test.YtjkkmnmgkglcoaaDoorCrcB
namespace Go.Proofs.YtjkkmnmgkglcoaaDoor
open Go.RowKit

theorem next_one (a : Int) (s g : Nat) (w : World) (ha : 0 ≤ a ∧ a ≤ 255) (hs : s < 4294967296) (hg : g = w.heap.size) (hT : TabT (w.alloc (.cells #[.int .u8 a] 5))) :
    Calls Tryd.prog 10 #[.int .u32 s, .slice (some ⟨g, 0, none⟩) 1 1] (w.alloc (.cells #[.int .u8 a] 5)) fun e w' => e = .returned (.int .u32 (C.nxt s [a] : Nat)) ∧ ∃ m, w' = (w.alloc (.cells #[.int .u8 a] 5)).drewN m := by
  subst hg
  exact next_any _ [a] s _ (isBytes_new w [a] 5 (0, 0) (by simpa using ha) (by simp [maxLen])) hs hT
theorem crcByte_walk (a0 a1 a2 : Int) (w : World) (w0 : (Lit.int .u32 a0).wf = true) (w1 : (Lit.int .u8 a1).wf = true) (w2 : (Lit.int .u8 a2).wf = true)
    (hT : TabT w) (hs : 0 < w.heap.size) :
    Calls Tryd.prog 8 #[.int .u32 a0, .int .u8 a1, .int .u8 a2] w fun e w' => e = .returned (.bool true) ∧ Below w.heap.size w w' := by
  have h0 : ∃ s : Nat, a0 = s ∧ s < 4294967296 := by
    simp [Lit.wf, IntKind.min, IntKind.max, IntKind.signed, IntKind.bits] at w0
    exact ⟨a0.toNat, by omega, by omega⟩
  obtain ⟨s, rfl, hsn⟩ := h0
  have h1 : 0 ≤ a1 ∧ a1 ≤ 255 := by
    simp [Lit.wf, IntKind.min, IntKind.max, IntKind.signed, IntKind.bits] at w1
    omega
  have h2 : 0 ≤ a2 ∧ a2 ≤ 255 := by
    simp [Lit.wf, IntKind.min, IntKind.max, IntKind.signed, IntKind.bits] at w2
    omega
  have HI := Lib.hid (nxt_beq _ _ a1 a2 (C.byte_inj hsn h1 h2))
  have HT := Lib.hid hT; clear hT w0 w1 w2
  go_enter Tryd.func8, Tryd.ntmps8
  go_wp2_with fail
  refine (alive_any _ HT.out hs).mono ?_
  rintro e w1 ⟨rfl, hb⟩
  have HB := Lib.hid hb
  have HT1 : Hid (TabT w1) := HT.out.below hb hs
  have hs1 : 0 < w1.heap.size := Nat.lt_of_lt_of_le hs hb.size
  have hsz := hb.size
  clear hb
  go_wp2_with fail
  have HB2 : Hid (Below w.heap.size w (w1.alloc (.cells #[.int .u8 a1] 5))) := HB.out.alloc hsz _
  refine (next_one a1 s _ w1 h1 hsn rfl (HT.out.below HB2.out hs)).mono ?_
  rintro e w' ⟨rfl, m, rfl⟩
  go_wp2_with fail
  have HB3 : Hid (Below w.heap.size w (((w1.alloc (.cells #[.int .u8 a1] 5)).drewN m).alloc (.cells #[.int .u8 a2] 5))) := (below_drewN' HB2.out m).alloc (by simp; omega) _
  refine (next_one a2 s _ ((w1.alloc (.cells #[.int .u8 a1] 5)).drewN m) h2 hsn (by simp) (HT.out.below HB3.out hs)).mono ?_
  rintro e w' ⟨rfl, m2, rfl⟩
  have HT3 : Hid (TabT (((w1.alloc (.cells #[.int .u8 a1] 5)).drewN m).alloc (.cells #[.int .u8 a2] 5))) := HT.out.below HB3.out hs
  have hI := HI.out
  generalize C.nxt s [a1] = x at *
  generalize C.nxt s [a2] = y at *
  go_wp2_with fail
  refine (next_any _ _ s _ (isBytes_none _) hsn (by exact HT3.out)).mono ?_
  rintro e w' ⟨rfl, m3, rfl⟩
  rw [C.nxt_nil]
  go_wp2
  go_ret
  exact ⟨rfl, below_drewN' HB3.out _⟩
end Go.Proofs.YtjkkmnmgkglcoaaDoor
