/- Layer 4's own 'alive' answers true; what was there stays. -/
import Derived.Test.YtccdmcidfnmnjaaSuE
namespace Go.Proofs.Ytccdmcidfnmnjaa
open Go.RowKit

section
variable {w0 wr : World} {p : Option Addr}
theorem bl_put (h : DevIn w0 (.pointer p) B0 wr) : Calls Try.prog 37 #[.pointer p, .int .i64 8, .int .u64 5] wr fun e w' => e = .returned (.int .i64 0) ∧ DevIn w0 (.pointer p) B1 w' := by
  have h1 := in_put h 8 (by decide) 5 (by decide) b_put.2.1
  rw [b_put.1] at h1
  exact h1
theorem bl_steps1 (h : DevIn w0 (.pointer p) B1 wr) : Calls Try.prog 27 #[.pointer p] wr fun e w' => e = .returned (.int .i64 3) ∧ wr = w' := by
  have h1 := in_steps h
  rw [b_put.2.2] at h1
  exact h1
theorem bl_all (h : DevIn w0 (.pointer p) B1 wr) : Calls Try.prog 33 #[.pointer p, .int .i64 16, .slice (some ⟨wr.heap.size, 0, none⟩) 2 2] (wr.alloc (.cells #[.int .u64 1, .int .u64 2] 33)) fun e w' => e = .returned (.int .i64 0) ∧ DevIn w0 (.pointer p) B2 w' := by
  have h1 := in_putAll (h.alloc (.cells #[.int .u64 1, .int .u64 2] 33)) 16 (by decide) (some ⟨wr.heap.size, 0, none⟩) 2 2 [1, 2] (isWords_block (l := [1, 2]) (heap_alloc_new wr _) (by decide) (by decide)) (by rw [b_put.2.2]; decide)
  rw [b_all.1] at h1
  exact h1
theorem bl_steps2 (h : DevIn w0 (.pointer p) B2 wr) : Calls Try.prog 27 #[.pointer p] wr fun e w' => e = .returned (.int .i64 7) ∧ wr = w' := by
  have h1 := in_steps h
  rw [b_all.2] at h1
  exact h1
theorem bl_crash (h : DevIn w0 (.pointer p) B2 wr) : Calls Try.prog 21 #[.pointer p, .slice (some ⟨wr.heap.size, 0, none⟩) 1 1] (wr.alloc (.cells #[.int .u8 1] 5)) fun e w' => e = .returned (.tuple #[]) ∧ DevIn w0 (.pointer p) B3 w' := by
  obtain ⟨F, h1, h2, h3⟩ := h
  have hb : Below wr.heap.size wr (wr.alloc (.cells #[.int .u8 1] 5)) := (Below.refl _ _).alloc (Nat.le_refl _) _
  have h1' : Dev (wr.alloc (.cells #[.int .u8 1] 5)) (.pointer p) B2 F := h1.only (Only.of_below (F := []) hb) (fun k hk => by simp at hk)
  have hp : IsBytes (wr.alloc (.cells #[.int .u8 1] 5)) (.slice (some ⟨wr.heap.size, 0, none⟩) 1 1) [1] := isBytes_block' (zs := [1]) (heap_alloc_new wr _) (by decide) (by decide)
  exact (dev_crash h1' _ 1 1 [1] hp (fun _ a e hf => by cases e; have := h1.lt _ hf; simp at this) (by rw [b_all.2]; decide)).mono fun e w' ⟨a, b⟩ => ⟨a, DevIn.step h2 (h3.trans (hb.mono h3.size)) b⟩
theorem bl_get (h : DevIn w0 (.pointer p) B3 wr) : Calls Try.prog 34 #[.pointer p, .int .i64 8, .int .i64 3] wr fun e w' => ∃ g, e = .returned (.tuple #[.slice (some ⟨g, 0, none⟩) 3 3, .int .i64 0]) ∧ IsWords w' (.slice (some ⟨g, 0, none⟩) 3 3) [5, 1, 2] ∧ DevIn w0 (.pointer p) B3 w' := by
  refine (in_get h 8 (by decide) 3 (by decide) b_get.1 b_get.2.1).mono ?_
  rintro e w' ⟨v, rfl, ⟨g, rfl, _, h2, _⟩, h3⟩
  rw [b_get.2.2.1] at h2 ⊢
  exact ⟨g, rfl, h2, h3⟩
theorem bl_clear (h : DevIn w0 (.pointer p) B3 wr) : Calls Try.prog 36 #[.pointer p, .int .i64 0, .int .i64 1] wr fun e w' => e = .returned (.int .i64 0) ∧ DevIn w0 (.pointer p) B4 w' := by
  have h1 := in_clear h 0 1 (by decide) (by decide) (by rw [b_get.2.2.2]; decide)
  rw [b_clear.1] at h1
  exact h1
theorem bl_clear2 (h : DevIn w0 (.pointer p) B4 wr) : Calls Try.prog 36 #[.pointer p, .int .i64 8, .int .i64 1] wr fun e w' => e = .returned (.int .i64 2) ∧ Below w0.heap.size w0 w' := by
  have h1 := in_clear h 8 1 (by decide) (by decide) b_clear.2.1
  rw [b_clear.2.2] at h1
  exact h1.mono fun e w' ⟨a, b⟩ => ⟨a, b.below⟩
end
set_option maxHeartbeats 1000000 in
set_option maxRecDepth 100000 in
theorem alive4_any (w : World) : Calls Try.prog 31 #[] w fun e w' => e = .returned (.bool true) ∧ Below w.heap.size w w' := by
  have HN := Lib.hid (in_new 4 (by decide) (by decide) w w (Below.refl _ _))
  go_enter Try.func31, Try.ntmps31
  go_wp2_with fail
  refine HN.out.mono ?_
  rintro e w1 ⟨D, rfl, h1⟩
  have H1 := Lib.hid h1; clear h1
  go_wp2_with fail
  refine (bl_put H1.out).mono ?_
  rintro e w2 ⟨rfl, h2⟩
  have H2 := Lib.hid h2; clear h2
  go_wp2_with fail
  refine (bl_steps1 H2.out).mono ?_
  rintro e w' ⟨rfl, rfl⟩
  go_wp2_with fail
  refine (bl_all H2.out).mono ?_
  rintro e w3 ⟨rfl, h3⟩
  have H3 := Lib.hid h3; clear h3
  go_wp2_with fail
  refine (bl_steps2 H3.out).mono ?_
  rintro e w' ⟨rfl, rfl⟩
  go_wp2_with fail
  refine (bl_crash H3.out).mono ?_
  rintro e w4 ⟨rfl, h4⟩
  have H4 := Lib.hid h4; clear h4
  go_wp2_with fail
  refine (bl_get H4.out).mono ?_
  rintro e w5 ⟨g, rfl, hw, h5⟩
  have H5 := Lib.hid h5; clear h5
  have c0 : w5.cell? ⟨g, 0, none⟩ = some (.int .u64 5) := by
    obtain ⟨b, o, x, e1, e2, _, e3⟩ := hw.get 0 (by decide)
    simp only [Option.some.injEq, Addr.mk.injEq, and_true] at e1
    obtain ⟨rfl, rfl⟩ := e1
    obtain rfl : 5 = x := by simpa using e2
    exact e3
  have c1 : w5.cell? ⟨g, 1, none⟩ = some (.int .u64 1) := by
    obtain ⟨b, o, x, e1, e2, _, e3⟩ := hw.get 1 (by decide)
    simp only [Option.some.injEq, Addr.mk.injEq, and_true] at e1
    obtain ⟨rfl, rfl⟩ := e1
    obtain rfl : 1 = x := by simpa using e2
    exact e3
  have c2 : w5.cell? ⟨g, 2, none⟩ = some (.int .u64 2) := by
    obtain ⟨b, o, x, e1, e2, _, e3⟩ := hw.get 2 (by decide)
    simp only [Option.some.injEq, Addr.mk.injEq, and_true] at e1
    obtain ⟨rfl, rfl⟩ := e1
    obtain rfl : 2 = x := by simpa using e2
    exact e3
  clear hw
  go_wp2_with fail
  refine (nil_put w5 0 0).mono ?_
  rintro e w6 ⟨rfl, hb6⟩
  have H6 := Lib.hid (H5.out.newer hb6)
  clear hb6
  go_wp2_with fail
  refine (bl_clear H6.out).mono ?_
  rintro e w7 ⟨rfl, h7⟩
  have H7 := Lib.hid h7; clear h7
  go_wp2_with fail
  refine (bl_clear2 H7.out).mono ?_
  rintro e w8 ⟨rfl, h8⟩
  have H8 := Lib.hid h8; clear h8
  go_wp2
  go_ret
  exact ⟨rfl, H8.out⟩
end Go.Proofs.Ytccdmcidfnmnjaa
