/- The statements' own 'alive' answers true; what was there stays. -/
import Derived.Test.YtmamcliidlmghaaNvDh
namespace Go.Proofs.Ytmamcliidlmghaa
open Go.RowKit

section
variable {w0 wr : World} {v : Value}
theorem al_store1 (h : DevIn w0 v A0 wr) : Calls Try.prog 21 #[v, .int .i64 8, .int .u64 5] wr fun e w' => e = .returned (.int .i64 0) ∧ DevIn w0 v A1 w' := by
  have h1 := in_store h 8 (by decide) 5 (by decide) (by rw [a_steps.1]; decide)
  rw [a_err0] at h1
  exact h1
theorem al_may (h : DevIn w0 v A1 wr) : Calls Try.prog 19 #[v, .int .i64 0] wr fun e w' => e = .returned (.int .i64 2) ∧ wr = w' := by
  have h1 := in_may h 0 (by decide) (by rw [a_steps.2.1]; decide)
  rw [a_may] at h1
  exact h1
theorem al_load1 (h : DevIn w0 v A1 wr) : Calls Try.prog 13 #[v, .int .i64 8] wr fun e w' => e = .returned (.tuple #[.int .u64 5, .int .i64 0]) ∧ ∃ m, w' = wr.drewN m := by
  have h1 := in_load h 8 (by decide)
  rw [a_load1.1, a_load1.2] at h1
  exact h1
theorem al_crash1 (h : DevIn w0 v A1 wr) : Calls Try.prog 17 #[v, .slice none 0 0] wr fun e w' => e = .returned (.tuple #[]) ∧ DevIn w0 v A2 w' :=
  in_crash h none 0 0 [] (IsInts.nil _ _) (fun _ a e => by cases e) (by rw [a_steps.2.1]; decide)
theorem al_load2 (h : DevIn w0 v A2 wr) : Calls Try.prog 13 #[v, .int .i64 8] wr fun e w' => e = .returned (.tuple #[.int .u64 0, .int .i64 0]) ∧ ∃ m, w' = wr.drewN m := by
  have h1 := in_load h 8 (by decide)
  rw [a_load2.1, a_load2.2] at h1
  exact h1
theorem al_store2 (h : DevIn w0 v A2 wr) : Calls Try.prog 21 #[v, .int .i64 8, .int .u64 6] wr fun e w' => e = .returned (.int .i64 0) ∧ DevIn w0 v A3 w' := by
  have h1 := in_store h 8 (by decide) 6 (by decide) (by rw [a_steps.2.2.1]; decide)
  rw [a_load2.2] at h1
  exact h1
theorem al_flush (h : DevIn w0 v A3 wr) : Calls Try.prog 9 #[v, .int .i64 8] wr fun e w' => e = .returned (.int .i64 0) ∧ DevIn w0 v A4 w' := by
  have h1 := in_flush h 8 (by decide) (by rw [a_steps.2.2.2.1]; decide)
  rw [a_err3.1] at h1
  exact h1
theorem al_fence (h : DevIn w0 v A4 wr) : Calls Try.prog 11 #[v] wr fun e w' => e = .returned (.int .i64 0) ∧ DevIn w0 v A5 w' := by
  have h1 := in_fence h (by rw [a_steps.2.2.2.2.1]; decide)
  rw [a_err3.2] at h1
  exact h1
theorem al_crash2 (h : DevIn w0 v A5 wr) : Calls Try.prog 17 #[v, .slice (some ⟨wr.heap.size, 0, none⟩) 1 1] (wr.alloc (.cells #[.int .u8 3] 5)) fun e w' => e = .returned (.tuple #[]) ∧ DevIn w0 v A6 w' := by
  obtain ⟨F, h1, h2, h3⟩ := h
  have hb : Below wr.heap.size wr (wr.alloc (.cells #[.int .u8 3] 5)) := (Below.refl _ _).alloc (Nat.le_refl _) _
  have h1' : Dev (wr.alloc (.cells #[.int .u8 3] 5)) v A5 F := h1.only (Only.of_below (F := []) hb) (fun k hk => by simp at hk)
  have hp : IsBytes (wr.alloc (.cells #[.int .u8 3] 5)) (.slice (some ⟨wr.heap.size, 0, none⟩) 1 1) [3] := isBytes_block' (zs := [3]) (heap_alloc_new wr _) (by decide) (by decide)
  exact (dev_crash h1' _ 1 1 [3] hp (fun _ a e hf => by cases e; have := h1.lt _ hf; simp at this) (by rw [a_steps.2.2.2.2.2]; decide)).mono fun e w' ⟨a, b⟩ => ⟨a, DevIn.step h2 (h3.trans (hb.mono h3.size)) b⟩
theorem al_load3 (h : DevIn w0 v A6 wr) : Calls Try.prog 13 #[v, .int .i64 8] wr fun e w' => e = .returned (.tuple #[.int .u64 6, .int .i64 0]) ∧ ∃ m, w' = wr.drewN m := by
  have h1 := in_load h 8 (by decide)
  rw [a_load6.1, a_load6.2.1] at h1
  exact h1
theorem al_size (h : DevIn w0 v A6 wr) : Calls Try.prog 26 #[v] wr fun e w' => e = .returned (.int .i64 128) ∧ wr = w' := by
  have h1 := in_size h
  rw [a_load6.2.2.1] at h1
  exact h1
theorem al_steps (h : DevIn w0 v A6 wr) : Calls Try.prog 23 #[v] wr fun e w' => e = .returned (.int .i64 4) ∧ wr = w' := by
  have h1 := in_steps h
  rw [a_load6.2.2.2.1] at h1
  exact h1
theorem al_image (h : DevIn w0 v A6 wr) : Calls Try.prog 24 #[v] wr fun e w' => (∃ g, e = .returned (.slice (some ⟨g, 0, none⟩) 128 128)) ∧ DevIn w0 v A6 w' := by
  refine (in_image h).mono ?_
  rintro e w' ⟨⟨g, he, _⟩, h2⟩
  rw [a_load6.2.2.2.2.1] at he
  exact ⟨⟨g, he⟩, h2⟩
theorem al_store3 (h : DevIn w0 v A6 wr) : Calls Try.prog 21 #[v, .int .i64 4, .int .u64 1] wr fun e w' => e = .returned (.int .i64 4) ∧ Below w0.heap.size w0 w' := by
  have h1 := in_store h 4 (by decide) 1 (by decide) (by rw [a_load6.2.2.2.1]; decide)
  rw [a_load6.2.2.2.2.2] at h1
  exact h1.mono fun e w' ⟨a, b⟩ => ⟨a, b.below⟩
end

set_option maxRecDepth 100000 in
theorem alive_any (w : World) : Calls Try.prog 4 #[] w fun e w' => e = .returned (.bool true) ∧ Below w.heap.size w w' := by
  have HN := Lib.hid (in_new 2 (by decide) (by decide) w w (Below.refl _ _))
  go_enter Try.func4, Try.ntmps4
  go_wp2_with fail
  refine HN.out.mono ?_
  rintro e w1 ⟨D, rfl, h1⟩
  have H1 := Lib.hid h1; clear h1
  go_wp2_with fail
  refine (al_store1 H1.out).mono ?_
  rintro e w2 ⟨rfl, h2⟩
  have H2 := Lib.hid h2; clear h2
  go_wp2_with fail
  refine (al_may H2.out).mono ?_
  rintro e w' ⟨rfl, rfl⟩
  go_wp2_with fail
  refine (al_load1 H2.out).mono ?_
  rintro e w' ⟨rfl, m, rfl⟩
  go_wp2_with fail
  refine (al_crash1 (H2.out.drewN m)).mono ?_
  rintro e w3 ⟨rfl, h3⟩
  have H3 := Lib.hid h3; clear h3
  go_wp2_with fail
  refine (al_load2 H3.out).mono ?_
  rintro e w' ⟨rfl, m3, rfl⟩
  go_wp2_with fail
  refine (al_store2 (H3.out.drewN m3)).mono ?_
  rintro e w4 ⟨rfl, h4⟩
  have H4 := Lib.hid h4; clear h4
  go_wp2_with fail
  refine (al_flush H4.out).mono ?_
  rintro e w5 ⟨rfl, h5⟩
  have H5 := Lib.hid h5; clear h5
  go_wp2_with fail
  refine (al_fence H5.out).mono ?_
  rintro e w6 ⟨rfl, h6⟩
  have H6 := Lib.hid h6; clear h6
  go_wp2_with fail
  refine (al_crash2 H6.out).mono ?_
  rintro e w7 ⟨rfl, h7⟩
  have H7 := Lib.hid h7; clear h7
  go_wp2_with fail
  refine (al_load3 H7.out).mono ?_
  rintro e w' ⟨rfl, m7, rfl⟩
  go_wp2_with fail
  refine (al_size (H7.out.drewN m7)).mono ?_
  rintro e w' ⟨rfl, rfl⟩
  go_wp2_with fail
  refine (al_steps (H7.out.drewN m7)).mono ?_
  rintro e w' ⟨rfl, rfl⟩
  go_wp2_with fail
  refine (al_image (H7.out.drewN m7)).mono ?_
  rintro e w8 ⟨⟨g, rfl⟩, h8⟩
  have H8 := Lib.hid h8; clear h8
  go_wp2_with fail
  refine (al_store3 H8.out).mono ?_
  rintro e w9 ⟨rfl, h9⟩
  have H9 := Lib.hid h9; clear h9
  go_wp2
  go_ret
  exact ⟨rfl, H9.out⟩
end Go.Proofs.Ytmamcliidlmghaa
