/- The statements' own 'alive' answers true, where the table of math/bits.TrailingZeros64 holds its numbers; what was there stays. -/
import Derived.Test.YtgjmicphkhjbhaaDoorWf
import Derived.Handy
namespace Go.Proofs.YtgjmicphkhjbhaaDoor
open Go.RowKit

theorem low1_11 : M.lowS 11 4 = 2 := by decide
theorem low1_15 : M.lowS 15 4 = -1 := by decide
theorem TabAt.below {w w' : World} {B : Nat} {tab : List Nat} {g : Nat} (h : TabAt g tab w) (hb : Below B w w') (hg : g < B) : TabAt g tab w' :=
  fun j hj => (hb.cell (p := ⟨g, j, none⟩) hg).trans (h j hj)

def Z16 : List Int := M.putB (List.replicate 16 0) 8 300
theorem alive_put (v : Value) (w : World) (hv : IsBytes w v (List.replicate 16 0)) :
    Calls Tryd.prog 12 #[v, .int .i64 8, .int .u64 300] w (PutPost w Z16 true) := by
  have h := put_any v _ 8 300 w hv (by decide) (by decide) (by decide)
  rw [show M.stands (List.replicate 16 (0 : Int)).length 8 = true by decide] at h
  exact h
theorem alive_get8 (v : Value) (w : World) (hv : IsBytes w v Z16) :
    Calls Tryd.prog 10 #[v, .int .i64 8] w fun e w' => e = .returned (.tuple #[.int .u64 300, .bool true]) ∧ ∃ m, w' = w.drewN m := by
  have h := get_any v _ 8 w hv (by decide)
  rw [show M.stands Z16.length 8 = true by decide, show M.getW Z16 8 = 300 by decide] at h
  exact h
theorem alive_get4 (v : Value) (w : World) (hv : IsBytes w v Z16) :
    Calls Tryd.prog 10 #[v, .int .i64 4] w fun e w' => e = .returned (.tuple #[.int .u64 0, .bool false]) ∧ ∃ m, w' = w.drewN m := by
  have h := get_any v _ 4 w hv (by decide)
  rw [show M.stands Z16.length 4 = false by decide, show M.getW Z16 4 = 0 by decide] at h
  exact h
theorem alive_field (w : World) : Calls Tryd.prog 14 #[.int .u64 4660, .int .i64 4, .int .i64 8] w fun e w' => e = .returned (.int .u64 35) ∧ ∃ m, w' = w.drewN m :=
  field_any 4660 4 8 w (by decide)
theorem alive_with (w : World) : Calls Tryd.prog 16 #[.int .u64 255, .int .i64 4, .int .i64 4, .int .u64 2] w fun e w' => e = .returned (.int .u64 47) ∧ ∃ m, w' = w.drewN m :=
  with_any 255 2 4 4 w (by decide) (by decide)
theorem alive_low11 (w : World) (hT : TabAt 0 Lib.deBruijn64tab w) : Calls Tryd.prog 18 #[.int .u64 11, .int .i64 4] w fun e w' => e = .returned (.int .i64 2) ∧ ∃ m, w' = w.drewN m := by
  have h := low_any 11 4 w (by decide) hT
  rw [low1_11] at h
  exact h
theorem alive_low15 (w : World) (hT : TabAt 0 Lib.deBruijn64tab w) : Calls Tryd.prog 18 #[.int .u64 15, .int .i64 4] w fun e w' => e = .returned (.int .i64 (-1)) ∧ ∃ m, w' = w.drewN m := by
  have h := low_any 15 4 w (by decide) hT
  rw [low1_15] at h
  exact h

theorem alive_any (w : World) (hT : TabAt 0 Lib.deBruijn64tab w) (hs : 1 ≤ w.heap.size) :
    Calls Tryd.prog 9 #[] w fun e w' => e = .returned (.bool true) ∧ Below w.heap.size w w' := by
  obtain ⟨i0, hi, hz0, hz1, hz2⟩ := info_parts info_u8
  have HT := Lib.hid hT; clear hT
  go_enter Tryd.func9, Tryd.ntmps9
  go_wp2_with (refine wpList_make_full _ rfl _ _ 22 rfl w.heap.size 5 i0 (.int .u8 0) 1 Tryd.underlying22 hi hz0 hz1 .i64 .i64 16 16 16 rfl rfl rfl rfl (by rw [hz2]; omega) (by unfold maxLen; omega) (by simp) ?_)
  intro w1 hown hg
  have hb1 : Below w.heap.size w w1 := (Below.refl _ _).grown hg (Nat.le_refl _) (fun k hk => by cases hk)
  have hz : IsBytes w1 (.slice (some ⟨w.heap.size, 0, none⟩) 16 16) (List.replicate 16 0) := by
    have h := hown
    rw [toList_madeCells_one] at h
    exact IsInts.of_row (xs := List.replicate 16 0) (base := w.heap.size) (e := 5) (by simpa using h) (by decide)
  have HB1 := Lib.hid hb1; have HZ := Lib.hid hz
  clear hown hg hb1 hz
  go_wp2_with fail
  refine (alive_put _ _ HZ.out).mono ?_
  rintro e w2 ⟨v, rfl, hv, hb2⟩
  have HV := Lib.hid hv
  have HB2 : Hid (Below w.heap.size w w2) := HB1.out.trans (hb2.mono HB1.out.size)
  have HT2 : Hid (TabAt 0 Lib.deBruijn64tab w2) := TabAt.below HT.out HB2.out (by omega)
  clear hv hb2
  go_wp2_with fail
  refine (alive_get8 _ _ HV.out).mono ?_
  rintro e w' ⟨rfl, m, rfl⟩
  go_wp2_with fail
  refine (alive_get4 _ _ (HV.out.drewN m)).mono ?_
  rintro e w' ⟨rfl, m2, rfl⟩
  go_wp2_with fail
  refine (alive_field _).mono ?_
  rintro e w' ⟨rfl, m3, rfl⟩
  go_wp2_with fail
  refine (alive_with _).mono ?_
  rintro e w' ⟨rfl, m4, rfl⟩
  go_wp2_with fail
  refine (alive_low11 _ (by exact HT2.out)).mono ?_
  rintro e w' ⟨rfl, m5, rfl⟩
  go_wp2_with fail
  refine (alive_low15 _ (by exact HT2.out)).mono ?_
  rintro e w' ⟨rfl, m6, rfl⟩
  go_wp2
  go_ret
  exact ⟨rfl, below_drewN' HB2.out _⟩
end Go.Proofs.YtgjmicphkhjbhaaDoor
