
/- Contracts of a device's Size, state, place, lineOf and done. -/
import Derived.Test.YtmelmiookkeoaaaDoorNvDa

import Derived.Handy

namespace Go.Proofs.YtmelmiookkeoaaaDoor

open Go.RowKit

section

variable {w : World} {D L : Nat} {ps : List (V.Ln × Value)} {left : Int} {steps : Nat}

theorem dv_size (h : DevAt w D L ps left steps) (hn : ps.length ≤ 1024) :
    Calls Tryd.prog 40 #[.pointer (some ⟨D, 0, none⟩)] w fun e w' => e = .returned (.int .i64 (64 * ps.length : Nat)) ∧ w = w' := by
  have c0 := h.c0
  clear h
  go_enter Tryd.func40, Tryd.ntmps40
  go_wp2
  go_ret
  exact ⟨ret_int (by omega), rfl⟩

theorem dv_state (h : DevAt w D L ps left steps) (hn0 : 1 ≤ ps.length) (hn : ps.length ≤ 1024) :
    Calls Tryd.prog 44 #[.pointer (some ⟨D, 0, none⟩)] w fun e w' => e = .returned (.int .i64 (if left = 0 then 12 else 0)) ∧ w = w' := by
  have HS := Lib.hid (dv_size h hn)
  have c1 := h.c1
  have hne : (((64 * ps.length : Nat) : Int) == 0) = false := beq_eq_false_iff_ne.2 (by omega)
  clear h
  generalize 64 * ps.length = s at *
  by_cases hl : left = 0
  · rw [if_pos hl]
    subst hl
    go_enter Tryd.func44, Tryd.ntmps44
    go_wp2_with fail
    refine HS.out.mono ?_
    rintro e w' ⟨rfl, rfl⟩
    go_wp2
    go_ret
    exact ⟨rfl, rfl⟩
  · rw [if_neg hl]
    have hl2 : (left == 0) = false := by simp [hl]
    go_enter Tryd.func44, Tryd.ntmps44
    go_wp2_with fail
    refine HS.out.mono ?_
    rintro e w' ⟨rfl, rfl⟩
    go_wp2
    go_ret
    exact ⟨rfl, rfl⟩

theorem dv_place_in (h : DevAt w D L ps left steps) (hn0 : 1 ≤ ps.length) (hn : ps.length ≤ 1024) (off size : Int) (hoff : -9223372036854775808 ≤ off ∧ off ≤ 9223372036854775807) (hs : size = 1 ∨ size = 8) (hl : left ≠ 0) :
    Calls Tryd.prog 36 #[.pointer (some ⟨D, 0, none⟩), .int .i64 off, .int .i64 size] w fun e w' => e = .returned (.int .i64 (if 0 ≤ off ∧ off < 64 * (ps.length : Int) ∧ off % size = 0 then 0 else 4)) ∧ w = w' := by
  have HT := Lib.hid (dv_state h hn0 hn)
  rw [if_neg hl] at HT
  have HS := Lib.hid (dv_size h hn)
  clear h hl
  have hz : ((64 * ps.length : Nat) : Int) = 64 * (ps.length : Int) := by omega
  rw [← hz]
  have hsm : 64 * ps.length ≤ 65536 := by omega
  clear hn hn0 hz
  generalize 64 * ps.length = s at *
  rcases hs with rfl | rfl
  · by_cases h0 : 0 ≤ off
    · by_cases h1 : off < (s : Int)
      · rw [if_pos ⟨h0, h1, by omega⟩]
        go_enter Tryd.func36, Tryd.ntmps36
        go_wp2_with fail
        refine HT.out.mono ?_
        rintro e w' ⟨rfl, rfl⟩
        go_wp2_with fail
        refine HS.out.mono ?_
        rintro e w' ⟨rfl, rfl⟩
        go_wp2
        go_ret
        exact ⟨rfl, rfl⟩
      · rw [if_neg (by omega)]
        go_enter Tryd.func36, Tryd.ntmps36
        go_wp2_with fail
        refine HT.out.mono ?_
        rintro e w' ⟨rfl, rfl⟩
        go_wp2_with fail
        refine HS.out.mono ?_
        rintro e w' ⟨rfl, rfl⟩
        go_wp2
        go_ret
        exact ⟨rfl, rfl⟩
    · rw [if_neg (by omega)]
      go_enter Tryd.func36, Tryd.ntmps36
      go_wp2_with fail
      refine HT.out.mono ?_
      rintro e w' ⟨rfl, rfl⟩
      go_wp2
      go_ret
      exact ⟨rfl, rfl⟩
  · by_cases h0 : 0 ≤ off
    · by_cases h1 : off < (s : Int)
      · by_cases h8 : off % 8 = 0
        · rw [if_pos ⟨h0, h1, h8⟩]
          have H8 := Lib.hid h8
          clear h8
          go_enter Tryd.func36, Tryd.ntmps36
          go_wp2_with fail
          refine HT.out.mono ?_
          rintro e w' ⟨rfl, rfl⟩
          have hb : ((off % 8) != 0) = false := by simpa using H8.out
          go_wp2_with fail
          refine HS.out.mono ?_
          rintro e w' ⟨rfl, rfl⟩
          go_wp2
          go_ret
          exact ⟨rfl, rfl⟩
        · rw [if_neg (by omega)]
          have hb : ((off % 8) != 0) = true := by simpa using h8
          go_enter Tryd.func36, Tryd.ntmps36
          go_wp2_with fail
          refine HT.out.mono ?_
          rintro e w' ⟨rfl, rfl⟩
          go_wp2_with fail
          refine HS.out.mono ?_
          rintro e w' ⟨rfl, rfl⟩
          go_wp2
          go_ret
          exact ⟨rfl, rfl⟩
      · rw [if_neg (by omega)]
        go_enter Tryd.func36, Tryd.ntmps36
        go_wp2_with fail
        refine HT.out.mono ?_
        rintro e w' ⟨rfl, rfl⟩
        go_wp2_with fail
        refine HS.out.mono ?_
        rintro e w' ⟨rfl, rfl⟩
        go_wp2
        go_ret
        exact ⟨rfl, rfl⟩
    · rw [if_neg (by omega)]
      go_enter Tryd.func36, Tryd.ntmps36
      go_wp2_with fail
      refine HT.out.mono ?_
      rintro e w' ⟨rfl, rfl⟩
      go_wp2
      go_ret
      exact ⟨rfl, rfl⟩

theorem dv_place (h : DevAt w D L ps left steps) (hn0 : 1 ≤ ps.length) (hn : ps.length ≤ 1024) (off size : Int) (hoff : -9223372036854775808 ≤ off ∧ off ≤ 9223372036854775807) (hs : size = 1 ∨ size = 8) :
    Calls Tryd.prog 36 #[.pointer (some ⟨D, 0, none⟩), .int .i64 off, .int .i64 size] w fun e w' => e = .returned (.int .i64 (if left = 0 then 12 else if 0 ≤ off ∧ off < 64 * (ps.length : Int) ∧ off % size = 0 then 0 else 4)) ∧ w = w' := by
  by_cases hl : left = 0
  · rw [if_pos hl]
    have HT := Lib.hid (dv_state h hn0 hn)
    rw [if_pos hl] at HT
    clear h hl
    go_enter Tryd.func36, Tryd.ntmps36
    go_wp2_with fail
    refine HT.out.mono ?_
    rintro e w' ⟨rfl, rfl⟩
    go_wp2
    go_ret
    exact ⟨rfl, rfl⟩
  · rw [if_neg hl]
    exact dv_place_in h hn0 hn off size hoff hs hl

theorem dv_lineOf (h : DevAt w D L ps left steps) (hn : ps.length ≤ 1024) (t : Nat) (ht : t < 64 * ps.length) :
    Calls Tryd.prog 37 #[.pointer (some ⟨D, 0, none⟩), .int .i64 (t : Int)] w fun e w' => e = .returned (.pointer (some ⟨L, 66 * (t / 64), none⟩)) ∧ w = w' := by
  have c0 := h.c0
  clear h
  have hq : ((t : Int) / 64) = ((t / 64 : Nat) : Int) := rfl
  have hq2 : t / 64 < ps.length := by omega
  have hq3 : 66 * (t / 64) = t / 64 * 66 := Nat.mul_comm _ _
  rw [hq3]
  clear hq3
  generalize t / 64 = q at *
  have ht2 : t ≤ 65536 := by omega
  generalize ps.length = n at *
  clear ht
  go_enter Tryd.func37, Tryd.ntmps37
  go_wp2
  go_ret
  exact ⟨rfl, rfl⟩

/-- done: a step more, perhaps the last one. -/
theorem dv_done (h : DevAt w D L ps left steps) (hl : -1 ≤ left ∧ left ≤ 1000000000) (hs : steps ≤ 1000000000) :
    Calls Tryd.prog 39 #[.pointer (some ⟨D, 0, none⟩)] w fun e w' => e = .returned (.int .i64 0) ∧ DevAt w' D L ps (if 0 < left then left - 1 else left) (steps + 1) ∧ Only [D] w w' := by
  have c1 := h.c1
  have c2 := h.c2
  have f1 := h.fr 1
  have f2 := h.fr 2
  have HH := Lib.hid h
  by_cases hp : 0 < left
  · rw [if_pos hp]
    clear h
    have hb : decide ((0 : Int) < left) = true := by simpa using hp
    go_enter Tryd.func39, Tryd.ntmps39
    go_wp2
    go_ret
    have hO := (Only.setCell w ⟨D, 2, none⟩ (.int .i64 ((steps : Int) + 1))).trans' (Only.setCell (w.setCell ⟨D, 2, none⟩ (.int .i64 ((steps : Int) + 1))) ⟨D, 1, none⟩ (.int .i64 (left - 1)))
    refine ⟨rfl, HH.out.reset _ _ hO ?_, hO⟩
    have h1 := heap_setCell_same w D 2 _ _ (.int .i64 ((steps : Int) + 1)) HH.out.head
    rw [heap_setCell_same _ D 1 _ _ _ h1]
    rfl
  · rw [if_neg hp]
    clear h
    have hb : decide ((0 : Int) < left) = false := by simpa using hp
    go_enter Tryd.func39, Tryd.ntmps39
    go_wp2
    go_ret
    have hO := Only.setCell w ⟨D, 2, none⟩ (.int .i64 ((steps : Int) + 1))
    refine ⟨rfl, HH.out.reset _ _ hO ?_, hO⟩
    have h1 := heap_setCell_same w D 2 _ _ (.int .i64 ((steps : Int) + 1)) HH.out.head
    rw [h1]
    rfl
end

end Go.Proofs.YtmelmiookkeoaaaDoor
