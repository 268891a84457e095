
/- Contracts of a line's load, contents, flush and put. Other blocks than the line's stay. -/
import Derived.Test.YtmelmiookkeoaaaDoorNvW

import Derived.Test.YtmelmiookkeoaaaDoorApp

namespace Go.Proofs.YtmelmiookkeoaaaDoor

open Go.RowKit

theorem getW_at {l : V.Ln} (h : l.now.length = 64) {a : Nat} (h8 : a % 8 = 0) (ha : a + 8 ≤ 64) : M.getW l.now (a : Int) = l.get a ∧ M.stands l.now.length (a : Int) = true := by
  have e : M.stands l.now.length (a : Int) = true := by
    simp only [M.stands, decide_eq_true_eq, h]
    omega
  exact ⟨by rw [M.getW, if_pos e, V.Ln.get_eq]; rfl, e⟩
theorem putB_at {l : V.Ln} (h : l.now.length = 64) {a : Nat} (h8 : a % 8 = 0) (ha : a + 8 ≤ 64) (n : Nat) : M.putB l.now (a : Int) n = M.pv l.now a n 8 := by
  rw [M.putB, if_pos (getW_at h h8 ha).2]; rfl

theorem ln_get (w : World) (L : Nat) (pre post : List Value) (l : V.Ln) (v : Value) (a : Nat) (h : LineAt w L pre post l v) (h8 : a % 8 = 0) (ha : a + 8 ≤ 64) :
    Calls Tryd.prog 60 #[.slice (some ⟨L, pre.length, none⟩) 64 64, .int .i64 (a : Int)] w fun e w' => e = .returned (.tuple #[.int .u64 (l.get a : Nat), .bool true]) ∧ ∃ m, w' = w.drewN m := by
  have h1 := get_any _ _ (a : Int) w h.bytes (by omega)
  rw [(getW_at h.good.len h8 ha).1, (getW_at h.good.len h8 ha).2] at h1
  exact h1

theorem ln_load (w : World) (L : Nat) (pre post : List Value) (l : V.Ln) (v : Value) (a : Nat) (h : LineAt w L pre post l v) (h8 : a % 8 = 0) (ha : a + 8 ≤ 64) :
    Calls Tryd.prog 49 #[.pointer (some ⟨L, pre.length, none⟩), .int .i64 (a : Int)] w fun e w' => e = .returned (.int .u64 (l.get a : Nat)) ∧ ∃ m, w' = w.drewN m := by
  have H := Lib.hid (fun w' : World => ln_get w' L pre post l v a)
  have HL := Lib.hid h
  clear h
  generalize pre.length = o at *
  go_enter Tryd.func49, Tryd.ntmps49
  go_wp2_with fail
  refine (H.out _ (by exact HL.out) h8 ha).mono ?_
  rintro e w' ⟨rfl, m, rfl⟩
  go_wp2
  go_ret
  exact ⟨rfl, _, rfl⟩

theorem ln_contents (w : World) (L o : Nat) (A : Option Addr) (n c : Nat) (hc : w.cell? ⟨L, o + 64, none⟩ = some (.slice A n c)) (hn : n ≤ 1000000000) :
    Calls Tryd.prog 45 #[.pointer (some ⟨L, o, none⟩)] w fun e w' => e = .returned (.int .i64 ((n + 1 : Nat) : Int)) ∧ w = w' := by
  go_enter Tryd.func45, Tryd.ntmps45
  go_wp2
  go_ret
  exact ⟨ret_int (by omega), rfl⟩

theorem ln_flush (w : World) (L : Nat) (pre post : List Value) (l : V.Ln) (v : Value) (h : LineAt w L pre post l v) :
    Calls Tryd.prog 67 #[.pointer (some ⟨L, pre.length, none⟩)] w fun e w' => e = .returned (.tuple #[]) ∧ LineAt w' L pre post l.flush v ∧ Only [L] w w' := by
  obtain ⟨A, c, rfl, _⟩ := owns_form h.own
  have hover := h.over
  have hmark := h.mark
  have hfree := h.free (pre.length + 65)
  have HR := Lib.hid (seg_stored h.row 65 (by rw [h.len]; omega) (.int .i64 (l.over.length : Int)))
  have HO := Lib.hid (Only.setCell w ⟨L, pre.length + 65, none⟩ (.int .i64 (l.over.length : Int)))
  have HL := Lib.hid h
  clear h
  generalize pre.length = o at *
  go_enter Tryd.func67, Tryd.ntmps67
  go_wp2
  go_end0
  refine ⟨rfl, ⟨?_, HL.out.good.flush, ?_, HL.out.apart⟩, HO.out⟩
  · have := HR.out
    rw [lineCells_setMark HL.out.good.len _ l.over l.over.length] at this
    exact this
  · exact owns_only HL.out.own HO.out (fun g hg => by have := HL.out.apart; rw [hg] at this; simp at this ⊢; exact this)
end Go.Proofs.YtmelmiookkeoaaaDoor
