
/- Layer 5: the contract of Open, for a device of the call's own that is up, and for none. -/
import Derived.Test.YtmelmiookkeoaaaDoorHdG

import Derived.Test.YtmelmiookkeoaaaDoorHdF

namespace Go.Proofs.YtmelmiookkeoaaaDoor

open Go.RowKit

/-- What Open answers of a device that is up. -/
def V.Dv.opens (d : V.Dv) : V.Sh × Int := if 19 ≤ d.lines.length ∧ d.words 0 8 = V.wrds d.lines.length then (V.Sh.at d.lines.length, 0) else (V.Sh.zero, 5)

section

variable {w0 wr : World} {v : Value} {d : V.Dv} {p : Option Addr} {K : List Nat}

theorem V.Sh.words_len (n : Nat) (h : n ≤ 1024) : (V.Sh.of (n : Int)).words = if 19 ≤ n then V.wrds n else [] := by
  rw [V.Sh.words_of, Int.toNat_natCast]
  by_cases hn : 19 ≤ n
  · rw [if_pos (by omega), if_pos hn]
  · rw [if_neg (by omega), if_neg hn]
theorem V.Sh.of_form (n : Nat) (h : n ≤ 1024) : V.Sh.of (n : Int) = if 19 ≤ n then V.Sh.at n else V.Sh.zero := by
  by_cases hn : 19 ≤ n
  · rw [if_pos hn, V.Sh.of_nat ⟨hn, h⟩]
  · rw [if_neg hn, V.Sh.of_no (by omega)]
set_option maxHeartbeats 400000 in
set_option maxRecDepth 100000 in
theorem in_open (h : DevIn w0 (.pointer p) d wr) (hleft : d.left ≠ 0) (hT : TabT w0) (hg : 0 < w0.heap.size) :
    Calls Tryd.prog 23 #[.pointer p] wr fun e w' => e = .returned (.tuple #[shV d.opens.1, .int .i64 d.opens.2]) ∧ DevIn w0 (.pointer p) d w' ∧ Below wr.heap.size wr w' := by
  have hm := h.good.most
  have h1 := h.good.some
  have HSZ := Lib.hid h.below.size
  have hr : d.room 0 (8 : Nat) = 0 := V.room_zero.2 ⟨by omega, by omega, by omega, by omega⟩
  have HK : Hid (∀ o, DevK w0 (.pointer p) d [wr.heap.size] (wr.alloc o)) := fun o => h.devK.newer ((Below.refl _ _).alloc (Nat.le_refl _) o) (fun k hk => by rw [List.mem_singleton.1 hk]; exact .inr ⟨Nat.le_refl _, by simp⟩)
  have HGET : Hid (∀ o, Calls Tryd.prog 47 #[.pointer p, .int .i64 0, .int .i64 8] (wr.alloc o) fun e w' => ∃ v, e = .returned (.tuple #[v, .int .i64 0]) ∧ NewWords (wr.alloc o) (d.words 0 8) v w' ∧ DevIn w0 (.pointer p) d w') := fun o => in_get (HK.out o).devIn 0 ⟨by decide, by decide⟩ 8 (by omega) hr hleft
  have HWL : Hid ((d.words 0 8).length = 8) := V.words_length _ _ _
  have HOP : Hid (d.opens = if d.words 0 8 = (V.Sh.of (d.lines.length : Int)).words then (V.Sh.of (d.lines.length : Int), 0) else (V.Sh.zero, 5)) := by
    show _ = _
    rw [V.Sh.words_len _ hm, V.Sh.of_form _ hm]
    unfold V.Dv.opens
    by_cases hn : 19 ≤ d.lines.length
    · simp [hn]
    · rw [if_neg (fun e => hn e.1), if_neg hn, if_neg (fun e => by have := HWL.out; rw [e] at this; simp at this)]
  have HLN : Hid (∀ w1, DevIn w0 (.pointer p) d w1 → Calls Tryd.prog 41 #[.pointer p] w1 fun e w' => e = .returned (.int .i64 (d.lines.length : Int)) ∧ w1 = w') := fun w1 h => in_lines h
  have HOF : Hid (∀ w1, Calls Tryd.prog 12 #[.int .i64 (d.lines.length : Int)] w1 (ShPost w1 (V.Sh.of d.lines.length) (.bool (V.isSh d.lines.length)))) := fun w1 => hd_of _ _ ⟨by omega, by omega⟩
  have hlin : I64 (V.Sh.of (d.lines.length : Int)).lines := by
    rw [V.Sh.of_form _ hm]
    split
    · exact ⟨by show (_ : Int) ≤ (d.lines.length : Int); omega, by show (d.lines.length : Int) ≤ _; omega⟩
    · exact ⟨by decide, by decide⟩
  have HWD : Hid (∀ w2, Below w0.heap.size w0 w2 → Calls Tryd.prog 15 #[shV (V.Sh.of d.lines.length)] w2 (WordsPost w2 (V.Sh.of (d.lines.length : Int)).words)) := fun w2 hb => hd_words w2 _ hlin (hT.below hb hg) (Nat.lt_of_lt_of_le hg hb.size)
  rw [HOP.out]
  clear h hr hleft hT HOP hlin h1
  generalize hws : d.words 0 8 = ws at *
  clear hws
  generalize (V.Sh.of (d.lines.length : Int)).words = sw at *
  generalize V.isSh (d.lines.length : Int) = isb at *
  generalize hsh : V.Sh.of (d.lines.length : Int) = sh at *
  clear hsh
  obtain ⟨sa, sb, sc, sd⟩ := sh
  unfold shV ShPost shV at *
  dsimp only at *
  generalize d.lines.length = n at *
  go_enter Tryd.func23, Tryd.ntmps23
  go_wp2_with fail
  refine (HGET.out _).mono ?_
  rintro e w1 ⟨v, rfl, ⟨ga, rfl, hga, hwa, hba, hla⟩, hd1⟩
  rw [HWL.out] at hwa ⊢
  have HD1 := Lib.hid hd1
  have hlt0 : wr.heap.size < (wr.alloc (.cells #[.int .i64 0, .int .i64 0, .int .i64 0, .int .i64 0] 25 (0, 0))).heap.size := by simp
  have HRB1 : Hid (w1.heap[wr.heap.size]? = some (.cells #[.int .i64 0, .int .i64 0, .int .i64 0, .int .i64 0] 25 (0, 0))) := (hba.block _ hlt0).trans (heap_alloc_new wr _)
  have HB1 : Hid (Below wr.heap.size wr w1) := ((Below.refl _ _).alloc (Nat.le_refl _) _).trans (hba.mono (by simp))
  have HDK1 := Lib.hid ((HK.out _).newer hba (fun k hk => .inl hk))
  have HWA := Lib.hid hwa
  clear hga hwa hba hla hd1 hlt0
  go_wp2_with fail
  refine (HLN.out _ HD1.out).mono ?_
  rintro e w2 ⟨rfl, rfl⟩
  go_wp2_with fail
  refine (HOF.out _).mono ?_
  rintro e w2 ⟨rfl, hb2⟩
  have hbx := hb2.trans (((Below.refl _ _).alloc (Nat.le_refl _) (.cells #[.int .i64 sa, .int .i64 sb, .int .i64 sc, .int .i64 sd] 25 (0, 0))).mono hb2.size)
  have HRB3 : Hid ((w2.alloc (.cells #[.int .i64 sa, .int .i64 sb, .int .i64 sc, .int .i64 sd] 25 (0, 0))).heap[wr.heap.size]? = some (.cells #[.int .i64 0, .int .i64 0, .int .i64 0, .int .i64 0] 25 (0, 0))) := by
    have h := HRB1.out
    exact (hbx.block _ (Array.getElem?_eq_some_iff.1 h).1).trans h
  have HRC3 : Hid ((w2.alloc (.cells #[.int .i64 sa, .int .i64 sb, .int .i64 sc, .int .i64 sd] 25 (0, 0))).heap[w2.heap.size]? = some (.cells #[.int .i64 sa, .int .i64 sb, .int .i64 sc, .int .i64 sd] 25 (0, 0))) := heap_alloc_new w2 _
  have HDK3 := Lib.hid (HDK1.out.newer hbx (fun k hk => .inl hk))
  have HB3 : Hid (Below wr.heap.size wr (w2.alloc (.cells #[.int .i64 sa, .int .i64 sb, .int .i64 sc, .int .i64 sd] 25 (0, 0)))) := HB1.out.trans (hbx.mono HB1.out.size)
  have HWA3 := Lib.hid (HWA.out.below hbx)
  have HWD3 := Lib.hid (HWD.out _ HDK3.out.devIn.below)
  have y0 := (four' HRC3.out).1.1
  have y1 := (four' HRC3.out).1.2.1
  have y2 := (four' HRC3.out).1.2.2.1
  have y3 := (four' HRC3.out).1.2.2.2
  clear hb2 hbx
  go_wp2_with fail
  refine HWD3.out.mono ?_
  rintro e w4 ⟨v, rfl, hv, hb4⟩
  have hv' := hv
  obtain ⟨A, cap, rfl, _⟩ := hv'
  rw [List.length_map] at hv ⊢
  have HEQ := Lib.hid (words_equal (HWA3.out.below hb4) hv)
  have HB4 : Hid (Below wr.heap.size wr w4) := HB3.out.trans (hb4.mono HB3.out.size)
  have HDK4 := Lib.hid (HDK3.out.newer hb4 (fun k hk => .inl hk))
  have hrb4 : w4.heap[wr.heap.size]? = some (.cells #[.int .i64 0, .int .i64 0, .int .i64 0, .int .i64 0] 25 (0, 0)) := by
    have h := HRB3.out
    exact (hb4.block _ (Array.getElem?_eq_some_iff.1 h).1).trans h
  have hrc4 : w4.heap[w2.heap.size]? = some (.cells #[.int .i64 sa, .int .i64 sb, .int .i64 sc, .int .i64 sd] 25 (0, 0)) := by
    have h := HRC3.out
    exact (hb4.block _ (Array.getElem?_eq_some_iff.1 h).1).trans h
  have HRB4 := Lib.hid hrb4
  have HRC4 := Lib.hid hrc4
  clear hv hb4 hrb4 hrc4 y0 y1 y2 y3
  go_wp2_with fail
  refine HEQ.out.mono ?_
  rintro e w5 ⟨rfl, m, hw5⟩
  have HB5 : Hid (∀ v0 v1 v2 v3 : Value, Below wr.heap.size wr ((((w5.setCell ⟨wr.heap.size, 0, none⟩ v0).setCell ⟨wr.heap.size, 1, none⟩ v1).setCell ⟨wr.heap.size, 2, none⟩ v2).setCell ⟨wr.heap.size, 3, none⟩ v3)) := sets_below' (by rw [hw5]; exact below_drewN' HB4.out m) (Nat.le_refl _)
  have HDK5 : Hid (DevK w0 (.pointer p) d [wr.heap.size] w5) := by rw [hw5]; exact HDK4.out.drewN m
  have hrc5 : w5.heap[w2.heap.size]? = some (.cells #[.int .i64 sa, .int .i64 sb, .int .i64 sc, .int .i64 sd] 25 (0, 0)) := by rw [hw5]; exact HRC4.out
  have hrb5 : w5.heap[wr.heap.size]? = some (.cells #[.int .i64 0, .int .i64 0, .int .i64 0, .int .i64 0] 25 (0, 0)) := by rw [hw5]; exact HRB4.out
  obtain ⟨⟨x0, x1, x2, x3⟩, _⟩ := four' hrc5
  obtain ⟨⟨z0, z1, z2, z3⟩, ⟨f0, f1, f2, f3⟩⟩ := four' hrb5
  clear hw5 hrc5 hrb5 HEQ HWD3 HRB3 HRC3 HDK3 HWA3 HDK1 HRB1 HWA HOF HLN HWD HGET HK
  by_cases he : ws = sw
  · rw [decide_eq_true he]
    have HE := Lib.hid he
    clear he
    go_wp2
    exact bodyPost_ret (v := .tuple #[.agg #[.int .i64 sa, .int .i64 sb, .int .i64 sc, .int .i64 sd], .int .i64 0]) (by simp [results, Tryd.results23, go_sem, z0, z1, z2, z3]) rfl ⟨by simp, HDK5.out.sets (by simp) HSZ.out _ _ _ _, HB5.out _ _ _ _⟩
  · rw [decide_eq_false he]
    have HE := Lib.hid he
    clear he
    go_wp2
    exact bodyPost_ret (v := .tuple #[.agg #[.int .i64 0, .int .i64 0, .int .i64 0, .int .i64 0], .int .i64 5]) (by simp [results, Tryd.results23, go_sem, z0, z1, z2, z3]) rfl ⟨by simp [V.Sh.zero], HDK5.out.sets (by simp) HSZ.out _ _ _ _, HB5.out _ _ _ _⟩
end

/-- Of no device. -/
theorem no_sure_place (w : World) (off many : Int) : Calls Tryd.prog 54 #[.pointer none, .int .i64 off, .int .i64 many] w fun e w' => e = .returned (.int .i64 1) ∧ w = w' := by
  have HS := Lib.hid (no_size (w := w) (v := .pointer none) (.inl rfl))
  go_enter Tryd.func54, Tryd.ntmps54
  go_wp2_with fail
  refine HS.out.mono ?_
  rintro e w' ⟨rfl, rfl⟩
  go_wp2
  go_ret
  exact ⟨rfl, rfl⟩
theorem no_get (w : World) (off many : Int) : Calls Tryd.prog 47 #[.pointer none, .int .i64 off, .int .i64 many] w fun e w' => e = .returned (.tuple #[.slice none 0 0, .int .i64 1]) ∧ w = w' := by
  have HS := Lib.hid (no_sure_place w off many)
  go_enter Tryd.func47, Tryd.ntmps47
  go_wp2_with fail
  refine HS.out.mono ?_
  rintro e w' ⟨rfl, rfl⟩
  go_wp2
  go_ret2
  exact ⟨rfl, rfl⟩
theorem no_open (w : World) : Calls Tryd.prog 23 #[.pointer none] w fun e w' => e = .returned (.tuple #[shV V.Sh.zero, .int .i64 1]) ∧ Below w.heap.size w w' := by
  have HS : Hid (∀ o, Calls Tryd.prog 47 #[.pointer none, .int .i64 0, .int .i64 8] (w.alloc o) fun e w' => e = .returned (.tuple #[.slice none 0 0, .int .i64 1]) ∧ w.alloc o = w') := fun o => no_get _ _ _
  have HB : Hid (∀ a : Obj, Below w.heap.size w (w.alloc a)) := fun a => (Below.refl _ _).alloc (Nat.le_refl _) a
  go_enter Tryd.func23, Tryd.ntmps23
  go_wp2_with fail
  refine (HS.out _).mono ?_
  rintro e w' ⟨rfl, rfl⟩
  go_wp2
  exact bodyPost_ret (v := .tuple #[shV V.Sh.zero, .int .i64 1]) (by simp [results, Tryd.results23, go_sem, shV, V.Sh.zero]) rfl ⟨rfl, HB.out _⟩
end Go.Proofs.YtmelmiookkeoaaaDoor
