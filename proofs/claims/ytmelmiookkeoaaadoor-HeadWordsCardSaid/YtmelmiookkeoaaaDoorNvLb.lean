
/- Contract of a line's put: another word, in place. Other blocks than the line's stay. -/
import Derived.Test.YtmelmiookkeoaaaDoorNvLa

namespace Go.Proofs.YtmelmiookkeoaaaDoor

open Go.RowKit

theorem info_arr64 : (Tryd.prog.info? 74).map (·.size) = some 64 := by kernel_rfl
theorem run_arr64 (W : World) (A : Option Addr) (c : Nat) : (Instr.arrayAt 74 (.slice A 64 c)).run Tryd.prog W = .ok (.pointer A) W := by kernel_rfl
theorem range_of_bytes {w : World} {b o cap : Nat} {zs : List Int} (h : IsBytes w (.slice (some ⟨b, o, none⟩) zs.length cap) zs) : w.rangeAt b o (zs.map (Value.int .u8)) := by
  obtain ⟨a, c, e, h1, h2, h3, h4⟩ := h
  simp only [Value.slice.injEq] at e
  obtain ⟨rfl, _, rfl⟩ := e
  intro j v hv
  rw [List.getElem?_map] at hv
  obtain ⟨z, hz, rfl⟩ := Option.map_eq_some_iff.1 hv
  have hj := (List.getElem?_eq_some_iff.1 hz).1
  rcases h3 with rfl | ⟨b', o', e, hc⟩
  · simp at hj
  · simp only [Option.some.injEq, Addr.mk.injEq, and_true] at e
    obtain ⟨rfl, rfl⟩ := e
    rw [hc j hj, List.getD_eq_getElem?_getD, hz]
    rfl
theorem LineAt.there {w : World} {L : Nat} {pre post : List Value} {l : V.Ln} {v : Value} (h : LineAt w L pre post l v) (n : Nat) (hn : n ≤ 66) : w.there L pre.length n := fun j hj => by
  refine ⟨?_, h.free _⟩
  rw [seg_cell h.row j (by rw [h.len]; omega), List.getElem?_eq_getElem (by rw [h.len]; omega)]
  rfl
theorem lineCells_put {l : V.Ln} (h : l.now.length = 64) (v : Value) (zs : List Int) (hz : zs.length = 64) : zs.map (Value.int .u8) ++ (lineCells l v).drop (zs.map (Value.int .u8)).length = lineCells { now := zs, over := l.over, mark := l.mark } v := by
  rw [lineCells, List.drop_append_of_le_length (by simp; omega), List.drop_of_length_le (by simp; omega)]
  rfl

/-- Sixty-four bytes stored over a line's. -/
theorem LineAt.put {w : World} {L : Nat} {pre post : List Value} {l : V.Ln} {v : Value} (h : LineAt w L pre post l v) {zs : List Int} (hz : zs.length = 64) (hr : ∀ z ∈ zs, 0 ≤ z ∧ z ≤ 255) :
    LineAt (w.setCells L pre.length (zs.map (Value.int .u8))) L pre post { now := zs, over := l.over, mark := l.mark } v ∧ Only [L] w (w.setCells L pre.length (zs.map (Value.int .u8))) := by
  obtain ⟨h1, h2⟩ := seg_put h.row (zs.map (Value.int .u8)) (by rw [h.len]; simp; omega)
  rw [lineCells_put h.good.len v zs hz] at h1
  exact ⟨⟨h1, ⟨hz, hr, h.good.over, h.good.mark⟩, owns_only h.own h2 (fun g hg => by have := h.apart; rw [hg] at this; simp at this ⊢; exact this), h.apart⟩, h2⟩

theorem ln_wput (w : World) (L : Nat) (pre post : List Value) (l : V.Ln) (v : Value) (a n : Nat) (h : LineAt w L pre post l v) (h8 : a % 8 = 0) (ha : a + 8 ≤ 64) (hn : n < 2 ^ 64) :
    Calls Tryd.prog 52 #[.slice (some ⟨L, pre.length, none⟩) 64 64, .int .i64 (a : Int), .int .u64 (n : Int)] w (PutPost w (M.pv l.now a n 8) true) := by
  have h1 := put_any _ _ (a : Int) n w h.bytes (by rw [h.good.len]; decide) (by omega) hn
  rw [putB_at h.good.len h8 ha, (getW_at h.good.len h8 ha).2] at h1
  exact h1

set_option maxRecDepth 100000 in
theorem ln_put (w : World) (L : Nat) (pre post : List Value) (l : V.Ln) (v : Value) (a n : Nat) (h : LineAt w L pre post l v) (h8 : a % 8 = 0) (ha : a + 8 ≤ 64) (hn : n < 2 ^ 64) :
    Calls Tryd.prog 53 #[.pointer (some ⟨L, pre.length, none⟩), .int .i64 (a : Int), .int .u64 (n : Int)] w fun e w' => e = .returned (.tuple #[]) ∧ LineAt w' L pre post { now := M.pv l.now a n 8, over := l.over, mark := l.mark } v ∧ Only [L] w w' := by
  have HP := Lib.hid (ln_wput w L pre post l v a n h h8 ha hn)
  have HL := Lib.hid h
  have HPL : Hid ((M.pv l.now a n 8).length = 64) := by show _ = _; rw [M.pv_length]; exact h.good.len
  have HPR := Lib.hid (M.pv_range h.good.byte a n 8)
  have HLM : Hid (∀ w' : World, Only [] w w' → LineAt w' L pre post l v) := fun w' ho => h.only ho (by simp) (fun g _ => by simp)
  clear h
  generalize hzs : M.pv l.now a n 8 = zs at *
  clear hzs
  generalize hol : pre.length = o at *
  have HOL := Lib.hid hol
  clear hol
  go_enter Tryd.func53, Tryd.ntmps53
  go_wp2_with fail
  refine HP.out.mono ?_
  rintro e w1 ⟨u, rfl, hu, hb⟩
  obtain ⟨A, cap, rfl, hx1, hx2, hR, hx3⟩ := id hu
  rcases hR with rfl | ⟨b, o', rfl, hx4⟩
  · exact absurd HPL.out (by simp)
  clear hx1 hx2 hx3 hx4
  have hzl := HPL.out
  have HU := Lib.hid (range_of_bytes hu)
  have HO1 : Hid (Only [] w w1) := Only.of_below hb
  have HL1 := Lib.hid (HLM.out w1 HO1.out)
  have HT : Hid (w1.there L o (zs.map (Value.int .u8)).toArray.size) := by
    show w1.there _ _ _
    rw [← HOL.out]; exact HL1.out.there _ (by simp; omega)
  have HN : Hid (LineAt (w1.setCells L o (zs.map (Value.int .u8))) L pre post { now := zs, over := l.over, mark := l.mark } v ∧ Only [L] w1 (w1.setCells L o (zs.map (Value.int .u8)))) := by
    rw [← HOL.out]; exact HL1.out.put hzl HPR.out
  have HI : Hid ((Tryd.prog.info? 74).map (·.size) = some (zs.map (Value.int .u8)).length) := by show _ = _; rw [List.length_map, hzl]; exact info_arr64
  have HI2 : Hid ((Tryd.prog.info? 74).map (·.size) = some (zs.map (Value.int .u8)).toArray.size) := by show _ = _; rw [List.size_toArray, List.length_map, hzl]; exact info_arr64
  have H1 : Hid ((zs.map (Value.int .u8)).toArray.all (·.oneCell') = true) := all_oneCell_toArray (ints_oneCell _ _)
  clear hu hb
  rw [hzl]
  clear hzl
  generalize hcs : zs.map (Value.int .u8) = cs at *
  clear hcs
  have harr := run_arr64
  go_wp2_with (first
    | (refine wpList_load_mid rfl 74 (.tmp 20) rfl b o' rfl cs _ HU.out Tryd.underlying74 rfl HI.out ?_)
    | (refine wpList_store_mid rfl 74 (.tmp 23) (.tmp 21) rfl L o cs.toArray rfl rfl HT.out HI2.out H1.out ?_))
  go_end0
  exact ⟨rfl, HN.out.1, (HO1.out.mono (by simp)).trans' HN.out.2⟩
end Go.Proofs.YtmelmiookkeoaaaDoor
