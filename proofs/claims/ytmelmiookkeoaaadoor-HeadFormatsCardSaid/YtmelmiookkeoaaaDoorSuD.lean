
/- Layer 4: the contracts of Put, Get, Clear. -/
import Derived.Test.YtmelmiookkeoaaaDoorSuC

namespace Go.Proofs.YtmelmiookkeoaaaDoor

open Go.RowKit

section

variable {w : World} {d : V.Dv} {F : List Nat}


theorem info_u64 : (Tryd.prog.info? 40).map (fun i => (i.zero, i.size, i.bytes)) = some (some (.int .u64 0), 1, 8) := by kernel_rfl
/-- What a call leaves that hands back words in new memory. -/
def NewWords (w : World) (l : List Nat) (v : Value) (w' : World) : Prop :=
  ∃ g, v = .slice (some ⟨g, 0, none⟩) l.length l.length ∧ w.heap.size ≤ g ∧ IsWords w' v l ∧ Below w.heap.size w w' ∧ g < w'.heap.size
theorem isWords_block {w : World} {g : Nat} {l : List Nat} {t : TypeId} {fr : Nat × Nat} (h : w.heap[g]? = some (.cells (l.map (fun n : Nat => Value.int .u64 (n : Int))).toArray t fr)) (hl : ∀ n ∈ l, n < 2 ^ 64) (hm : l.length ≤ maxLen) :
    IsWords w (.slice (some ⟨g, 0, none⟩) l.length l.length) l := by
  refine ⟨some ⟨g, 0, none⟩, l.length, by rw [List.length_map], by rw [List.length_map]; exact Nat.le_refl _, hm, .inr ⟨g, 0, rfl, fun i hi => ?_⟩, fun z hz => ?_⟩
  · rw [List.length_map] at hi
    rw [Nat.zero_add, cell_of_row w g i _ _ _ h]
    simp [hi]
  · obtain ⟨n, hn, rfl⟩ := List.mem_map.1 hz
    have := hl n hn
    simp [Lit.wf, IntKind.min, IntKind.max, IntKind.signed, IntKind.bits]
    omega
set_option maxHeartbeats 1000000 in
set_option maxRecDepth 100000 in
theorem su_get {p : Option Addr} (h : Dev w (.pointer p) d F) (off : Int) (hoff : I64 off) (k : Nat) (hk : (k : Int) ≤ 9223372036854775807) (hr : d.room off k = 0) (hleft : d.left ≠ 0) :
    Calls Tryd.prog 47 #[.pointer p, .int .i64 off, .int .i64 (k : Int)] w fun e w' => ∃ v, e = .returned (.tuple #[v, .int .i64 0]) ∧ NewWords w (d.words off k) v w' := by
  obtain ⟨i0, hi, hz0, hz1, hz2⟩ := info_parts info_u64
  have hm := h.good.most
  have HP := Lib.hid (su_place h off (k : Int) hoff ⟨by omega, by omega⟩)
  rw [hr] at HP
  have hin : 0 ≤ off ∧ off % 8 = 0 ∧ off + 8 * (k : Int) ≤ 65536 := by
    have hru : d.room off (k : Int) = if 0 ≤ off ∧ off % 8 = 0 ∧ 0 ≤ (k : Int) ∧ off + 8 * (k : Int) ≤ 64 * (d.lines.length : Int) then 0 else 4 := rfl
    by_cases hc : 0 ≤ off ∧ off % 8 = 0 ∧ 0 ≤ (k : Int) ∧ off + 8 * (k : Int) ≤ 64 * (d.lines.length : Int)
    · omega
    · rw [if_neg hc] at hru; omega
  obtain ⟨hin0, hin8, hin9⟩ := hin
  have HLD : Hid (∀ wr, Below w.heap.size w wr → ∀ j, j < k → Calls Tryd.prog 25 #[.pointer p, .int .i64 (off + 8 * ((j : Nat) : Int))] wr fun e w' => e = .returned (.tuple #[.int .u64 (d.load (off + 8 * ((j : Nat) : Int)) : Nat), .int .i64 0]) ∧ ∃ m, w' = wr.drewN m) := by
    intro wr hb j hj
    have h1 := dev_load (h.only (Only.of_below (F := []) hb) (fun k hk => by cases hk)) (off + 8 * ((j : Nat) : Int)) ⟨by omega, by omega⟩
    rw [V.room_err hr hleft j hj] at h1
    exact h1
  have HWG := Lib.hid (fun j hj => V.words_get d off k j hj)
  have HWL := Lib.hid (V.words_length d off k)
  have HWB : Hid (∀ n ∈ d.words off k, n < 2 ^ 64) := by
    intro n hn
    obtain ⟨i, _, rfl⟩ := List.mem_map.1 hn
    exact V.load_lt h.good _
  have HIN8 := Lib.hid hin8
  clear h hr hleft hin8 hm hoff
  go_enter Tryd.func47, Tryd.ntmps47
  go_wp2_with fail
  refine HP.out.mono ?_
  rintro e w' ⟨rfl, rfl⟩
  go_wp2_with (refine wpList_make_full _ rfl _ _ 31 rfl w.heap.size 40 i0 (.int .u64 0) 1 Tryd.underlying31 hi hz0 hz1 .i64 .i64 k k k rfl rfl rfl rfl (by rw [hz2]; omega) (by unfold maxLen; omega) (by simp) ?_)
  intro w1 hown hgr
  have HB1 : Hid (Below w.heap.size w w1) := (Below.refl _ _).grown hgr (Nat.le_refl _) (fun k hk => by cases hk)
  have H0 : Hid (w1.heap[w.heap.size]? = some (.cells ((V.fillW (d.words off k) 0).map (fun n : Nat => Value.int .u64 (n : Int))).toArray 40 (0, 0))) := by
    show _ = _
    rw [V.fillW_zero, HWL.out, List.map_replicate]; exact row_of_made hown
  clear hown hgr
  go_wp2_with fail
  go_loopw [10, 11, 12, 24] (fun _ _ _ x wr => ∃ j : Nat, j ≤ k ∧ x = .int .i64 j ∧ Hid (wr.heap[w.heap.size]? = some (.cells ((V.fillW (d.words off k) j).map (fun n : Nat => Value.int .u64 (n : Int))).toArray 40 (0, 0))) ∧ Hid (Below w.heap.size w wr)) (fun _ _ _ x _ => k - (intOf x).toNat)
  case atStart => exact ⟨0, by omega, rfl, H0, HB1⟩
  case round =>
    obtain ⟨j, hj, rfl, hrow, hbel⟩ := hrel
    by_cases hlt : j < k
    · have HL := Lib.hid (HLD.out wr hbel.out j hlt)
      have hwg := HWG.out j hlt
      generalize d.load (off + 8 * ((j : Nat) : Int)) = x at *
      obtain ⟨q, hq⟩ : ∃ q : Int, q = off + (j : Int) * 8 := ⟨_, rfl⟩
      have hq2 : off + (j : Int) * 8 = q := hq.symm
      have hq3 : 0 ≤ q ∧ q ≤ 65536 := by omega
      rw [show off + 8 * (j : Int) = q by omega] at HL
      have HST := Lib.hid (V.fillW_step _ j x hwg)
      have hcl : (((V.fillW (d.words off k) j).map (fun n : Nat => Value.int .u64 (n : Int))).toArray)[j]? ≠ none := by
        rw [List.getElem?_toArray, List.getElem?_map, List.getElem?_eq_getElem (by rw [V.fillW_length _ _ (by rw [HWL.out]; exact hj), HWL.out]; exact hlt)]
        simp
      obtain ⟨y, hy⟩ := Option.ne_none_iff_exists'.1 hcl
      have hcell : wr.cell? ⟨w.heap.size, j, none⟩ = some y := (cell_of_row wr _ j _ _ _ hrow.out).trans hy
      have hfree : wr.frozen? ⟨w.heap.size, j, none⟩ = false := frozen_of_row wr _ j _ _ hrow.out
      have HB := hbel
      clear hq hwg hcl hy hbel
      go_wp2_with fail
      refine HL.out.mono ?_
      rintro e w' ⟨rfl, m, rfl⟩
      have HR2 : Hid (((wr.drewN m).setCell ⟨w.heap.size, j, none⟩ (.int .u64 (x : Int))).heap[w.heap.size]? = some (.cells ((V.fillW (d.words off k) (j + 1)).map (fun n : Nat => Value.int .u64 (n : Int))).toArray 40 (0, 0))) := by
        show _ = _
        rw [heap_setCell_same (wr.drewN m) w.heap.size j _ _ (.int .u64 (x : Int)) hrow.out, ← HST.out, List.map_set]
        simp
      have HB2 : Hid (Below w.heap.size w ((wr.drewN m).setCell ⟨w.heap.size, j, none⟩ (.int .u64 (x : Int)))) := (below_drewN' HB.out m).setCell (Nat.le_refl _) _
      go_wp2
      go_roundw
      case rel => exact ⟨j + 1, by omega, by go_num, HR2, HB2⟩
      case measure => simp [intOf]; omega
    · obtain rfl : j = k := by omega
      have h1 := hrow.out
      have hfa : V.fillW (d.words off j) j = d.words off j := by
        have := V.fillW_all (d.words off j)
        rw [HWL.out] at this
        exact this
      rw [hfa] at h1
      have H1 := Lib.hid h1
      clear h1 hfa hrow
      go_wp2
      go_ret2
      refine ⟨_, rfl, w.heap.size, by rw [HWL.out]; rfl, Nat.le_refl _, ?_, hbel.out, (Array.getElem?_eq_some_iff.1 H1.out).1⟩
      have := isWords_block H1.out HWB.out (by rw [HWL.out]; unfold maxLen; omega)
      rw [HWL.out] at this
      exact this

/-- What Clear answers, and what it makes of a device. -/
def V.Dv.clear (d : V.Dv) (off lines : Int) : V.Dv × Int := if 0 ≤ lines ∧ lines ≤ 1024 ∧ off % 64 = 0 then d.putAll off (List.replicate (8 * lines.toNat) 0) else (d, 2)
set_option maxHeartbeats 1000000 in
set_option maxRecDepth 100000 in
theorem su_clear {p : Option Addr} (h : Dev w (.pointer p) d F) (off lines : Int) (hoff : I64 off) (hlines : I64 lines) (hs : d.steps ≤ 10000000) :
    Calls Tryd.prog 42 #[.pointer p, .int .i64 off, .int .i64 lines] w fun e w' => e = .returned (.int .i64 (d.clear off lines).2) ∧ DevStep w (.pointer p) (d.clear off lines).1 F w' := by
  have hoff' : -9223372036854775808 ≤ off ∧ off ≤ 9223372036854775807 := hoff
  have hlines' : -9223372036854775808 ≤ lines ∧ lines ≤ 9223372036854775807 := hlines
  have HD := Lib.hid h
  by_cases hc : 0 ≤ lines ∧ lines ≤ 1024 ∧ off % 64 = 0
  · have HV : Hid (d.clear off lines = d.putAll off (List.replicate (8 * lines.toNat) 0)) := if_pos hc
    obtain ⟨h1, h2, h3⟩ := hc
    obtain ⟨n, rfl⟩ := Int.eq_ofNat_of_zero_le h1
    rw [Int.toNat_natCast] at HV
    have hb : (off.tmod 64 != 0) = false := by simpa using Int.tmod_eq_zero_of_dvd (Int.dvd_of_emod_eq_zero h3)
    obtain ⟨i0, hi, hz0, hz1, hz2⟩ := info_parts info_u64
    obtain ⟨k, hk⟩ : ∃ k, k = 8 * n := ⟨_, rfl⟩
    have hki : (n : Int) * 8 = (k : Int) := by omega
    have hk9 : k ≤ 8192 := by omega
    rw [← hk] at HV
    have H3 := Lib.hid h3
    have HK := Lib.hid hk
    have HP := Lib.hid (fun W (hW : Below w.heap.size w W) A c (hl : IsWords W (.slice A k c) (List.replicate k 0)) => su_putAll (h.only (Only.of_below (F := []) hW) (fun k hk => by cases hk)) off hoff A k c (List.replicate k 0) hl hs)
    clear h h3 hoff hlines hk
    go_enter Tryd.func42, Tryd.ntmps42
    go_wp2_with (refine wpList_make_full _ rfl _ _ 31 rfl w.heap.size 40 i0 (.int .u64 0) 1 Tryd.underlying31 hi hz0 hz1 .i64 .i64 k k k rfl rfl rfl rfl (by rw [hz2]; omega) (by unfold maxLen; omega) (by simp) ?_)
    intro w1 hown hgr
    have HB1 : Hid (Below w.heap.size w w1) := (Below.refl _ _).grown hgr (Nat.le_refl _) (fun k hk => by cases hk)
    have H0 : Hid (IsWords w1 (.slice (some ⟨w.heap.size, 0, none⟩) k k) (List.replicate k 0)) := by
      have h1 := row_of_made hown
      have h2 := isWords_block (l := List.replicate k 0) (by rw [List.map_replicate]; exact h1) (fun n hn => by have := List.eq_of_mem_replicate hn; omega) (by rw [List.length_replicate]; unfold maxLen; omega)
      rw [List.length_replicate] at h2
      exact h2
    clear hown hgr
    go_wp2_with fail
    refine (HP.out _ HB1.out _ _ H0.out).mono ?_
    rintro e w3 ⟨rfl, h3⟩
    have HH : Hid (DevStep w (.pointer p) (d.putAll off (List.replicate k 0)).1 F w3) := DevStep.newer HB1.out h3
    clear h3
    go_wp2
    go_ret
    rw [HV.out]
    exact ⟨rfl, HH.out⟩
  · have HV : Hid (d.clear off lines = (d, 2)) := if_neg hc
    have hx : lines < 0 ∨ (0 ≤ lines ∧ 1024 < lines) ∨ (0 ≤ lines ∧ lines ≤ 1024 ∧ off % 64 ≠ 0) := by omega
    clear h hc hoff hlines
    rcases hx with h1 | ⟨h1, h2⟩ | ⟨h1, h2, h3⟩
    · go_enter Tryd.func42, Tryd.ntmps42
      go_wp2
      go_ret
      rw [HV.out]
      exact ⟨rfl, DevStep.same HD.out 0⟩
    · go_enter Tryd.func42, Tryd.ntmps42
      go_wp2
      go_ret
      rw [HV.out]
      exact ⟨rfl, DevStep.same HD.out 0⟩
    · have hb : (off.tmod 64 != 0) = true := by simpa using (fun h => h3 (Int.emod_eq_zero_of_dvd (Int.dvd_of_tmod_eq_zero h)))
      clear h3
      go_enter Tryd.func42, Tryd.ntmps42
      go_wp2
      go_ret
      rw [HV.out]
      exact ⟨rfl, DevStep.same HD.out 0⟩
end

end Go.Proofs.YtmelmiookkeoaaaDoor
