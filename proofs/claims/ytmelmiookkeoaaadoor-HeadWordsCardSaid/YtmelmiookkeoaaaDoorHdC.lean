
/- Layer 5: the contracts of bytesOf and Words, the program's. -/
import Derived.Test.YtmelmiookkeoaaaDoorHdA

import Derived.Test.YtmelmiookkeoaaaDoorCrcB

namespace Go.Proofs.YtmelmiookkeoaaaDoor

open Go.RowKit

/-- What a call leaves that hands back bytes, new or nil. -/
def BytesPost (w : World) (zs : List Int) (e : Ending) (w' : World) : Prop := ∃ v, e = .returned v ∧ IsBytes w' v zs ∧ Below w.heap.size w w'
/-- The same of words. -/
def WordsPost (w : World) (l : List Nat) (e : Ending) (w' : World) : Prop := ∃ v, e = .returned v ∧ IsWords w' v l ∧ Below w.heap.size w w'
theorem putB_bts {l : List Nat} {j x : Nat} (hj : j < l.length) : M.putB (V.bts l) (8 * (j : Int)) x = V.bts (l.set j x) := by
  unfold M.putB
  have h1 : M.stands (V.bts l).length (8 * (j : Int)) = true := by
    rw [V.bts_length]; exact decide_eq_true (by omega)
  rw [h1, if_pos rfl, show (8 * (j : Int)).toNat = 8 * j by omega, V.pv_bts l j x hj]
set_option maxRecDepth 100000 in
theorem hd_bytesOf {w : World} {A : Option Addr} {len cap : Nat} {l : List Nat} (hl : IsWords w (.slice A len cap) l) (hlen : len ≤ 1000) :
    Calls Tryd.prog 34 #[.slice A len cap] w (BytesPost w (V.bts l)) := by
  obtain ⟨i0, hi, hz0, hz1, hz2⟩ := info_parts info_u8
  obtain ⟨hll, hlc, hlm⟩ := hl.len
  unfold maxLen at hlm
  have HL := Lib.hid hl
  have HLL := Lib.hid hll
  clear hl hll
  obtain ⟨m, hm⟩ : ∃ m : Nat, m = 8 * len := ⟨_, rfl⟩
  have hm2 : (len : Int) * 8 = (m : Int) := by omega
  have hm3 : m ≤ 8000 := by omega
  have HM := Lib.hid hm
  clear hm
  go_enter Tryd.func34, Tryd.ntmps34
  go_wp2_with (refine wpList_make_full _ rfl _ _ 37 rfl w.heap.size 5 i0 (.int .u8 0) 1 Tryd.underlying37 hi hz0 hz1 .i64 .i64 m m m rfl rfl rfl rfl (by rw [hz2]; omega) (by unfold maxLen; omega) (by simp) ?_)
  intro w1 hown hgr
  have HB1 : Hid (Below w.heap.size w w1) := (Below.refl _ _).grown hgr (Nat.le_refl _) (fun k hk => by cases hk)
  have H0 : Hid (IsBytes w1 (.slice (some ⟨w.heap.size, 0, none⟩) m m) (V.bts (V.fillW l 0))) := by
    show IsBytes _ _ _
    rw [V.fillW_zero, V.bts_zeros, HLL.out, ← HM.out]; exact isBytes_made hown
  clear hown hgr
  clear hm2
  go_wp2_with fail
  go_loopw [3, 12] (fun b x wr => ∃ j : Nat, j ≤ len ∧ x = .int .i64 j ∧ IsBytes wr b (V.bts (V.fillW l j)) ∧ Below w.heap.size w wr) (fun _ x _ => len - (intOf x).toNat)
  case atStart => exact ⟨0, by omega, rfl, H0.out, HB1.out⟩
  case round =>
    obtain ⟨j, hj, rfl, hb, hbel⟩ := hrel
    have HBEL := Lib.hid hbel
    have hb' := hb
    obtain ⟨g, c, rfl, _⟩ := hb'
    have hfl := V.fillW_length l j (by rw [HLL.out]; exact hj)
    have hbl : (V.bts (V.fillW l j)).length = m := by rw [V.bts_length, hfl, HLL.out, HM.out]
    rw [hbl] at hb ⊢
    have HBY := Lib.hid hb
    clear hb hbel hbl
    by_cases hlt : j < len
    · obtain ⟨b1, o1, x, rfl, hx, hx2, hc1⟩ := (HL.out.below HBEL.out).get j hlt
      have HPUT := Lib.hid (put_any _ _ (8 * (j : Int)) x wr HBY.out (by rw [V.bts_length, hfl, HLL.out]; omega) ⟨by omega, by omega⟩ hx2)
      rw [putB_bts (by rw [hfl, HLL.out]; exact hlt), V.fillW_step l j x hx] at HPUT
      clear hx hfl
      have hcom : (j : Int) * 8 = 8 * (j : Int) := by omega
      go_wp2_with fail
      refine HPUT.out.mono ?_
      rintro e w2 ⟨v, rfl, hv, hb2⟩
      have HV := Lib.hid hv
      have HB2 : Hid (Below w.heap.size w w2) := HBEL.out.trans (hb2.mono HBEL.out.size)
      clear hv hb2 hcom
      go_wp2
      go_roundw
      case rel => exact ⟨j + 1, by omega, by go_num, HV.out, HB2.out⟩
      case measure => simp [intOf]; omega
    · obtain rfl : j = len := by omega
      have HF : Hid (V.fillW l j = l) := by
        have := V.fillW_all l
        rw [HLL.out] at this; exact this
      go_wp2
      go_ret
      refine ⟨_, rfl, ?_, HBEL.out⟩
      have := HBY.out
      rw [HF.out] at this
      exact this
end Go.Proofs.YtmelmiookkeoaaaDoor
