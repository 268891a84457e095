
/- Contracts of word.Get, word.Put and of the reference's Get and Put, for seats that hold these of layer 1 alone. What was there stays. No condition but the ranges named. -/
import Derived.Test.YtmelmiookkeoaaaDoorChecked

import Derived.Test.YtmelmiookkeoaaaDoorBits

import Derived.Test.YtmelmiookkeoaaaDoorMem

import Derived.WalkKit

import Derived.WalkSpells

import Derived.WalkLawsBesides

import Derived.Lib.Hide

import Derived.Deep.QuietTactic

import Derived.BigQuiet

import Derived.Laws.CopyOwn

namespace Go.Proofs.YtmelmiookkeoaaaDoor

open Go.RowKit

theorem ret_int {k : IntKind} {a b : Int} (h : a = b) : Ending.returned (.int k a) = .returned (.int k b) := by rw [h]
theorem nodraw (w : World) : ∃ m, w = w.drewN m := ⟨0, rfl⟩
theorem ret_bool {a b : Bool} (h : a = b) : Ending.returned (.bool a) = .returned (.bool b) := by rw [h]

theorem stands_any (at' : Int) (a : Option Addr) (len cap : Nat) (w : World) (hl : len ≤ maxLen) (ha : -9223372036854775808 ≤ at' ∧ at' ≤ 9223372036854775807) :
    Calls Tryd.prog 61 #[.slice a len cap, .int .i64 at'] w fun e w' => e = .returned (.bool (M.stands len at')) ∧ ∃ m, w' = w.drewN m := by
  unfold maxLen at hl
  by_cases h0 : 0 ≤ at'
  · by_cases h1 : at' % 8 = 0
    · go_enter Tryd.func61, Tryd.ntmps61
      go_wp2
      go_ret
      refine ⟨ret_bool ?_, by first | exact ⟨_, rfl⟩ | exact nodraw _⟩
      unfold M.stands
      rw [decide_eq_decide]
      omega
    · go_enter Tryd.func61, Tryd.ntmps61
      go_wp2
      go_ret
      refine ⟨ret_bool ?_, by first | exact ⟨_, rfl⟩ | exact nodraw _⟩
      unfold M.stands
      exact (decide_eq_false (by omega)).symm
  · go_enter Tryd.func61, Tryd.ntmps61
    go_wp2
    go_ret
    refine ⟨ret_bool ?_, by first | exact ⟨_, rfl⟩ | exact nodraw _⟩
    unfold M.stands
    exact (decide_eq_false (by omega)).symm

theorem get_core (b o : Nat) (zs : List Int) (t : Nat) (cap : Nat) (w : World) (hl : zs.length ≤ maxLen) (ht : t % 8 = 0) (ht8 : t + 8 ≤ zs.length)
    (hc : ∀ i, i < zs.length → w.cell? ⟨b, o + i, none⟩ = some (.int .u8 (zs.getD i 0))) (hr : ∀ z ∈ zs, 0 ≤ z ∧ z ≤ 255) :
    Calls Tryd.prog 60 #[.slice (some ⟨b, o, none⟩) zs.length cap, .int .i64 t] w fun e w' => e = .returned (.tuple #[.int .u64 (M.gv zs t 8 : Nat), .bool true]) ∧ ∃ m, w' = w.drewN m := by
  have hS : M.stands zs.length (t : Int) = true := by simp [M.stands]; omega
  have HS := Lib.hid hS; clear hS
  have HC := Lib.hid hc; clear hc
  have hl' := hl
  unfold maxLen at hl'
  generalize hlen : zs.length = len at *
  have HLEN := Lib.hid hlen; clear hlen
  go_enter Tryd.func60, Tryd.ntmps60
  go_wp2_with fail
  refine (stands_any _ _ _ _ _ hl (by omega)).mono ?_
  rintro e w' ⟨rfl, m, rfl⟩
  rw [HS.out]
  go_wp2
  go_loopw [6, 12] (fun u k wr => ∃ j : Nat, j ≤ 8 ∧ k = .int .i64 j ∧ u = .int .u64 (M.gv zs t j : Nat) ∧ ∃ m, wr = w.drewN m) (fun _ k _ => 8 - (intOf k).toNat)
  case atStart => exact ⟨0, by omega, rfl, rfl, _, rfl⟩
  case round =>
    obtain ⟨j, hj8, rfl, rfl, m, rfl⟩ := hrel
    by_cases h8 : j < 8
    · have hcell : w.cell? ⟨b, o + (t + j), none⟩ = some (.int .u8 (zs.getD (t + j) 0)) := HC.out _ (by omega)
      have hz := M.getD_range hr (t + j)
      have HB : Hid (M.gv zs t (j + 1) = M.gv zs t j + (zs.getD (t + j) 0).toNat * 256 ^ j) := rfl
      have hlt := M.gv_lt hr t j
      generalize zs.getD (t + j) 0 = z at *
      have HO := Lib.hid (B.or_word _ j z hlt hz h8)
      clear hlt
      go_wp2
      go_roundw
      case rel => exact ⟨j + 1, by omega, by go_num, by rw [HO.out, HB.out], _, rfl⟩
      case measure => simp [intOf]; omega
    · obtain rfl : j = 8 := by omega
      go_wp2
      go_ret2
      exact ⟨rfl, _, rfl⟩

/-- word.Get, whatever is handed in. -/
theorem get_any (v : Value) (zs : List Int) (at' : Int) (w : World) (hv : IsBytes w v zs) (ha : -9223372036854775808 ≤ at' ∧ at' ≤ 9223372036854775807) :
    Calls Tryd.prog 60 #[v, .int .i64 at'] w fun e w' => e = .returned (.tuple #[.int .u64 (M.getW zs at' : Nat), .bool (M.stands zs.length at')]) ∧ ∃ m, w' = w.drewN m := by
  obtain ⟨a, cap, rfl, hlc, hcm, hR, hwf⟩ := hv
  have hr := byte_range hwf
  by_cases hs : 0 ≤ at' ∧ at' % 8 = 0 ∧ at' + 8 ≤ (zs.length : Int)
  · obtain ⟨t, rfl⟩ := Int.eq_ofNat_of_zero_le hs.1
    have e1 : M.stands zs.length (t : Int) = true := by simp only [M.stands, decide_eq_true_eq]; exact hs
    rcases hR with h | ⟨b, o, rfl, hc⟩
    · rw [h] at hs; simp at hs; omega
    · rw [show M.getW zs (t : Int) = M.gv zs t 8 by simp [M.getW, e1], e1]
      exact get_core b o zs t cap w (by omega) (by omega) (by omega) hc hr
  · have e1 : M.stands zs.length at' = false := by simp only [M.stands, decide_eq_false_iff_not]; exact hs
    rw [show M.getW zs at' = 0 by simp [M.getW, e1], e1]
    have E1 := Lib.hid e1; clear e1 hs hR hwf hr
    have hl : zs.length ≤ maxLen := by omega
    generalize zs.length = len at *
    go_enter Tryd.func60, Tryd.ntmps60
    go_wp2_with fail
    refine (stands_any _ _ _ _ _ hl ha).mono ?_
    rintro e w' ⟨rfl, m, rfl⟩
    rw [E1.out]
    go_wp2
    go_ret2
    exact ⟨rfl, _, rfl⟩



theorem info_u8 : (Tryd.prog.info? 5).map (fun i => (i.zero, i.size, i.bytes)) = some (some (.int .u8 0), 1, 1) := by kernel_rfl

/-- What a call that hands back a slice of bytes and a bool leaves. -/
def PutPost (w : World) (out : List Int) (ok : Bool) (e : Ending) (w' : World) : Prop :=
  ∃ v, e = .returned (.tuple #[v, .bool ok]) ∧ IsBytes w' v out ∧ Below w.heap.size w w'

set_option maxRecDepth 100000 in
theorem put_core (a : Option Addr) (zs : List Int) (at' : Int) (n : Nat) (cap : Nat) (w : World) (hl : zs.length ≤ 140737488351232) (hR : Reads .u8 w a zs) (hwf : ∀ z ∈ zs, (Lit.int .u8 z).wf = true)
    (ha : -9223372036854775808 ≤ at' ∧ at' ≤ 9223372036854775807) (_hn : n < 2 ^ 64) :
    Calls Tryd.prog 52 #[.slice a zs.length cap, .int .i64 at', .int .u64 n] w (PutPost w (M.putB zs at' n) (M.stands zs.length at')) := by
  obtain ⟨i0, hi, hz0, hz1, hz2⟩ := info_parts info_u8
  have hsz : (Tryd.prog.info? 5).map (·.size) = some 1 := by rw [hi]; simp [hz1]
  have HWF := Lib.hid hwf; clear hwf
  have hml : zs.length ≤ maxLen := by unfold maxLen; omega
  have HML := Lib.hid hml; clear hml
  obtain ⟨len, hlen⟩ : ∃ len, len = zs.length := ⟨_, rfl⟩
  have HLEN := Lib.hid hlen
  rw [← hlen]
  rw [← hlen] at hl
  clear hlen
  go_enter Tryd.func52, Tryd.ntmps52
  go_wp2_with (refine wpList_make_full _ rfl (.tmp 11) (.tmp 11) 37 rfl w.heap.size 5 i0 (.int .u8 0) 1 Tryd.underlying37 hi hz0 hz1 .i64 .i64 len len len rfl rfl rfl rfl (by rw [hz2]; omega) (by unfold maxLen; omega) (by simp) ?_)
  intro w1 hown hg
  have hb1 : Below w.heap.size w w1 := (Below.refl _ _).grown hg (Nat.le_refl _) (fun k hk => by cases hk)
  have hrow := row_of_made hown
  have HROW := Lib.hid hrow
  have HB1 := Lib.hid hb1
  have HRD : Hid (Reads .u8 w1 a zs) := hR.below hb1
  clear hown hg hrow hb1 hR
  obtain ⟨cs, hcs⟩ : ∃ cs, cs = zs.map (Value.int .u8) := ⟨_, rfl⟩
  obtain ⟨cur, hcur⟩ : ∃ cur, cur = List.replicate len (Value.int .u8 0) := ⟨_, rfl⟩
  have HCS := Lib.hid hcs; clear hcs
  have HCUR := Lib.hid hcur; clear hcur
  have hcl : cs.length = len := by rw [HCS.out, HLEN.out]; simp
  have hcul : cur.length = len := by rw [HCUR.out]; simp
  have hrow : w1.heap[w.heap.size]? = some (.cells cur.toArray 5 (0, 0)) := by rw [HCUR.out]; exact HROW.out
  have h1c : ∀ v ∈ cs, v.oneCell' = true := by rw [HCS.out]; exact ints_oneCell _ _
  have hpos : 0 < cs.length → some (⟨w.heap.size, 0, none⟩ : Addr) = some ⟨w.heap.size, 0, none⟩ ∧ ∃ ad, a = some ad ∧ ∀ j v, cs[j]? = some v → w1.cell? (ad.add j) = some v := by
    intro h0
    refine ⟨rfl, ?_⟩
    rcases HRD.out with h | ⟨b, o, rfl, hc⟩
    · rw [HCS.out, h] at h0; simp at h0
    · refine ⟨_, rfl, fun j v hv => ?_⟩
      rw [HCS.out, List.getElem?_map] at hv
      obtain ⟨z, hz, rfl⟩ := Option.map_eq_some_iff.1 hv
      have hj : j < zs.length := by
        apply Nat.lt_of_not_le; intro hj; rw [List.getElem?_eq_none hj] at hz; cases hz
      have := hc j hj
      rw [Addr.add_lit]
      rw [this, List.getD_eq_getElem?_getD, hz]; rfl
  have HPOS := Lib.hid hpos; clear hpos
  have H1C := Lib.hid h1c; clear h1c
  have HR2 := Lib.hid hrow; clear hrow HROW
  have HCL := Lib.hid hcl; clear hcl
  have HCUL := Lib.hid hcul; clear hcul
  go_wp2_with (refine wpList_copy_splice rfl (.tmp 13) (.tmp 14) 37 37 rfl 5 Tryd.underlying37 hsz _ _ len len len cap rfl rfl w.heap.size 0 cur 5 HR2.out cs (by rw [HCL.out]; simp) HPOS.out (by rw [HCL.out, HCUL.out]; omega) H1C.out w.heap.size w HB1.out (Nat.le_refl _) ?_)
  intro w2 hrow2 hb2
  have hrow3 : w2.heap[w.heap.size]? = some (.cells (zs.map (Value.int .u8)).toArray 5 (0, 0)) := by
    have h := hrow2.out
    rw [splice_all _ _ (by rw [HCL.out, HCUL.out]), HCS.out] at h
    exact h
  have hown := owns_of_row hrow3 (Nat.le_refl _) HML.out
  have HOWN := Lib.hid hown
  have HB2 := Lib.hid hb2
  clear hown hrow3 hrow2 hb2 HR2 HPOS H1C HCL HCUL HCS HCUR HRD HB1
  go_wp2_with fail
  refine (stands_any at' _ len len w2 (by unfold maxLen; omega) ha).mono ?_
  rintro e w' ⟨rfl, m, rfl⟩
  have hstd : Hid (M.stands len at' = decide (0 ≤ at' ∧ at' % 8 = 0 ∧ at' + 8 ≤ (len : Int))) := rfl
  have hput : Hid (M.putB zs at' n = if M.stands len at' then M.pv zs at'.toNat n 8 else zs) := by
    show _ = _
    rw [HLEN.out]; rfl
  cases hst : M.stands len at'
  · rw [hst] at hput
    have HST := Lib.hid hst; clear hst
    have HO := Lib.hid HOWN.out
    go_wp2
    go_ret2
    refine ⟨.slice (some ⟨w.heap.size, 0, none⟩) len len, by rw [HST.out]; rfl, ?_, below_drewN' HB2.out m⟩
    rw [hput.out, if_neg (by decide), HLEN.out]
    exact (IsInts.of_row HO.out HWF.out).drewN m
  · rw [hst] at hput hstd
    have HST := Lib.hid hst
    have hst3 := of_decide_eq_true hstd.out.symm
    obtain ⟨t, rfl⟩ := Int.eq_ofNat_of_zero_le hst3.1
    rw [Int.toNat_natCast] at hput
    have ht8 : t + 8 ≤ len := by omega
    clear hst hst3 hstd ha
    go_wp2
    go_loopw [9, 21] (fun _ k wr => ∃ j : Nat, j ≤ 8 ∧ k = .int .i64 j ∧ wr.ownsRow w.heap.size 5 1 (.slice (some ⟨w.heap.size, 0, none⟩) len len) len ((M.pv zs t n j).map (Value.int .u8)) ∧ Below w.heap.size w wr) (fun _ k _ => 8 - (intOf k).toNat)
    case atStart => exact ⟨0, by omega, rfl, by rw [HLEN.out]; exact HOWN.out, below_drewN' HB2.out m⟩
    case round =>
      obtain ⟨j, hj8, rfl, hown, hbel⟩ := hrel
      by_cases h8 : j < 8
      · have hlen : (M.pv zs t n j).length = len := by rw [M.pv_length, HLEN.out]
        have hcell : wr.cell? ⟨w.heap.size, t + j, none⟩ = some (.int .u8 ((M.pv zs t n j).getD (t + j) 0)) := by
          rw [hown.cellAt (t + j) (by omega)]
          simp [show t + j < (M.pv zs t n j).length by omega]
        have hfz := hown.frozenAt (t + j)
        have HS := Lib.hid (hown.stored (t + j) (.int .u8 ((n / 256 ^ j % 256 : Nat) : Int))).1
        have HBN := Lib.hid (hbel.setCell (p := ⟨w.heap.size, t + j, none⟩) (Nat.le_refl _) (.int .u8 ((n / 256 ^ j % 256 : Nat) : Int)))
        have HBY := Lib.hid (B.byte_of n j)
        clear hown hbel hlen
        go_wp2
        rw [HBY.out]
        go_roundw
        case rel => exact ⟨j + 1, by omega, by go_num, by rw [M.pv, List.map_set]; exact HS.out, HBN.out⟩
        case measure => simp [intOf]; omega
      · obtain rfl : j = 8 := by omega
        have HO := Lib.hid hown
        have HBN := Lib.hid hbel
        clear hown hbel
        go_wp2
        go_ret2
        refine ⟨.slice (some ⟨w.heap.size, 0, none⟩) len len, by rw [HST.out]; rfl, ?_, HBN.out⟩
        rw [hput.out, if_pos trivial]
        have hlen : len = (M.pv zs t n 8).length := by rw [M.pv_length, HLEN.out]
        have h := HO.out
        rw [hlen] at h ⊢
        exact IsInts.of_row h (fun z hz => wf_byte (M.pv_range (byte_range HWF.out) t n 8 z hz))
/-- word.Put, whatever is handed in. -/
theorem put_any (v : Value) (zs : List Int) (at' : Int) (n : Nat) (w : World) (hv : IsBytes w v zs) (hl : zs.length ≤ 140737488351232)
    (ha : -9223372036854775808 ≤ at' ∧ at' ≤ 9223372036854775807) (hn : n < 2 ^ 64) :
    Calls Tryd.prog 52 #[v, .int .i64 at', .int .u64 n] w (PutPost w (M.putB zs at' n) (M.stands zs.length at')) := by
  obtain ⟨a, cap, rfl, _, _, hR, hwf⟩ := hv
  exact put_core a zs at' n cap w hl hR hwf ha hn




end Go.Proofs.YtmelmiookkeoaaaDoor
