
/- Contracts of crc.Next, crc.Sum and of the reference's Next and Sum, where the table of four bits holds its numbers. Nothing is written. No condition but the ranges named. -/
import Derived.Test.YtmelmiookkeoaaaDoorChecked

import Derived.Test.YtmelmiookkeoaaaDoorCrcM

import Derived.Test.YtmelmiookkeoaaaDoorGp

import Derived.WalkKit

import Derived.WalkSpells

import Derived.WalkLawsBesides

import Derived.Lib.Hide

namespace Go.Proofs.YtmelmiookkeoaaaDoor

open Go.RowKit


/-- The table holds its numbers. -/
def TabT (w : World) : Prop := ∀ j, j < 16 → w.cell? ⟨0, j, none⟩ = some (.int .u32 (C.T.getD j 0))
theorem TabT.below {w w' : World} {B : Nat} (h : TabT w) (hb : Below B w w') (hg : 0 < B) : TabT w' :=
  fun j hj => (hb.cell (p := ⟨0, j, none⟩) hg).trans (h j hj)

theorem getD_range {zs : List Int} (hr : ∀ z ∈ zs, 0 ≤ z ∧ z ≤ 255) (i : Nat) : 0 ≤ zs.getD i 0 ∧ zs.getD i 0 ≤ 255 := by
  rw [List.getD_eq_getElem?_getD]
  cases h : zs[i]? with
  | none => simp
  | some z => exact hr z (List.mem_of_getElem? h)
theorem take_snoc (zs : List Int) (k : Nat) (h : k < zs.length) : zs.take (k + 1) = zs.take k ++ [zs.getD k 0] := by
  rw [List.take_succ_eq_append_getElem h]
  simp [h]

/-- The words of the program as numbers. -/
theorem xor_num {a b c : Nat} (ha : a < 4294967296) (hb : b < 4294967296) (h : a ^^^ b = c) : bits .xor .u32 (a : Int) (b : Int) = (c : Int) := by
  rw [u32_xor_nat _ _ ha hb, h]
theorem and15_num {a l : Nat} (ha : a < 4294967296) (h : a % 16 = l) : bits .and .u32 (a : Int) 15 = (l : Int) := by
  rw [show (15 : Int) = ((15 : Nat) : Int) from rfl, u32_and_nat _ _ ha (by decide), ← h]
  congr 1
  exact Nat.and_two_pow_sub_one_eq_mod a 4
theorem div16_num (y t n : Nat) (hy : y < 4294967296) (ht : t < 4294967296) (h : (y / 16) ^^^ t = n) : bits .xor .u32 ((y : Int) / 16) (t : Int) = (n : Int) := by
  rw [show (y : Int) / 16 = ((y / 16 : Nat) : Int) from rfl]
  exact xor_num (by omega) ht h
/-- Four steps of the program at a number: the table's cell, and what comes of it. -/
theorem nib_facts (w : World) (hT : TabT w) (y : Nat) (hy : y < 4294967296) :
    ∃ l t n : Nat, l < 16 ∧ n < 4294967296 ∧ C.nib y = n ∧ bits .and .u32 (y : Int) 15 = (l : Int) ∧ w.cell? ⟨0, l, none⟩ = some (.int .u32 (t : Int)) ∧ bits .xor .u32 ((y : Int) / 16) (t : Int) = (n : Int) := by
  have hl : y % 16 < 16 := Nat.mod_lt _ (by decide)
  have ht := C.T_range _ hl
  refine ⟨y % 16, (C.T.getD (y % 16) 0).toNat, C.nib y, hl, C.nib_lt hy, rfl, and15_num hy rfl, ?_, div16_num _ _ _ hy (by omega) rfl⟩
  rw [hT _ hl, Int.toNat_of_nonneg ht.1]

theorem next_core (b o : Nat) (zs : List Int) (s : Nat) (cap : Nat) (w : World) (hl : zs.length ≤ maxLen)
    (hc : ∀ i, i < zs.length → w.cell? ⟨b, o + i, none⟩ = some (.int .u8 (zs.getD i 0))) (hr : ∀ z ∈ zs, 0 ≤ z ∧ z ≤ 255) (hs : s < 4294967296) (hT : TabT w) :
    Calls Tryd.prog 51 #[.int .u32 s, .slice (some ⟨b, o, none⟩) zs.length cap] w fun e w' => e = .returned (.int .u32 (C.nxt s zs : Nat)) ∧ ∃ m, w' = w.drewN m := by
  have HC := Lib.hid hc; clear hc
  have HT := Lib.hid hT; clear hT
  unfold maxLen at hl
  obtain ⟨len, hlen⟩ : ∃ len, len = zs.length := ⟨_, rfl⟩
  have HLEN := Lib.hid hlen
  rw [← hlen] at hl ⊢
  clear hlen
  go_enter Tryd.func51, Tryd.ntmps51
  go_wp2
  go_loop [5, 12] (fun x i => ∃ k : Nat, k ≤ len ∧ i = .int .i64 k ∧ x = .int .u32 (C.run (C.F ^^^ s) (zs.take k) : Nat)) (fun _ i => len - (intOf i).toNat)
  case atStart => exact ⟨0, Nat.zero_le _, rfl, by rw [List.take_zero]; exact congrArg _ (xor_num C.F_lt hs rfl)⟩
  case round =>
    obtain ⟨k, hk, rfl, rfl⟩ := hrel
    by_cases hlt : k < len
    · have hcell : w.cell? ⟨b, o + k, none⟩ = some (.int .u8 (zs.getD k 0)) := HC.out k (by rw [← HLEN.out]; exact hlt)
      have hz := getD_range hr k
      have hx : C.run (C.F ^^^ s) (zs.take k) < 4294967296 := C.run_lt (C.xor_lt C.F_lt hs) (fun z hz => hr z (List.mem_of_mem_take hz))
      have HR : Hid (C.run (C.F ^^^ s) (zs.take (k + 1)) = C.byt (C.run (C.F ^^^ s) (zs.take k)) (zs.getD k 0).toNat) := by
        show _ = _
        rw [take_snoc _ _ (by rw [← HLEN.out]; exact hlt), C.run_snoc]
      generalize C.run (C.F ^^^ s) (zs.take k) = x at *
      generalize zs.getD k 0 = z at *
      obtain ⟨c, rfl⟩ := Int.eq_ofNat_of_zero_le hz.1
      obtain ⟨y, E1, hy, hyx⟩ : ∃ y : Nat, bits .xor .u32 (x : Int) (c : Int) = (y : Int) ∧ y < 4294967296 ∧ x ^^^ c = y := ⟨_, xor_num hx (by omega) rfl, C.xor_lt hx (by omega), rfl⟩
      obtain ⟨l1, t1, n1, hl1, hn1, hN1, E2, c1, E3⟩ := nib_facts w HT.out y hy
      obtain ⟨l2, t2, n2, hl2, hn2, hN2, E4, c2, E5⟩ := nib_facts w HT.out n1 hn1
      have HB : Hid (C.byt x c = n2) := by show _ = _; rw [C.byt_nib, hyx, hN1, hN2]
      clear hyx hN1 hN2
      go_wp2
      go_round
      case rel => exact ⟨k + 1, by omega, by go_num, by rw [HR.out]; simp [HB.out]⟩
      case measure => simp [intOf]; omega
    · obtain rfl : k = len := by omega
      have hx : C.run (C.F ^^^ s) zs < 4294967296 := C.run_lt (C.xor_lt C.F_lt hs) hr
      have HE : Hid (zs.take k = zs) := by show _ = _; rw [HLEN.out]; exact List.take_length
      rw [HE.out]
      go_wp2
      go_ret
      exact ⟨ret_int (xor_num C.F_lt hx rfl), nodraw _⟩

theorem next_nil (a : Option Addr) (s : Nat) (cap : Nat) (w : World) (hs : s < 4294967296) :
    Calls Tryd.prog 51 #[.int .u32 s, .slice a 0 cap] w fun e w' => e = .returned (.int .u32 (C.nxt s [] : Nat)) ∧ ∃ m, w' = w.drewN m := by
  have HX := Lib.hid (xor_num C.F_lt hs rfl)
  have HY : Hid (bits .xor .u32 (C.F : Int) ((C.F ^^^ s : Nat) : Int) = (C.nxt s [] : Nat)) := xor_num C.F_lt (C.xor_lt C.F_lt hs) rfl
  go_enter Tryd.func51, Tryd.ntmps51
  go_wp2
  go_loop [5, 12] (fun x i => x = .int .u32 ((C.F ^^^ s : Nat) : Int) ∧ i = .int .i64 0) (fun _ _ => 0)
  case atStart => exact ⟨congrArg _ HX.out, rfl⟩
  case round =>
    obtain ⟨rfl, rfl⟩ := hrel
    go_wp2
    go_ret
    exact ⟨ret_int HY.out, nodraw _⟩

/-- crc.Next, whatever is handed in. -/
theorem next_any (v : Value) (zs : List Int) (s : Nat) (w : World) (hv : IsBytes w v zs) (hs : s < 4294967296) (hT : TabT w) :
    Calls Tryd.prog 51 #[.int .u32 s, v] w fun e w' => e = .returned (.int .u32 (C.nxt s zs : Nat)) ∧ ∃ m, w' = w.drewN m := by
  obtain ⟨a, cap, rfl, hlc, hcm, hR, hwf⟩ := hv
  rcases hR with rfl | ⟨b, o, rfl, hc⟩
  · exact next_nil a s cap w hs
  · exact next_core b o zs s cap w (by omega) hc (byte_range hwf) hs hT
/-- crc.Sum. -/
theorem sum_any (v : Value) (zs : List Int) (w : World) (hv : IsBytes w v zs) (hT : TabT w) :
    Calls Tryd.prog 33 #[v] w fun e w' => e = .returned (.int .u32 (C.nxt 0 zs : Nat)) ∧ ∃ m, w' = w.drewN m := by
  have HV := Lib.hid hv
  have HT := Lib.hid hT; clear hT
  obtain ⟨a, cap, rfl, hlc, hcm, hR, hwf⟩ := hv
  clear hR hwf
  generalize zs.length = len at *
  have HN := next_any _ zs 0 w HV.out (by decide) HT.out
  go_enter Tryd.func33, Tryd.ntmps33
  go_wp2_with fail
  refine HN.mono ?_
  rintro e w' ⟨rfl, m, rfl⟩
  go_wp2
  go_ret
  exact ⟨rfl, _, rfl⟩

theorem st_succ (j y : Nat) : C.st (j + 1) y = C.step (C.st j y) := C.st_add j 1 y
theorem rnext_core (b o : Nat) (zs : List Int) (s : Nat) (cap : Nat) (w : World) (hl : zs.length ≤ maxLen)
    (hc : ∀ i, i < zs.length → w.cell? ⟨b, o + i, none⟩ = some (.int .u8 (zs.getD i 0))) (hr : ∀ z ∈ zs, 0 ≤ z ∧ z ≤ 255) (hs : s < 4294967296) :
    Calls Tryd.prog 50 #[.int .u32 s, .slice (some ⟨b, o, none⟩) zs.length cap] w fun e w' => e = .returned (.int .u32 (C.nxt s zs : Nat)) ∧ ∃ m, w' = w.drewN m := by
  have HC := Lib.hid hc; clear hc
  unfold maxLen at hl
  obtain ⟨len, hlen⟩ : ∃ len, len = zs.length := ⟨_, rfl⟩
  have HLEN := Lib.hid hlen
  rw [← hlen] at hl ⊢
  clear hlen
  have HS : Hid (bits .xor .u32 (s : Int) 4294967295 = ((C.F ^^^ s : Nat) : Int)) := by
    show _ = _
    rw [Nat.xor_comm]
    exact xor_num hs C.F_lt rfl
  go_enter Tryd.func50, Tryd.ntmps50
  go_wp2
  go_loop [5, 6] (fun x i => ∃ k : Nat, k ≤ len ∧ i = .int .i64 k ∧ x = .int .u32 (C.run (C.F ^^^ s) (zs.take k) : Nat)) (fun _ i => len - (intOf i).toNat)
  case atStart => exact ⟨0, Nat.zero_le _, rfl, by rw [List.take_zero]; exact congrArg _ HS.out⟩
  case round =>
    obtain ⟨k, hk, rfl, rfl⟩ := hrel
    by_cases hlt : k < len
    · have hcell : w.cell? ⟨b, o + k, none⟩ = some (.int .u8 (zs.getD k 0)) := HC.out k (by rw [← HLEN.out]; exact hlt)
      have hz := getD_range hr k
      have hx : C.run (C.F ^^^ s) (zs.take k) < 4294967296 := C.run_lt (C.xor_lt C.F_lt hs) (fun z hz => hr z (List.mem_of_mem_take hz))
      have HR : Hid (C.run (C.F ^^^ s) (zs.take (k + 1)) = C.byt (C.run (C.F ^^^ s) (zs.take k)) (zs.getD k 0).toNat) := by
        show _ = _
        rw [take_snoc _ _ (by rw [← HLEN.out]; exact hlt), C.run_snoc]
      generalize C.run (C.F ^^^ s) (zs.take k) = x at *
      generalize zs.getD k 0 = z at *
      obtain ⟨c, rfl⟩ := Int.eq_ofNat_of_zero_le hz.1
      obtain ⟨y, E1, hy, hyx⟩ : ∃ y : Nat, bits .xor .u32 (x : Int) (c : Int) = (y : Int) ∧ y < 4294967296 ∧ x ^^^ c = y := ⟨_, xor_num hx (by omega) rfl, C.xor_lt hx (by omega), rfl⟩
      have HB : Hid (C.byt x c = C.st 8 y) := by show _ = _; rw [← hyx]; rfl
      clear hyx
      go_wp2
      clear E1
      go_loop [5, 7] (fun x i => ∃ j : Nat, j ≤ 8 ∧ i = .int .i64 j ∧ x = .int .u32 (C.st j y : Nat)) (fun _ i => 8 - (intOf i).toNat)
      case atStart => exact ⟨0, Nat.zero_le _, rfl, rfl⟩
      case round =>
        obtain ⟨j, hj, rfl, rfl⟩ := hrel
        by_cases hjt : j < 8
        · have HST := Lib.hid (st_succ j y)
          have hv := C.st_lt j hy
          generalize C.st j y = v at *
          by_cases ho : (v : Int) % 2 = 1
          · have HX : Hid (bits .xor .u32 ((v : Int) / 2) 2197175160 = (C.step v : Nat)) := by
              show _ = _
              rw [show (v : Int) / 2 = ((v / 2 : Nat) : Int) from rfl]
              refine xor_num (b := C.P) (by omega) (by decide) ?_
              unfold C.step
              rw [show v % 2 = 1 by omega, Nat.one_mul]
            go_wp2
            go_round
            case rel => exact ⟨j + 1, by omega, by go_num, by rw [HST.out, HX.out]⟩
            case measure => simp [intOf]; omega
          · have HX : Hid ((v : Int) / 2 = (C.step v : Nat)) := by
              show _ = _
              unfold C.step
              rw [show v % 2 = 0 by omega, Nat.zero_mul, Nat.xor_zero]; rfl
            go_wp2
            go_round
            case rel => exact ⟨j + 1, by omega, by go_num, by rw [HST.out, HX.out]⟩
            case measure => simp [intOf]; omega
        · obtain rfl : j = 8 := by omega
          go_wp2
          go_round
          case rel => exact ⟨k + 1, by omega, by go_num, by rw [HR.out]; simp [HB.out]⟩
          case measure => simp [intOf]; omega
    · obtain rfl : k = len := by omega
      have hx : C.run (C.F ^^^ s) zs < 4294967296 := C.run_lt (C.xor_lt C.F_lt hs) hr
      have HE : Hid (zs.take k = zs) := by show _ = _; rw [HLEN.out]; exact List.take_length
      rw [HE.out]
      have HF : Hid (bits .xor .u32 ((C.run (C.F ^^^ s) zs : Nat) : Int) 4294967295 = (C.nxt s zs : Nat)) := by
        show _ = _
        rw [C.nxt, Nat.xor_comm C.F (C.run _ _)]
        exact xor_num hx C.F_lt rfl
      go_wp2
      go_ret
      exact ⟨ret_int HF.out, nodraw _⟩
theorem rnext_nil (a : Option Addr) (s : Nat) (cap : Nat) (w : World) (hs : s < 4294967296) :
    Calls Tryd.prog 50 #[.int .u32 s, .slice a 0 cap] w fun e w' => e = .returned (.int .u32 (C.nxt s [] : Nat)) ∧ ∃ m, w' = w.drewN m := by
  have HX : Hid (bits .xor .u32 (s : Int) 4294967295 = ((C.F ^^^ s : Nat) : Int)) := by
    show _ = _
    rw [Nat.xor_comm]
    exact xor_num hs C.F_lt rfl
  have HY : Hid (bits .xor .u32 ((C.F ^^^ s : Nat) : Int) 4294967295 = (C.nxt s [] : Nat)) := by
    show _ = _
    rw [C.nxt, Nat.xor_comm C.F (C.run _ _)]
    exact xor_num (C.xor_lt C.F_lt hs) C.F_lt rfl
  go_enter Tryd.func50, Tryd.ntmps50
  go_wp2
  go_loop [5, 6] (fun x i => x = .int .u32 ((C.F ^^^ s : Nat) : Int) ∧ i = .int .i64 0) (fun _ _ => 0)
  case atStart => exact ⟨congrArg _ HX.out, rfl⟩
  case round =>
    obtain ⟨rfl, rfl⟩ := hrel
    go_wp2
    go_ret
    exact ⟨ret_int HY.out, nodraw _⟩
/-- The reference's Next, whatever is handed in. -/
theorem rnext_any (v : Value) (zs : List Int) (s : Nat) (w : World) (hv : IsBytes w v zs) (hs : s < 4294967296) :
    Calls Tryd.prog 50 #[.int .u32 s, v] w fun e w' => e = .returned (.int .u32 (C.nxt s zs : Nat)) ∧ ∃ m, w' = w.drewN m := by
  obtain ⟨a, cap, rfl, hlc, hcm, hR, hwf⟩ := hv
  rcases hR with rfl | ⟨b, o, rfl, hc⟩
  · exact rnext_nil a s cap w hs
  · exact rnext_core b o zs s cap w (by omega) hc (byte_range hwf) hs
/-- The reference's Sum. -/
theorem rsum_any (v : Value) (zs : List Int) (w : World) (hv : IsBytes w v zs) :
    Calls Tryd.prog 29 #[v] w fun e w' => e = .returned (.int .u32 (C.nxt 0 zs : Nat)) ∧ ∃ m, w' = w.drewN m := by
  have HV := Lib.hid hv
  obtain ⟨a, cap, rfl, hlc, hcm, hR, hwf⟩ := hv
  clear hR hwf
  generalize zs.length = len at *
  have HN := rnext_any _ zs 0 w HV.out (by decide)
  go_enter Tryd.func29, Tryd.ntmps29
  go_wp2_with fail
  refine HN.mono ?_
  rintro e w' ⟨rfl, m, rfl⟩
  go_wp2
  go_ret
  exact ⟨rfl, _, rfl⟩
end Go.Proofs.YtmelmiookkeoaaaDoor
