
/- Layer 5: the contract of bytes, the reference's. -/
import Derived.Test.YtmelmiookkeoaaaDoorHdD

namespace Go.Proofs.YtmelmiookkeoaaaDoor

open Go.RowKit

theorem digits_succ (x k : Nat) (h : k < 8) : (V.digits x).take (k + 1) = (V.digits x).take k ++ [((x / 256 ^ k % 256 : Nat) : Int)] := by
  have hl := V.digits_length x
  have hg := V.digits_getD x k h
  rw [List.take_succ_eq_append_getElem (by omega)]
  rw [List.getD_eq_getElem?_getD, List.getElem?_eq_getElem (by omega)] at hg
  congr 2
theorem bts_take_succ (l : List Nat) (j x : Nat) (h : l[j]? = some x) : V.bts (l.take (j + 1)) = V.bts (l.take j) ++ V.digits x := by
  have hj := (List.getElem?_eq_some_iff.1 h).1
  rw [List.take_succ_eq_append_getElem hj, V.bts_append, (List.getElem?_eq_some_iff.1 h).2]
  simp [V.bts]
set_option maxRecDepth 100000 in
theorem rf5_bytes_new {w : World} {A : Option Addr} {len cap : Nat} {l : List Nat} (hl : IsWords w (.slice A len cap) l) (hlen : len ≤ 1000) :
    Calls Tryd.prog 35 #[.slice A len cap] w fun e w' => ∃ v, e = .returned v ∧ IsBytes w' v (V.bts l) ∧ Below w.heap.size w w' ∧ ∀ k, v.ownBlock = some k → w.heap.size ≤ k := by
  obtain ⟨i0, hi, hz0, hz1, hz2⟩ := info_parts info_u8
  obtain ⟨hll, hlc, hlm⟩ := hl.len
  unfold maxLen at hlm
  have HL := Lib.hid hl
  have HLL := Lib.hid hll
  clear hl hll
  go_enter Tryd.func35, Tryd.ntmps35
  go_wp2_with fail
  go_loopw [3, 4] (fun out x wr => ∃ j : Nat, j ≤ len ∧ x = .int .i64 j ∧ wr.ownsRow w.heap.size 5 1 out (8 * j) ((V.bts (l.take j)).map (Value.int .u8)) ∧ Below w.heap.size w wr) (fun _ x _ => len - (intOf x).toNat)
  case atStart => exact ⟨0, by omega, rfl, by simpa [V.bts] using owns_nil, Below.refl _ _⟩
  case round =>
    obtain ⟨j, hj, rfl, hown, hbel⟩ := hrel
    have HBEL := Lib.hid hbel
    have HOWN := Lib.hid hown
    obtain ⟨a0, c0, rfl, _, _⟩ := owns_form hown
    clear hown hbel
    by_cases hlt : j < len
    · obtain ⟨b1, o1, x, rfl, hx, hx2, hc1⟩ := (HL.out.below HBEL.out).get j hlt
      have HX := Lib.hid hx
      clear hx
      have HX0 : Hid (x / 256 ^ 0 = x) := by show _ = _; rw [Nat.pow_zero, Nat.div_one]
      have HX2 := Lib.hid hx2
      go_wp2_with fail
      go_loopw [3, 5, 6] (fun out v k wr => ∃ i : Nat, i ≤ 8 ∧ k = .int .i64 i ∧ v = .int .u64 ((x / 256 ^ i : Nat) : Int) ∧ wr.ownsRow w.heap.size 5 1 out (8 * j + i) ((V.bts (l.take j) ++ (V.digits x).take i).map (Value.int .u8)) ∧ Below w.heap.size w wr) (fun _ _ k _ => 8 - (intOf k).toNat)
      case atStart => exact ⟨0, by omega, rfl, by rw [HX0.out], by simpa using HOWN.out, HBEL.out⟩
      case round =>
        obtain ⟨i, hi8, rfl, rfl, hown, hbel⟩ := hrel
        have HB2 := Lib.hid hbel
        have HO2 := Lib.hid hown
        obtain ⟨a1, c1, rfl, _, _⟩ := owns_form hown
        clear hown hbel
        by_cases hlt8 : i < 8
        · have hq1 : x / 256 ^ (i + 1) = x / 256 ^ i / 256 := by rw [Nat.pow_succ, Nat.div_div_eq_div_mul]
          have hqd := digits_succ x i hlt8
          have hqm : x / 256 ^ i < 2 ^ 64 := Nat.lt_of_le_of_lt (Nat.div_le_self _ _) HX2.out
          have HQ1 := Lib.hid hq1
          have HQD := Lib.hid hqd
          clear hq1 hqd
          generalize x / 256 ^ i = q at *
          obtain ⟨r, hr⟩ : ∃ r : Nat, r = q % 256 := ⟨_, rfl⟩
          obtain ⟨q2, hq2⟩ : ∃ q2 : Nat, q2 = q / 256 := ⟨_, rfl⟩
          rw [← hr] at HQD
          rw [← hq2] at HQ1
          have hr2 : (q : Int) % 256 = (r : Int) := by omega
          have hr3 : r ≤ 255 := by omega
          have hq3 : (q : Int) / 256 = (q2 : Int) := by omega
          have hq4 : q2 < 2 ^ 64 := by omega
          clear hr hq2
          have HB3 : Hid (∀ o, Below w.heap.size w (wr.alloc o)) := fun o => HB2.out.alloc HB2.out.size o
          have HO3 : Hid (∀ o, (wr.alloc o).ownsRow w.heap.size 5 1 (.slice a1 (8 * j + i) c1) (8 * j + i) ((V.bts (l.take j) ++ (V.digits x).take i).map (Value.int .u8))) := fun o => owns_below HO2.out ((Below.refl _ _).alloc (Nat.le_refl _) o)
          have HI1 : Hid (∀ t, IsInts .u8 (wr.alloc (.cells #[.int .u8 (r : Int)] t (0, 0))) (.slice (some ⟨wr.heap.size, 0, none⟩) 1 1) [(r : Int)]) := fun t => isBytes_new wr [(r : Int)] t (0, 0) (by intro z hz; obtain rfl := List.mem_singleton.1 hz; omega) (by unfold maxLen; simp)
          go_wp2_with (at_builtin; refine wpList_append_ints rfl (.tmp 21) (.tmp 25) 37 rfl .u8 w.heap.size 5 i0 _ 1 Tryd.underlying37 hi hz0 hz1 hz2 rfl _ _ _ rfl (HO3.out _) _ 1 1 _ rfl (HI1.out _) (by unfold maxLen; omega) (by omega) (HB3.out _).size ?_)
          intro v' w5 hown' hgr
          have HO5 : Hid (w5.ownsRow w.heap.size 5 1 v' (8 * j + (i + 1)) ((V.bts (l.take j) ++ (V.digits x).take (i + 1)).map (Value.int .u8))) := by
            show World.ownsRow _ _ _ _ _ _ _
            rw [HQD.out, ← List.append_assoc]
            simpa [Nat.add_assoc] using hown'
          have HB5 : Hid (Below w.heap.size w w5) := (HB3.out _).grown hgr (HB3.out _).size (fun k hk => owns_block HO2.out k hk)
          have HQE : Hid (x / 256 ^ (i + 1) = q2) := HQ1
          clear hown' hgr
          go_wp2
          go_roundw
          case rel => exact ⟨i + 1, by omega, by go_num, by rw [HQE.out], HO5.out, HB5.out⟩
          case measure => simp [intOf]; omega
        · obtain rfl : i = 8 := by omega
          have HF : Hid (V.bts (l.take j) ++ (V.digits x).take 8 = V.bts (l.take (j + 1))) := by
            show _ = _
            rw [bts_take_succ l j x HX.out, List.take_of_length_le (l := V.digits x) (by rw [V.digits_length]; decide)]
          rw [HF.out] at HO2
          go_wp2
          go_roundw
          case rel => exact ⟨j + 1, by omega, by go_num, HO2.out, HB2.out⟩
          case measure => simp [intOf]; omega
    · obtain rfl : j = len := by omega
      have HF : Hid (l.take j = l) := List.take_of_length_le (Nat.le_of_eq HLL.out)
      rw [HF.out] at HOWN
      go_wp2
      go_ret
      exact ⟨_, rfl, IsInts.of_own HOWN.out (fun z hz => wf_byte (V.bts_range _ z hz)), HBEL.out, fun k hk => owns_block HOWN.out k hk⟩
theorem rf5_bytes {w : World} {A : Option Addr} {len cap : Nat} {l : List Nat} (hl : IsWords w (.slice A len cap) l) (hlen : len ≤ 1000) :
    Calls Tryd.prog 35 #[.slice A len cap] w (BytesPost w (V.bts l)) :=
  (rf5_bytes_new hl hlen).mono fun _ _ ⟨v, a, b, c, _⟩ => ⟨v, a, b, c⟩
end Go.Proofs.YtmelmiookkeoaaaDoor
