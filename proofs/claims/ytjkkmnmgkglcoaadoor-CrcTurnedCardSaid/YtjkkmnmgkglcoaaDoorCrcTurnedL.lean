/- The walk of CrcTurned: whatever is handed in, the call answers true, and what was there stays. -/
import Derived.Test.YtjkkmnmgkglcoaaDoorCrcB
import Derived.Deep.QuietTactic
import Derived.BigQuiet
import Derived.StillTailTactics
namespace Go.Proofs.YtjkkmnmgkglcoaaDoor
open Go.RowKit

theorem bit_num (v i : Nat) (hv : v < 4294967296) : bits .and .u32 ((v : Int) / 2 ^ i) 1 = if v.testBit i then 1 else 0 := by
  have e : ((v : Int) / 2 ^ i) = ((v / 2 ^ i : Nat) : Int) := by
    rw [show ((2 : Int) ^ i) = ((2 ^ i : Nat) : Int) by simp]; rfl
  rw [e, show (1 : Int) = ((1 : Nat) : Int) from rfl, u32_and_nat _ _ (Nat.lt_of_le_of_lt (Nat.div_le_self _ _) hv) (by decide), Nat.and_one_is_mod, Nat.testBit_eq_decide_div_mod_eq]
  have h2 : v / 2 ^ i % 2 = 0 ∨ v / 2 ^ i % 2 = 1 := by omega
  rcases h2 with h | h <;> rw [h] <;> rfl
theorem crcTurned_out (a0 : Option Addr) (len cap : Nat) (a1 v : Int) (w : World) (hm : len ≤ maxLen) (ho : 3000 < len ∨ len < 4 ∨ v = 0)
    (hT : TabT w) (hs : 0 < w.heap.size) :
    Calls Tryd.prog 5 #[.slice a0 len cap, .int .u16 a1, .int .u32 v] w fun e w' => e = .returned (.bool true) ∧ Below w.heap.size w w' := by
  have HT := Lib.hid hT; clear hT
  unfold maxLen at hm
  by_cases h1 : 3000 < len
  · go_enter Tryd.func5, Tryd.ntmps5
    go_wp2_with fail
    refine (alive_any _ HT.out hs).mono ?_
    rintro e w1 ⟨rfl, hb⟩
    have HB := Lib.hid hb; clear hb
    go_wp2
    go_ret
    exact ⟨rfl, HB.out⟩
  · by_cases h2 : len < 4
    · go_enter Tryd.func5, Tryd.ntmps5
      go_wp2_with fail
      refine (alive_any _ HT.out hs).mono ?_
      rintro e w1 ⟨rfl, hb⟩
      have HB := Lib.hid hb; clear hb
      go_wp2
      go_ret
      exact ⟨rfl, HB.out⟩
    · obtain rfl : v = 0 := by omega
      clear ho
      go_enter Tryd.func5, Tryd.ntmps5
      go_wp2_with fail
      refine (alive_any _ HT.out hs).mono ?_
      rintro e w1 ⟨rfl, hb⟩
      have HB := Lib.hid hb; clear hb
      go_wp2
      go_ret
      exact ⟨rfl, HB.out⟩

theorem crcTurned_in (b o : Nat) (zs : List Int) (len cap : Nat) (at' v : Nat) (w : World) (H0 : Hid (IsBytes w (.slice (some ⟨b, o, none⟩) len cap) zs)) (HL : Hid (zs.length = len)) (_hlc : len ≤ cap) (h1 : 4 ≤ len) (h2 : len ≤ 3000) (hat : at' ≤ 65535) (hv : v < 4294967296) (hv0 : 0 < v)
    (hT : TabT w) (hs : 0 < w.heap.size) :
    Calls Tryd.prog 5 #[.slice (some ⟨b, o, none⟩) len cap, .int .u16 at', .int .u32 v] w fun e w' => e = .returned (.bool true) ∧ Below w.heap.size w w' := by
  have HT := Lib.hid hT; clear hT
  obtain ⟨i0, hi, hiz0, hiz1, hiz2⟩ := info_parts info_u8
  obtain ⟨k, hk, hkl⟩ : ∃ k : Nat, (at' : Int) % (8 * (len : Int) - 31) = (k : Int) ∧ k + 32 ≤ 8 * len := by
    have e1 := Int.emod_nonneg (at' : Int) (b := 8 * (len : Int) - 31) (by omega)
    have e2 := Int.emod_lt_of_pos (at' : Int) (b := 8 * (len : Int) - 31) (by omega)
    exact ⟨((at' : Int) % (8 * (len : Int) - 31)).toNat, by omega, by omega⟩
  have HK := Lib.hid hk; clear hk
  have HD := Lib.hid (C.turned zs k v H0.out.range (by rw [HL.out]; exact hkl) hv (by omega))
  have hve : ((v : Int) == 0) = false := by simp; omega
  go_enter Tryd.func5, Tryd.ntmps5
  go_wp2_with fail
  refine (alive_any _ HT.out hs).mono ?_
  rintro e w1 ⟨rfl, hb⟩
  have HB := Lib.hid hb
  have HV1 : Hid (IsBytes w1 (.slice (some ⟨b, o, none⟩) len cap) zs) := H0.out.below hb
  have HOW : Hid (w1.ownsRow w1.heap.size 5 1 (.slice none 0 0) 0 []) := ⟨by simp, .inl ⟨rfl, rfl⟩⟩
  have hsz := hb.size
  clear hb
  obtain ⟨cs, hcs⟩ : ∃ cs, cs = zs.map (Value.int .u8) := ⟨_, rfl⟩
  have HCS := Lib.hid hcs; clear hcs
  have HCL : Hid (cs.length = len * 1) := by show _ = _; rw [HCS.out]; simpa using HL.out
  have H1 : Hid (∀ v ∈ cs, v.oneCell' = true) := by rw [HCS.out]; exact ints_oneCell _ _
  have HN : Hid (∀ j u, cs[j]? = some u → w1.cell? ((⟨b, o, none⟩ : Addr).add j) = some u) := by
    show ∀ j u, _
    intro j v hv
    rw [HCS.out, List.getElem?_map] at hv
    obtain ⟨z, hz, rfl⟩ := Option.map_eq_some_iff.1 hv
    have hj : j < zs.length := by
      apply Nat.lt_of_not_le; intro hj; rw [List.getElem?_eq_none hj] at hz; cases hz
    rw [Addr.add_lit, HV1.out.cell j (by rw [← HL.out]; exact hj), List.getD_eq_getElem?_getD, hz]
    rfl
  go_wp2_with (refine wpList_append_own _ rfl (.const (.slice none 0 0)) (.tmp 24) 23 rfl w1.heap.size 5 i0 (.int .u8 0) 1 1 Tryd.underlying23 hi hiz0 hiz1 hiz2 rfl (by decide) _ 0 [] rfl HOW.out ⟨b, o, none⟩ len cap cs rfl HCL.out HN.out H1.out (by unfold maxLen; omega) (by omega) (by simp) ?_)
  intro v' w2 hown' hgrow hnil
  have hb2 : Below w.heap.size w w2 := HB.out.grown hgrow (by simpa using hsz) (fun k hk => by simp [Value.ownBlock] at hk)
  obtain ⟨g, cap', rfl, hbg, _, hc1, hc2⟩ := own_parts hown' (fun e => by have := hnil.1 e; omega)
  have HOWN : Hid (w2.ownsRow w1.heap.size 5 1 (.slice (some ⟨g, 0, none⟩) len cap') len ((C.turn zs (v % 2 ^ 0 * 2 ^ k)).map (Value.int .u8))) := by
    have h := hown'
    rw [HCS.out] at h
    rw [show v % 2 ^ 0 * 2 ^ k = 0 by simp [Nat.mod_one], C.turn_zero zs H0.out.range]
    exact h
  have HB2 := Lib.hid hb2
  have HTL : Hid (∀ m, (C.turn zs m).length = len) := by show ∀ m, _; intro m; rw [C.turn_length, HL.out]
  clear hown' hgrow hnil hb2 HN H1 HCL HCS HOW
  go_wp2_with fail
  rw [HK.out]
  go_wp2_with fail
  go_loopw [9, 33] (fun _ x wr => ∃ i : Nat, i ≤ 32 ∧ x = .int .i64 i ∧ wr.ownsRow w1.heap.size 5 1 (.slice (some ⟨g, 0, none⟩) len cap') len ((C.turn zs (v % 2 ^ i * 2 ^ k)).map (Value.int .u8)) ∧ Below w.heap.size w wr) (fun _ x _ => 32 - (intOf x).toNat)
  case atStart => exact ⟨0, by omega, rfl, HOWN.out, HB2.out⟩
  case round =>
    obtain ⟨i, hi32, rfl, hown, hbel⟩ := hrel
    by_cases hlt : i < 32
    · have HP := Lib.hid (C.part_succ v k i)
      cases hbit : v.testBit i
      · have HBT : Hid ((bits .and .u32 ((v : Int) / 2 ^ i) 1 == 1) = false) := by show _ = _; rw [bit_num v i hv, hbit]; rfl
        rw [hbit] at HP
        have HO := Lib.hid hown
        have HBE := Lib.hid hbel
        clear hown hbel hbit
        have hbt := HBT.out
        go_wp2
        go_roundw
        case rel => exact ⟨i + 1, by omega, by go_num, by rw [HP.out]; simpa using HO.out, HBE.out⟩
        case measure => simp [intOf]; omega
      · have HBT : Hid ((bits .and .u32 ((v : Int) / 2 ^ i) 1 == 1) = true) := by show _ = _; rw [bit_num v i hv, hbit]; rfl
        rw [hbit, if_pos rfl] at HP
        have hpl : (k + i) / 8 < len := by omega
        have HU : Hid (C.turn zs (v % 2 ^ (i + 1) * 2 ^ k) = (C.turn zs (v % 2 ^ i * 2 ^ k)).set ((k + i) / 8) ((((C.turn zs (v % 2 ^ i * 2 ^ k)).getD ((k + i) / 8) 0).toNat ^^^ 2 ^ ((k + i) % 8) : Nat) : Int)) := by
          show _ = _
          rw [HP.out]
          exact C.turn_bit _ _ _ (by rw [HL.out]; exact hpl)
        have hrt := C.turn_range zs (v % 2 ^ i * 2 ^ k) H0.out.range
        have hr := getD_range hrt ((k + i) / 8)
        have hlen := HTL.out (v % 2 ^ i * 2 ^ k)
        have hcell : wr.cell? ⟨g, (k + i) / 8, none⟩ = some (.int .u8 ((C.turn zs (v % 2 ^ i * 2 ^ k)).getD ((k + i) / 8) 0)) := by
          rw [hown.cellAt _ (by omega)]
          simp [show (k + i) / 8 < (C.turn zs (v % 2 ^ i * 2 ^ k)).length by omega]
        have hfz := hown.frozenAt ((k + i) / 8)
        generalize (C.turn zs (v % 2 ^ i * 2 ^ k)).getD ((k + i) / 8) 0 = x at *
        obtain ⟨x, rfl⟩ := Int.eq_ofNat_of_zero_le hr.1
        have HS := Lib.hid (hown.stored ((k + i) / 8) (.int .u8 ((x ^^^ 2 ^ ((k + i) % 8) : Nat) : Int))).1
        have HBN := Lib.hid (hbel.setCell (p := ⟨g, (k + i) / 8, none⟩) (Nat.le_trans hsz hbg) (.int .u8 ((x ^^^ 2 ^ ((k + i) % 8) : Nat) : Int)))
        have hbt := HBT.out
        have hs1 : IntKind.i64.wrap ((k : Int) + (i : Int)) = ((k + i : Nat) : Int) := by rw [IntWalk.i64_in _ (by omega)]; rfl
        have hs2 : (k : Int) + (i : Int) = ((k + i : Nat) : Int) := rfl
        have hs3 : IntKind.i64.wrap ((k + i : Nat) : Int) = ((k + i : Nat) : Int) := IntWalk.i64_in _ (by omega)
        have hp95 : k + i ≤ 65535 := by omega
        have hq : IntKind.i64.wrap (((k + i : Nat) : Int).tdiv 8) = (((k + i) / 8 : Nat) : Int) := by
          rw [Int.tdiv_eq_ediv_of_nonneg (by omega), IntWalk.i64_in _ (by omega)]; rfl
        have hm : IntKind.i64.wrap (((k + i : Nat) : Int).tmod 8) = (((k + i) % 8 : Nat) : Int) := by
          rw [Int.tmod_eq_emod_of_nonneg (by omega), IntWalk.i64_in _ (by omega)]; rfl
        have hm2 : ((k + i : Nat) : Int).tmod 8 = (((k + i) % 8 : Nat) : Int) := by
          rw [Int.tmod_eq_emod_of_nonneg (by omega)]; rfl
        have hq3 : IntKind.i64.wrap (((k + i) / 8 : Nat) : Int) = (((k + i) / 8 : Nat) : Int) := IntWalk.i64_in _ (by omega)
        have hm4 : IntKind.i64.wrap (((k + i) % 8 : Nat) : Int) = (((k + i) % 8 : Nat) : Int) := IntWalk.i64_in _ (by omega)
        have hq2 : ((k + i : Nat) : Int) / 8 = (((k + i) / 8 : Nat) : Int) := rfl
        have hm3 : ((k + i : Nat) : Int) % 8 = (((k + i) % 8 : Nat) : Int) := rfl
        have hq7 : (k + i) % 8 < 8 := Nat.mod_lt _ (by decide)
        have HX : Hid (bits .xor .u8 (x : Int) ((2 : Int) ^ ((k + i) % 8) % 256) = ((x ^^^ 2 ^ ((k + i) % 8) : Nat) : Int)) := by
          show _ = _
          have h2 : 2 ^ ((k + i) % 8) < 256 := Nat.lt_of_le_of_lt (Nat.pow_le_pow_right (by decide) (show (k + i) % 8 ≤ 7 by omega)) (by decide)
          rw [show ((2 : Int) ^ ((k + i) % 8) % 256) = ((2 ^ ((k + i) % 8) % 256 : Nat) : Int) by simp, Nat.mod_eq_of_lt h2]
          exact u8_xor_nat _ _ (by omega) h2
        generalize (k + i) / 8 = q at *
        generalize (k + i) % 8 = r at *
        have hq0 : (0 : Int) ≤ (q : Int) := by omega
        generalize k + i = p at *
        have hql : (q : Int) < (len : Int) := by omega
        clear hown hbel hlen hrt hbit
        go_wp2_with fail
        go_still_tail 14, (by kernel_rfl)
        change wpList _ _ _ _ _ wr.drew
        go_wp2_with fail
        rw [HX.out]
        go_roundw
        case rel => exact ⟨i + 1, by omega, by go_num, by rw [HU.out, List.map_set]; exact HS.out, below_drewN' HBN.out 1⟩
        case measure => simp [intOf]; omega
    · obtain rfl : i = 32 := by omega
      have HVX : Hid (IsBytes wr (.slice (some ⟨g, 0, none⟩) len cap') (C.turn zs (v * 2 ^ k))) := by
        have hl := HTL.out (v * 2 ^ k)
        rw [Nat.mod_eq_of_lt (show v < 2 ^ 32 by omega)] at hown
        have h := IsInts.of_row (k := .u8) (xs := C.turn zs (v * 2 ^ k)) (cap := cap') (by rw [hl]; exact hown) (fun z hz => wf_byte (C.turn_range zs _ H0.out.range z hz))
        rw [hl] at h
        exact h
      have HV0 : Hid (IsBytes wr (.slice (some ⟨b, o, none⟩) len cap) zs) := H0.out.below hbel
      have HT2 : Hid (TabT wr) := HT.out.below hbel hs
      have HBE := Lib.hid hbel
      clear hown hbel
      go_wp2_with fail
      refine (sum_any _ _ _ (by exact HV0.out) (by exact HT2.out)).mono ?_
      rintro e w' ⟨rfl, m1, rfl⟩
      go_wp2_with fail
      refine (sum_any _ _ _ (by exact HVX.out) (by exact HT2.out)).mono ?_
      rintro e w' ⟨rfl, m2, rfl⟩
      go_wp2
      go_ret
      exact ⟨ret_bool (by have := HD.out; simp [bne_iff_ne]; omega), below_drewN' HBE.out _⟩

theorem crcTurned_walk (b0 : Option Addr) (len0 cap0 : Nat) (z0 : List Int) (a1 a2 : Int) (w : World)
    (w0 : IsInts .u8 w (.slice b0 len0 cap0) z0) (w1 : (Lit.int .u16 a1).wf = true) (w2 : (Lit.int .u32 a2).wf = true)
    (hT : TabT w) (hs : 0 < w.heap.size) :
    Calls Tryd.prog 5 #[.slice b0 len0 cap0, .int .u16 a1, .int .u32 a2] w fun e w' => e = .returned (.bool true) ∧ Below w.heap.size w w' := by
  obtain ⟨hz0, hl0, hm0⟩ := w0.len
  have h1 : ∃ n : Nat, a1 = n ∧ n ≤ 65535 := by
    simp [Lit.wf, IntKind.min, IntKind.max, IntKind.signed, IntKind.bits] at w1
    exact ⟨a1.toNat, by omega, by omega⟩
  have h2 : ∃ n : Nat, a2 = n ∧ n < 4294967296 := by
    simp [Lit.wf, IntKind.min, IntKind.max, IntKind.signed, IntKind.bits] at w2
    exact ⟨a2.toNat, by omega, by omega⟩
  obtain ⟨n1, rfl, h1⟩ := h1
  obtain ⟨n2, rfl, h2⟩ := h2
  by_cases ho : 3000 < len0 ∨ len0 < 4 ∨ (n2 : Int) = 0
  · exact crcTurned_out b0 len0 cap0 n1 n2 w (by omega) ho hT hs
  · obtain ⟨g, o, rfl⟩ := w0.cells (by omega)
    exact crcTurned_in g o z0 len0 cap0 n1 n2 w w0 hz0 hl0 (by omega) (by omega) h1 h2 (by omega) hT hs
end Go.Proofs.YtjkkmnmgkglcoaaDoor
