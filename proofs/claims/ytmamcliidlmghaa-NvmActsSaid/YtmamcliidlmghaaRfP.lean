/- The reference's Put of layer 1: the bytes that it hands back lie in new memory. -/
import Derived.Test.YtmamcliidlmghaaGp
namespace Go.Proofs.Ytmamcliidlmghaa
open Go.RowKit

/-- What a call leaves that hands back bytes in new memory, and true. -/
def PutNew (w : World) (out : List Int) (e : Ending) (w' : World) : Prop :=
  ∃ g cap, e = .returned (.tuple #[.slice (some ⟨g, 0, none⟩) out.length cap, .bool true]) ∧ w.heap.size ≤ g ∧ g < w'.heap.size ∧ IsBytes w' (.slice (some ⟨g, 0, none⟩) out.length cap) out ∧ Below w.heap.size w w'

set_option maxRecDepth 100000 in
theorem rput_new (b o : Nat) (zs : List Int) (t n : Nat) (cap : Nat) (w : World) (hl : zs.length ≤ 140737488351232) (ht : t % 8 = 0) (ht8 : t + 8 ≤ zs.length)
    (hc : ∀ i, i < zs.length → w.cell? ⟨b, o + i, none⟩ = some (.int .u8 (zs.getD i 0))) (hwf : ∀ z ∈ zs, (Lit.int .u8 z).wf = true) (hn : n < 2 ^ 64) :
    Calls Try.prog 43 #[.slice (some ⟨b, o, none⟩) zs.length cap, .int .i64 t, .int .u64 n] w (PutNew w (M.pv zs t n 8)) := by
  obtain ⟨i0, hi, hz0, hz1, hz2⟩ := info_parts info_u8
  have HWF := Lib.hid hwf; clear hwf
  obtain ⟨len, hlen⟩ : ∃ len, len = zs.length := ⟨_, rfl⟩
  have HLEN := Lib.hid hlen
  rw [← hlen] at hl ht8 ⊢
  have HC : Hid (∀ i, i < len → w.cell? ⟨b, o + i, none⟩ = some (.int .u8 (zs.getD i 0))) := by rw [hlen]; exact hc
  clear hlen hc
  have hm8 : (t : Int) % 8 = 0 := by omega
  have HM := Lib.hid hm8
  obtain ⟨cs, hcs⟩ : ∃ cs, cs = zs.map (Value.int .u8) := ⟨_, rfl⟩
  have HCS := Lib.hid hcs; clear hcs
  have HCL : Hid (cs.length = len * 1) := by show _ = _; rw [HCS.out, HLEN.out]; simp
  have H1 : Hid (∀ v ∈ cs, v.oneCell' = true) := by rw [HCS.out]; exact ints_oneCell _ _
  have HN : Hid (∀ j u, cs[j]? = some u → (w.alloc (.cells #[] 5)).cell? ((⟨b, o, none⟩ : Addr).add j) = some u) := by
    show ∀ j u, _
    intro j v hv
    rw [HCS.out, List.getElem?_map] at hv
    obtain ⟨z, hz, rfl⟩ := Option.map_eq_some_iff.1 hv
    have hj : j < zs.length := by
      apply Nat.lt_of_not_le; intro hj; rw [List.getElem?_eq_none hj] at hz; cases hz
    have h := HC.out j (by rw [HLEN.out]; exact hj)
    rw [Addr.add_lit, (((Below.refl w.heap.size w).alloc (Nat.le_refl _) _).cell (p := ⟨b, o + j, none⟩) (World.block_lt_of_cell? w _ h)), h, List.getD_eq_getElem?_getD, hz]
    rfl
  have HOW : Hid ((w.alloc (.cells #[] 5)).ownsRow w.heap.size 5 1 (.slice (some ⟨w.heap.size, 0, none⟩) 0 0) 0 []) := World.ownsRow_made w #[] 0 (Nat.le_refl _) (by decide) rfl
  have HB0 : Hid (Below w.heap.size w (w.alloc (.cells #[] 5))) := (Below.refl w.heap.size w).alloc (Nat.le_refl _) _
  go_enter Try.func43, Try.ntmps43
  go_wp2_with (refine wpList_append_own _ rfl (.tmp 25) (.tmp 26) 22 rfl w.heap.size 5 i0 (.int .u8 0) 1 1 Try.underlying22 hi hz0 hz1 hz2 rfl (by decide) _ 0 [] rfl HOW.out ⟨b, o, none⟩ len cap cs rfl HCL.out HN.out H1.out (by unfold maxLen; omega) (by omega) (by simp) ?_)
  intro v' w1 hown' hgrow hnil
  have hb1 : Below w.heap.size w w1 := HB0.out.grown hgrow (by simp) (fun k hk => by simp [Value.ownBlock] at hk; omega)
  obtain ⟨g, cap', rfl, hbg, _, hc1, hc2⟩ := own_parts hown' hnil
  have hown : w1.ownsRow w.heap.size 5 1 (.slice (some ⟨g, 0, none⟩) len cap') len (zs.map (Value.int .u8)) := by
    have h := hown'
    rw [HCS.out] at h
    simpa using h
  have HOWN := Lib.hid hown
  have HB1 := Lib.hid hb1
  have HBG := Lib.hid hbg
  clear hown hb1 hnil hgrow hown' HOW HB0 HN H1 HCL HCS HC hbg
  go_wp2
  go_loopw [2, 9] (fun x k wr => ∃ j : Nat, j ≤ 8 ∧ k = .int .i64 j ∧ x = .int .u64 (n / 256 ^ j : Nat) ∧ wr.ownsRow w.heap.size 5 1 (.slice (some ⟨g, 0, none⟩) len cap') len ((M.pv zs t n j).map (Value.int .u8)) ∧ Below w.heap.size w wr) (fun _ k _ => 8 - (intOf k).toNat)
  case atStart => exact ⟨0, by omega, rfl, by simp, HOWN.out, HB1.out⟩
  case round =>
    obtain ⟨j, hj8, rfl, rfl, hown, hbel⟩ := hrel
    by_cases h8 : j < 8
    · have hlen : (M.pv zs t n j).length = len := by rw [M.pv_length, HLEN.out]
      have hcell : wr.cell? ⟨g, t + j, none⟩ = some (.int .u8 ((M.pv zs t n j).getD (t + j) 0)) := by
        rw [hown.cellAt (t + j) (by omega)]
        simp [show t + j < (M.pv zs t n j).length by omega]
      have hfz := hown.frozenAt (t + j)
      have HS := Lib.hid (hown.stored (t + j) (.int .u8 ((n / 256 ^ j % 256 : Nat) : Int))).1
      have HBN := Lib.hid (hbel.setCell (p := ⟨g, t + j, none⟩) HBG.out (.int .u8 ((n / 256 ^ j % 256 : Nat) : Int)))
      have HNX : Hid (n / 256 ^ (j + 1) = n / 256 ^ j / 256) := by show _ = _; rw [Nat.pow_succ, Nat.div_div_eq_div_mul]
      have hq : n / 256 ^ j < 18446744073709551616 := Nat.lt_of_le_of_lt (Nat.div_le_self _ _) hn
      have HPV : Hid ((M.pv zs t n (j + 1)).map (Value.int .u8) = ((M.pv zs t n j).map (Value.int .u8)).set (t + j) (.int .u8 ((n / 256 ^ j % 256 : Nat) : Int))) := by
        show _ = _
        rw [M.pv, List.map_set]
      clear hown hbel hlen
      generalize n / 256 ^ j = q at *
      go_wp2
      go_roundw
      case rel => exact ⟨j + 1, by omega, by go_num, by rw [HNX.out]; go_num, by rw [HPV.out]; exact HS.out, HBN.out⟩
      case measure => simp [intOf]; omega
    · obtain rfl : j = 8 := by omega
      have HO := Lib.hid hown
      have HBN := Lib.hid hbel
      clear hown hbel
      go_wp2
      go_ret2
      have hlen : len = (M.pv zs t n 8).length := by rw [M.pv_length, HLEN.out]
      have h := HO.out
      have hlt : g < wr.heap.size := by
        rcases h.2 with ⟨h', _⟩ | ⟨g', cap'', cur, h', _, hg, _⟩
        · simp at h'
        · simp only [Value.slice.injEq, Option.some.injEq, Addr.mk.injEq, and_true, true_and] at h'
          obtain ⟨rfl, _⟩ := h'
          exact (Array.getElem?_eq_some_iff.1 hg).1
      refine ⟨g, cap', by rw [← hlen]; rfl, HBG.out, hlt, ?_, HBN.out⟩
      rw [hlen] at h
      exact IsInts.of_row h (fun z hz => wf_byte (M.pv_range (byte_range HWF.out) t n 8 z hz))

end Go.Proofs.Ytmamcliidlmghaa
