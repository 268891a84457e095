/- The walk of NvmNobody: whatever is handed in, the call answers true, and what was there stays. -/
import Derived.Test.YtdhjjiholmcagaaNvAl
namespace Go.Proofs.Ytdhjjiholmcagaa
open Go.RowKit

theorem NoDev.newer {w w1 : World} {v : Value} (h : NoDev w v) (hb : Below w.heap.size w w1) : NoDev w1 v := by
  rcases h with h | ⟨D, h, hD⟩
  · exact .inl h
  · exact .inr ⟨D, h, (hb.block D (Array.getElem?_eq_some_iff.1 hD).1).trans hD⟩
theorem wf_i64 {a : Int} (h : (Lit.int .i64 a).wf = true) : I64 a := by
  simp [Lit.wf, IntKind.min, IntKind.max, IntKind.signed, IntKind.bits] at h
  unfold I64; omega
theorem wf_u64 {a : Int} (h : (Lit.int .u64 a).wf = true) : ∃ n : Nat, a = n ∧ n < 2 ^ 64 := by
  simp [Lit.wf, IntKind.min, IntKind.max, IntKind.signed, IntKind.bits] at h
  exact ⟨a.toNat, by omega, by omega⟩
theorem wf_u8 {a : Int} (h : (Lit.int .u8 a).wf = true) : ∃ n : Nat, a = n ∧ n ≤ 255 := by
  simp [Lit.wf, IntKind.min, IntKind.max, IntKind.signed, IntKind.bits] at h
  exact ⟨a.toNat, by omega, by omega⟩

set_option maxRecDepth 100000 in
theorem nvmNobody_walk (off n many : Int) (w : World) (h0 : (Lit.int .i64 off).wf = true) (h1 : (Lit.int .u64 n).wf = true) (h2 : (Lit.int .i64 many).wf = true) :
    Calls Try.prog 7 #[.int .i64 off, .int .u64 n, .int .i64 many] w fun e w' => e = .returned (.bool true) ∧ Below w.heap.size w w' := by
  have hoff := wf_i64 h0
  have hmany := wf_i64 h2
  have hoff' := hoff
  have hmany' := hmany
  unfold I64 at hoff' hmany'
  clear h0 h1 h2
  go_enter Try.func7, Try.ntmps7
  go_wp2_with fail
  refine (alive_any _).mono ?_
  rintro e w1 ⟨rfl, hb1⟩
  have HB1 := Lib.hid hb1
  clear hb1
  go_wp2_with fail
  obtain ⟨W2, hW2⟩ : ∃ W2, W2 = (w1.alloc (.cells #[.slice none 0 0, .int .i64 0, .int .i64 0] 68)).alloc (.cells #[.pointer none, .pointer (some ⟨w1.heap.size, 0, none⟩)] 26) := ⟨_, rfl⟩
  have HB2 : Hid (Below w.heap.size w W2) := by
    rw [hW2]
    exact (HB1.out.alloc HB1.out.size _).alloc (by have := HB1.out.size; simp; omega) _
  have HE : Hid (W2.heap[w1.heap.size]? = some (.cells #[.slice none 0 0, .int .i64 0, .int .i64 0] 68 (0, 0))) := by
    show _ = _
    rw [hW2]; exact (heap_alloc2_old w1 _ _)
  have HS : Hid (W2.heap[w1.heap.size + 1]? = some (.cells #[.pointer none, .pointer (some ⟨w1.heap.size, 0, none⟩)] 26 (0, 0))) := by
    show _ = _
    rw [hW2]; exact (heap_alloc2_new w1 _ _)
  have hsz : w1.heap.size + 1 < W2.heap.size := (Array.getElem?_eq_some_iff.1 HS.out).1
  rw [← hW2]
  clear hW2
  go_loopw [8, 9, 10, 18] (fun _ _ _ x wr => ∃ j : Nat, j ≤ 2 ∧ x = .int .i64 j ∧ Below W2.heap.size W2 wr) (fun _ _ _ x _ => 2 - (intOf x).toNat)
  case atStart => exact ⟨0, by omega, rfl, Below.refl _ _⟩
  case round =>
    obtain ⟨j, hj, rfl, hbr⟩ := hrel
    have HBR := Lib.hid hbr
    have hrow : wr.heap[w1.heap.size + 1]? = some (.cells #[.pointer none, .pointer (some ⟨w1.heap.size, 0, none⟩)] 26 (0, 0)) := (hbr.block _ (by omega)).trans HS.out
    have c0 : wr.cell? ⟨w1.heap.size + 1, 0, none⟩ = some (.pointer none) := cell_of_row wr _ 0 _ _ _ hrow
    have c1 : wr.cell? ⟨w1.heap.size + 1, 1, none⟩ = some (.pointer (some ⟨w1.heap.size, 0, none⟩)) := cell_of_row wr _ 1 _ _ _ hrow
    have HE2 : Hid (wr.heap[w1.heap.size]? = some (.cells #[.slice none 0 0, .int .i64 0, .int .i64 0] 68 (0, 0))) := (hbr.block _ (by omega)).trans HE.out
    clear hbr hrow
    have h3 : j = 0 ∨ j = 1 ∨ j = 2 := by omega
    clear hj
    rcases h3 with rfl | rfl | rfl
    · have hno : NoDev wr (.pointer none) := .inl rfl
      have hv := True.intro
      have HD := Lib.hid hno
      clear hno
      have hval := hv
      clear hv
      go_wp2_with fail
      refine (no_load HD.out off).mono ?_
      rintro e w' ⟨rfl, rfl⟩
      go_wp2_with fail
      refine (no_stop HD.out 3).mono ?_
      rintro e w' ⟨rfl, rfl⟩
      go_wp2_with fail
      refine (no_crash HD.out _).mono ?_
      rintro e w' ⟨rfl, rfl⟩
      go_wp2_with fail
      refine (no_store HD.out off n).mono ?_
      rintro e w' ⟨rfl, rfl⟩
      go_wp2_with fail
      refine (no_flush HD.out off).mono ?_
      rintro e w' ⟨rfl, rfl⟩
      go_wp2_with fail
      refine (no_fence HD.out).mono ?_
      rintro e w' ⟨rfl, rfl⟩
      go_wp2_with fail
      refine (no_may HD.out off hoff).mono ?_
      rintro e w' ⟨rfl, rfl⟩
      go_wp2_with fail
      refine (no_image HD.out).mono ?_
      rintro e w3 ⟨⟨a, rfl⟩, hb3⟩
      have HD3 := Lib.hid (HD.out.newer hb3)
      have HB3 : Hid (Below W2.heap.size W2 w3) := HBR.out.trans (hb3.mono HBR.out.size)
      clear hb3
      go_wp2_with fail
      refine (no_steps HD3.out).mono ?_
      rintro e w' ⟨rfl, rfl⟩
      go_wp2_with fail
      refine (no_size HD3.out).mono ?_
      rintro e w' ⟨rfl, rfl⟩
      go_wp2
      go_roundw
      case rel => exact ⟨1, by omega, rfl, HB3.out⟩
      case measure => simp [intOf]
    · have hno : NoDev wr (.pointer (some ⟨w1.heap.size, 0, none⟩)) := .inr ⟨_, rfl, HE2.out⟩
      have hv := True.intro
      have HD := Lib.hid hno
      clear hno
      have hval := hv
      clear hv
      go_wp2_with fail
      refine (no_load HD.out off).mono ?_
      rintro e w' ⟨rfl, rfl⟩
      go_wp2_with fail
      refine (no_stop HD.out 3).mono ?_
      rintro e w' ⟨rfl, rfl⟩
      go_wp2_with fail
      refine (no_crash HD.out _).mono ?_
      rintro e w' ⟨rfl, rfl⟩
      go_wp2_with fail
      refine (no_store HD.out off n).mono ?_
      rintro e w' ⟨rfl, rfl⟩
      go_wp2_with fail
      refine (no_flush HD.out off).mono ?_
      rintro e w' ⟨rfl, rfl⟩
      go_wp2_with fail
      refine (no_fence HD.out).mono ?_
      rintro e w' ⟨rfl, rfl⟩
      go_wp2_with fail
      refine (no_may HD.out off hoff).mono ?_
      rintro e w' ⟨rfl, rfl⟩
      go_wp2_with fail
      refine (no_image HD.out).mono ?_
      rintro e w3 ⟨⟨a, rfl⟩, hb3⟩
      have HD3 := Lib.hid (HD.out.newer hb3)
      have HB3 : Hid (Below W2.heap.size W2 w3) := HBR.out.trans (hb3.mono HBR.out.size)
      clear hb3
      go_wp2_with fail
      refine (no_steps HD3.out).mono ?_
      rintro e w' ⟨rfl, rfl⟩
      go_wp2_with fail
      refine (no_size HD3.out).mono ?_
      rintro e w' ⟨rfl, rfl⟩
      go_wp2
      go_roundw
      case rel => exact ⟨2, by omega, rfl, HB3.out⟩
      case measure => simp [intOf]
    · have HBF : Hid (Below w.heap.size w wr) := HB2.out.trans (HBR.out.mono HB2.out.size)
      clear c0 c1
      by_cases hm : 1 ≤ many ∧ many ≤ 1024
      · obtain ⟨k, rfl⟩ := Int.eq_ofNat_of_zero_le (show 0 ≤ many by omega)
        have hk1 : 1 ≤ k := by omega
        have hk2 : k ≤ 1024 := by omega
        have HN := Lib.hid (in_new k hk1 hk2 w wr HBF.out)
        clear hm
        go_wp2_with fail
        refine HN.out.mono ?_
        rintro e w4 ⟨D, rfl, hd⟩
        have HSZ := Lib.hid (in_size hd)
        rw [show (V.newDv k).lines.length = k by simp [V.newDv]] at HSZ
        have HBD := Lib.hid hd.below
        clear hd
        go_wp2_with fail
        refine HSZ.out.mono ?_
        rintro e w' ⟨rfl, rfl⟩
        go_wp2
        go_ret
        exact ⟨ret_bool (by simp), HBD.out⟩
      · have HN := Lib.hid (dev_new_no many hmany hm wr)
        have HBF2 := HBF
        have hm2 : many < 1 ∨ 1024 < many := by omega
        clear hm
        rcases hm2 with hm2 | hm2
        · go_wp2_with fail
          refine HN.out.mono ?_
          rintro e w' ⟨rfl, rfl⟩
          go_wp2
          go_ret
          exact ⟨rfl, HBF2.out⟩
        · go_wp2_with fail
          refine HN.out.mono ?_
          rintro e w' ⟨rfl, rfl⟩
          go_wp2
          go_ret
          exact ⟨rfl, HBF2.out⟩
end Go.Proofs.Ytdhjjiholmcagaa
