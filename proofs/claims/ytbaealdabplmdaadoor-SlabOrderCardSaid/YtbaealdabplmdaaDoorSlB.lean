
/- The contract of slab.List: the blocks that are taken, in new memory. No condition but the word's range. -/
import Derived.Test.YtbaealdabplmdaaDoorSlA

import Derived.Test.YtbaealdabplmdaaDoorApp

import Derived.Handy

namespace Go.Proofs.YtbaealdabplmdaaDoor

open Go.RowKit

theorem info_i64 : (Tryd.prog.info? 3).map (fun i => (i.zero, i.size, i.bytes)) = some (some (.int .i64 0), 1, 8) := by kernel_rfl
/-- A new block of integers reads as its numbers. -/
theorem isInts_new (k : IntKind) (w : World) (zs : List Int) (t : TypeId) (fr : Nat × Nat) (hz : ∀ z ∈ zs, (Lit.int k z).wf = true) (hm : zs.length ≤ maxLen) :
    IsInts k (w.alloc (.cells (zs.map (Value.int k)).toArray t fr)) (.slice (some ⟨w.heap.size, 0, none⟩) zs.length zs.length) zs := by
  refine ⟨_, _, rfl, Nat.le_refl _, hm, .inr ⟨w.heap.size, 0, rfl, fun i hi => ?_⟩, hz⟩
  have hg := heap_alloc_new w (.cells (zs.map (Value.int k)).toArray t fr)
  rw [Nat.zero_add]
  unfold World.cell?
  simp only [hg]
  simp [hi]
theorem wf_i64 {z : Int} (h0 : 0 ≤ z) (h1 : z < 1000) : (Lit.int .i64 z).wf = true := by
  simp [Lit.wf, IntKind.min, IntKind.max, IntKind.signed, IntKind.bits]
  omega
theorem ls_wf (t k : Nat) (hk : k ≤ 16) : ∀ z ∈ S.ls t k, (Lit.int .i64 z).wf = true := fun z hz => by
  have := S.ls_range t k z hz
  exact wf_i64 this.1 (by omega)
/-- What a call leaves that hands back a list of numbers. -/
def LsPost (w : World) (l : List Int) (e : Ending) (w' : World) : Prop := ∃ a cap, e = .returned (.slice a l.length cap) ∧ IsInts .i64 w' (.slice a l.length cap) l ∧ Below w.heap.size w w'
theorem IsInts.form {k : IntKind} {w : World} {v : Value} {l : List Int} (h : IsInts k w v l) : ∃ a cap, v = .slice a l.length cap ∧ l.length ≤ cap ∧ cap ≤ maxLen := by
  obtain ⟨a, cap, h1, h2, h3, _⟩ := h
  exact ⟨a, cap, h1, h2, h3⟩
theorem sl_list (n : Nat) (w : World) (hn : n < 2 ^ 64) :
    Calls Tryd.prog 10 #[.int .u64 n] w (LsPost w (S.ls (S.tkn n) 16)) := by
  obtain ⟨i0, hi, hz0, hz1, hz2⟩ := info_parts info_i64
  have HC : Hid (∀ W : World, Calls Tryd.prog 13 #[.int .u64 n] W fun e w' => e = .returned (.int .i64 (S.cls n : Nat)) ∧ ∃ m, w' = W.drewN m) := fun W => sl_class n W hn
  have HH : Hid (∀ (k : Nat) (W : World), Calls Tryd.prog 14 #[.int .u64 n, .int .i64 (k : Int)] W fun e w' => e = .returned (.bool ((S.tkn n).testBit k)) ∧ ∃ m, w' = W.drewN m) := by
    intro k W
    have := sl_has n (k : Int) W hn
    unfold S.has at this
    rwa [decide_eq_true (by omega), Bool.true_and, Int.toNat_natCast] at this
  have HE := Lib.hid (S.ls_blk n)
  have hb16 := S.blk_le (S.cls n)
  have HB : Hid (∀ W : World, Calls Tryd.prog 17 #[.int .i64 (S.cls n : Nat)] W fun e w' => e = .returned (.int .i64 (S.blk (S.cls n) : Nat)) ∧ ∃ m, w' = W.drewN m) := fun W => sl_blocks _ W
  generalize S.blk (S.cls n) = b at *
  generalize S.cls n = c at *
  generalize S.tkn n = t at *
  clear hn
  go_enter Tryd.func10, Tryd.ntmps10
  go_wp2_with fail
  refine (HC.out _).mono ?_
  rintro e w' ⟨rfl, m1, rfl⟩
  go_wp2_with fail
  refine (HB.out _).mono ?_
  rintro e w' ⟨rfl, m2, rfl⟩
  go_wp2_with fail
  go_loopw [3, 4, 8] (fun l _ k wr => ∃ j : Nat, j ≤ b ∧ k = .int .i64 j ∧ wr.ownsRow w.heap.size 3 1 l (S.ls t j).length ((S.ls t j).map (Value.int .i64)) ∧ Below w.heap.size w wr) (fun _ _ k _ => b - (intOf k).toNat)
  case atStart => exact ⟨0, by omega, rfl, owns_nil, by exact below_drewN' (Below.refl _ _) _⟩
  case round =>
    obtain ⟨j, hj, rfl, hown, hbel⟩ := hrel
    have HO := Lib.hid hown
    have HBE := Lib.hid hbel
    obtain ⟨a0, c0, rfl, _, _⟩ := owns_form hown
    have hlen : (S.ls t j).length ≤ 16 := by rw [S.ls_length]; exact Nat.le_trans (S.pc_le t j) (by omega)
    clear hown hbel
    by_cases hlt : j < b
    · have HSU : Hid (S.ls t (j + 1) = S.ls t j ++ (if t.testBit j then [(j : Int)] else [])) := rfl
      cases hbit : t.testBit j with
      | false =>
        have HHJ := fun W => HH.out j W
        rw [hbit] at HHJ
        have HHK := Lib.hid HHJ
        have HS2 : Hid (S.ls t (j + 1) = S.ls t j) := by show _ = _; rw [HSU.out, hbit]; simp
        clear HHJ hbit
        generalize S.ls t j = L at *
        go_wp2_with fail
        refine (HHK.out _).mono ?_
        rintro e w' ⟨rfl, m, rfl⟩
        go_wp2
        go_roundw
        case rel => exact ⟨j + 1, by omega, by go_num, by rw [HS2.out]; exact owns_below HO.out (below_drewN' (Below.refl _ _) _), below_drewN' HBE.out _⟩
        case measure => simp [intOf]; omega
      | true =>
        have HHJ := fun W => HH.out j W
        rw [hbit] at HHJ
        have HHK := Lib.hid HHJ
        have HS2 : Hid (S.ls t (j + 1) = S.ls t j ++ [(j : Int)]) := by show _ = _; rw [HSU.out, hbit]; simp
        clear HHJ hbit
        generalize S.ls t j = L at *
        have HO3 : Hid (∀ (m : Nat) o, ((wr.drewN m).alloc o).ownsRow w.heap.size 3 1 (.slice a0 L.length c0) L.length (L.map (Value.int .i64))) := fun m o => owns_below HO.out ((below_drewN' (Below.refl _ _) m).alloc (Nat.le_refl _) o)
        have HB3 : Hid (∀ (m : Nat) o, Below w.heap.size w ((wr.drewN m).alloc o)) := fun m o => (below_drewN' HBE.out m).alloc HBE.out.size o
        have HI1 : Hid (∀ (W : World) t, IsInts .i64 (W.alloc (.cells #[.int .i64 (j : Int)] t (0, 0))) (.slice (some ⟨W.heap.size, 0, none⟩) 1 1) [(j : Int)]) := fun W t => isInts_new .i64 W [(j : Int)] t (0, 0) (by intro z hz; obtain rfl := List.mem_singleton.1 hz; exact wf_i64 (by omega) (by omega)) (by unfold maxLen; simp)
        go_wp2_with fail
        refine (HHK.out _).mono ?_
        rintro e w' ⟨rfl, m, rfl⟩
        go_wp2_with (at_builtin; refine wpList_append_ints rfl (.tmp 14) (.tmp 16) 29 rfl .i64 w.heap.size 3 i0 _ 8 Tryd.underlying29 hi hz0 hz1 hz2 rfl _ _ _ rfl (HO3.out _ _) _ 1 1 _ rfl (HI1.out _ _) (by unfold maxLen; omega) (by omega) (HB3.out _ _).size ?_)
        intro v' w5 hown' hgr
        have HO5 : Hid (w5.ownsRow w.heap.size 3 1 v' (S.ls t (j + 1)).length ((S.ls t (j + 1)).map (Value.int .i64))) := by
          show World.ownsRow _ _ _ _ _ _ _
          rw [HS2.out]
          simpa using hown'
        have HB5 : Hid (Below w.heap.size w w5) := (HB3.out _ _).grown hgr (HB3.out _ _).size (fun k hk => owns_block HO.out k hk)
        clear hown' hgr
        go_wp2
        go_roundw
        case rel => exact ⟨j + 1, by omega, by go_num, HO5.out, HB5.out⟩
        case measure => simp [intOf]; omega
    · obtain rfl : j = b := by omega
      rw [HE.out] at HO
      have HI := Lib.hid (IsInts.of_own HO.out (ls_wf t 16 (Nat.le_refl _)))
      have HL2 := HE.out
      rw [HL2]
      go_wp2
      go_ret
      exact ⟨_, _, rfl, HI.out, HBE.out⟩
end Go.Proofs.YtbaealdabplmdaaDoor
