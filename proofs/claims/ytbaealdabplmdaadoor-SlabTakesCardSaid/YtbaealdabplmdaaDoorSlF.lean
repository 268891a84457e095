
/- The contracts of the reference's List and Next of layer 6. What was there stays. -/
import Derived.Test.YtbaealdabplmdaaDoorSlE

import Derived.Deep.WholeRow

namespace Go.Proofs.YtbaealdabplmdaaDoor

open Go.RowKit

/-- A slab in new memory, behind a call. -/
theorem slab_new {w w5 : World} (hb : Below w.heap.size w w5) (c t : Nat) : SlabAt (w5.alloc (.cells (slabA c t) 26 (0, 0))) w5.heap.size c t ∧ (∀ m, Below w.heap.size w ((w5.alloc (.cells (slabA c t) 26 (0, 0))).drewN m)) ∧ w.heap.size ≤ w5.heap.size :=
  ⟨SlabAt.new w5 c t, fun m => below_drewN' (hb.alloc hb.size _) m, hb.size⟩
theorem rs_list (n : Nat) (w : World) :
    Calls Tryd.prog 11 #[.int .u64 n] w (LsPost w (S.ls (S.tkn n) 16)) := by
  obtain ⟨i0, hi, hz0, hz1, hz2⟩ := info_parts info_i64
  have HOF := fun W => Lib.hid (rs_of n W)
  generalize S.tkn n = t at *
  generalize S.cls n = c at *
  generalize S.rgt n = rr at *
  go_enter Tryd.func11, Tryd.ntmps11
  go_wp2_with fail
  refine ((HOF _).out).mono ?_
  clear HOF
  rintro e w5 ⟨rfl, hb5⟩
  go_upto_region 2 with (refine wpList_store_row rfl 26 (.tmp 3) (.tmp 10) rfl _ (slabA c t) rfl rfl 26 _ (heap_alloc_new w5 _) (by rw [slabA_size]; exact info_slab) (by rw [slabA_zero, slabA_size, slabA_size]) (slabA_one c t) ?_)
  rw [World.setRow_alloc_new]
  obtain ⟨s1, s2, _⟩ := slab_new hb5 c t
  generalize w5.alloc (.cells (slabA c t) 26 (0, 0)) = W6 at *
  generalize w5.heap.size = g at *
  have S1 := Lib.hid s1; have S2 := Lib.hid s2
  clear s1 s2 hb5
  go_wp2_with fail
  go_loopw [5, 6] (fun l k wr => ∃ j : Nat, j ≤ 16 ∧ k = .int .i64 j ∧ wr.ownsRow W6.heap.size 3 1 l (S.ls t j).length ((S.ls t j).map (Value.int .i64)) ∧ Below W6.heap.size W6 wr) (fun _ k _ => 16 - (intOf k).toNat)
  case atStart => exact ⟨0, by omega, rfl, owns_nil, Below.refl _ _⟩
  case round =>
    obtain ⟨j, hj, rfl, hown, hbel⟩ := hrel
    have HO := Lib.hid hown
    have HBE := Lib.hid hbel
    obtain ⟨a0, c0, rfl, _, _⟩ := owns_form hown
    have hlen : (S.ls t j).length ≤ 16 := by rw [S.ls_length]; exact Nat.le_trans (S.pc_le t j) (by omega)
    clear hown hbel
    by_cases hlt : j < 16
    · have hcell : wr.cell? ⟨g, 1 + j, none⟩ = some (.bool (t.testBit j)) := (S1.out.below HBE.out).bit hlt
      have HSU : Hid (S.ls t (j + 1) = S.ls t j ++ (if t.testBit j then [(j : Int)] else [])) := rfl
      cases hbit : t.testBit j with
      | false =>
        rw [hbit] at hcell
        have HS2 : Hid (S.ls t (j + 1) = S.ls t j) := by show _ = _; rw [HSU.out, hbit]; simp
        clear hbit
        generalize S.ls t j = L at *
        go_wp2
        go_roundw
        case rel => exact ⟨j + 1, by omega, by go_num, by rw [HS2.out]; exact owns_below HO.out (below_drewN' (Below.refl _ _) 0), HBE.out⟩
        case measure => simp [intOf]; omega
      | true =>
        rw [hbit] at hcell
        have HS2 : Hid (S.ls t (j + 1) = S.ls t j ++ [(j : Int)]) := by show _ = _; rw [HSU.out, hbit]; simp
        clear hbit
        generalize S.ls t j = L at *
        have HO3 : Hid (∀ o, (wr.alloc o).ownsRow W6.heap.size 3 1 (.slice a0 L.length c0) L.length (L.map (Value.int .i64))) := fun o => owns_below HO.out ((Below.refl _ _).alloc (Nat.le_refl _) o)
        have HB3 : Hid (∀ o, Below W6.heap.size W6 (wr.alloc o)) := fun o => HBE.out.alloc HBE.out.size o
        have HI1 : Hid (∀ t, IsInts .i64 (wr.alloc (.cells #[.int .i64 (j : Int)] t (0, 0))) (.slice (some ⟨wr.heap.size, 0, none⟩) 1 1) [(j : Int)]) := fun t => isInts_new .i64 wr [(j : Int)] t (0, 0) (by intro z hz; obtain rfl := List.mem_singleton.1 hz; exact wf_i64 (by omega) (by omega)) (by unfold maxLen; simp)
        go_wp2_with (at_builtin; refine wpList_append_ints rfl (.tmp 20) (.tmp 22) 29 rfl .i64 W6.heap.size 3 i0 _ 8 Tryd.underlying29 hi hz0 hz1 hz2 rfl _ _ _ rfl (HO3.out _) _ 1 1 _ rfl (HI1.out _) (by unfold maxLen; omega) (by omega) (HB3.out _).size ?_)
        intro v' w7 hown' hgr
        have HO5 : Hid (w7.ownsRow W6.heap.size 3 1 v' (S.ls t (j + 1)).length ((S.ls t (j + 1)).map (Value.int .i64))) := by
          show World.ownsRow _ _ _ _ _ _ _
          rw [HS2.out]
          simpa using hown'
        have HB5 : Hid (Below W6.heap.size W6 w7) := (HB3.out _).grown hgr (HB3.out _).size (fun k hk => owns_block HO.out k hk)
        clear hown' hgr
        go_wp2
        go_roundw
        case rel => exact ⟨j + 1, by omega, by go_num, HO5.out, HB5.out⟩
        case measure => simp [intOf]; omega
    · obtain rfl : j = 16 := by omega
      have HI := Lib.hid (IsInts.of_own HO.out (ls_wf t 16 (Nat.le_refl _)))
      have HB9 : Hid (Below w.heap.size w wr) := (S2.out 0).trans (HBE.out.mono (S2.out 0).size)
      go_wp2
      go_ret
      exact ⟨_, _, rfl, HI.out, HB9.out⟩

/-- What Next asks: the lowest one that is not taken. -/
theorem nxt_code {n : Nat} {c : Int} (hn : n < 2 ^ 64) (hr : S.rgt n = true) (hc : S.cls n = 0 ∨ (S.cls n : Int) = c) :
    (S.nxt n c = -1 ∧ ∀ i : Nat, i < S.blk c → (S.tkn n).testBit i = true) ∨ ∃ k : Nat, S.nxt n c = (k : Int) ∧ k < S.blk c ∧ (S.tkn n).testBit k = false ∧ ∀ i : Nat, i < k → (S.tkn n).testBit i = true := by
  by_cases h12 : c = 1 ∨ c = 2
  · refine S.nxt_of hn (decide_eq_true ⟨h12, ?_⟩)
    rcases hc with hc | hc
    · left
      rcases S.shape n with ⟨h, _⟩ | ⟨_, h1, h2⟩
      · rw [h] at hr; cases hr
      · omega
    · exact .inr hc
  · left
    have e0 : S.blk c = 0 := by unfold S.blk; rw [if_neg (by omega), if_neg (by omega)]
    exact ⟨S.nxt_not (decide_eq_false (fun h => h12 h.1)), fun i hi => by omega⟩
theorem nxt_stop {n : Nat} {c : Int} (h : ¬ (S.rgt n = true ∧ (S.cls n = 0 ∨ (S.cls n : Int) = c))) : S.nxt n c = -1 := by
  apply S.nxt_not
  cases hs : S.sui n c with
  | false => rfl
  | true =>
    obtain ⟨_, h2⟩ := S.sui_blk hs
    refine absurd ⟨S.sui_rgt hs, ?_⟩ h
    rcases h2 with rfl | h2
    · exact .inl rfl
    · exact .inr h2
theorem rs_next (n : Nat) (c : Int) (w : World) (hn : n < 2 ^ 64) :
    Calls Tryd.prog 16 #[.int .u64 n, .int .i64 c] w fun e w' => e = .returned (.int .i64 (S.nxt n c)) ∧ Below w.heap.size w w' := by
  have HOF := fun W => Lib.hid (rs_of n W)
  have HST := Lib.hid (fun h => nxt_stop (n := n) (c := c) h)
  have HGO := Lib.hid (fun h1 h2 => nxt_code (n := n) (c := c) hn h1 h2)
  have HB : Hid (∀ W : World, Calls Tryd.prog 18 #[.int .i64 c] W fun e w' => e = .returned (.int .i64 (S.blk c : Nat)) ∧ ∃ m, w' = W.drewN m) := fun W => rs_blocks _ W
  have hb16 := S.blk_le c
  clear hn
  generalize S.nxt n c = nx at *
  generalize S.tkn n = t at *
  generalize S.cls n = k at *
  generalize S.rgt n = rr at *
  generalize S.blk c = bk at *
  go_enter Tryd.func16, Tryd.ntmps16
  go_wp2_with fail
  refine ((HOF _).out).mono ?_
  clear HOF
  rintro e w5 ⟨rfl, hb5⟩
  go_upto_region 2 with (refine wpList_store_row rfl 26 (.tmp 5) (.tmp 11) rfl _ (slabA k t) rfl rfl 26 _ (heap_alloc_new w5 _) (by rw [slabA_size]; exact info_slab) (by rw [slabA_zero, slabA_size, slabA_size]) (slabA_one k t) ?_)
  rw [World.setRow_alloc_new]
  obtain ⟨s1, s2, _⟩ := slab_new hb5 k t
  generalize w5.alloc (.cells (slabA k t) 26 (0, 0)) = W6 at *
  generalize w5.heap.size = g at *
  have S1 := Lib.hid s1; have S2 := Lib.hid s2
  clear s1 s2 hb5
  have hc0 := S1.out.cls
  cases rr with
  | false =>
    have HNX := Lib.hid (HST.out (fun h => by cases h.1))
    clear HST HGO
    go_wp2
    go_ret
    exact ⟨by rw [HNX.out]; rfl, S2.out 0⟩
  | true =>
    by_cases hk : k = 0 ∨ (k : Int) = c
    · have HG := Lib.hid (HGO.out rfl hk)
      clear HST HGO
      have hk2 : (((k : Int) != 0) = false) ∨ (((k : Int) != 0) = true ∧ ((k : Int) != c) = false) := by
        by_cases h0 : k = 0
        · left; subst h0; rfl
        · right
          refine ⟨by simp; omega, ?_⟩
          have : (k : Int) = c := by omega
          simp [this]
      clear hk
      have hcell : ∀ (j m : Nat), j < 16 → (W6.drewN m).cell? ⟨g, 1 + j, none⟩ = some (.bool (t.testBit j)) := fun j m hj => SlabAt.bit (w := W6.drewN m) (by exact S1.out) hj
      have HCELL := Lib.hid hcell
      clear hcell
      rcases hk2 with hk2 | ⟨hk2, hk3⟩
      all_goals
        go_upto_region 4 with fail
        go_wp2_with fail
        go_loopw [4, 7] (fun r i wr => ∃ (j : Nat) (m : Nat), j ≤ bk ∧ i = .int .i64 j ∧ r = .int .i64 0 ∧ wr = W6.drewN m ∧ ∀ q : Nat, q < j → t.testBit q = true) (fun _ i _ => bk - (intOf i).toNat)
        case atStart => exact ⟨0, 0, by omega, rfl, rfl, rfl, fun q hq => by omega⟩
        case round =>
          obtain ⟨j, m, hj, rfl, rfl, rfl, hall⟩ := hrel
          have HALL := Lib.hid hall
          clear hall
          by_cases hlt : j < bk
          · have hcell := fun m => HCELL.out j m (by omega)
            cases hbit : t.testBit j with
            | false =>
              have HNX : Hid (nx = (j : Int)) := by
                show _ = _
                rcases HG.out with ⟨_, h⟩ | ⟨q, h1, h2, h3, h4⟩
                · rw [h j hlt] at hbit; cases hbit
                · rw [h1]
                  have : ¬ q < j := fun h => by rw [HALL.out q h] at h3; cases h3
                  have : ¬ j < q := fun h => by rw [h4 j h] at hbit; cases hbit
                  omega
              rw [hbit] at hcell
              clear hbit
              go_wp2_with fail
              refine (HB.out _).mono ?_
              rintro e w' ⟨rfl, m2, rfl⟩
              go_wp2
              go_ret
              exact ⟨by rw [HNX.out]; rfl, by exact S2.out _⟩
            | true =>
              have HBIT := Lib.hid hbit
              rw [hbit] at hcell
              clear hbit
              go_wp2_with fail
              refine (HB.out _).mono ?_
              rintro e w' ⟨rfl, m2, rfl⟩
              go_wp2
              go_roundw
              case rel => exact ⟨j + 1, _, by omega, by go_num, rfl, rfl, fun q hq => by
                by_cases e : q = j
                · rw [e]; exact HBIT.out
                · exact HALL.out q (by omega)⟩
              case measure => simp [intOf]; omega
          · obtain rfl : j = bk := by omega
            have HNX : Hid (nx = -1) := by
              show _ = _
              rcases HG.out with ⟨h, _⟩ | ⟨q, h1, h2, h3, h4⟩
              · exact h
              · rw [HALL.out q h2] at h3; cases h3
            go_wp2_with fail
            refine (HB.out _).mono ?_
            rintro e w' ⟨rfl, m2, rfl⟩
            go_wp2
            go_ret
            exact ⟨by rw [HNX.out]; rfl, by exact S2.out _⟩
    · have HNX := Lib.hid (HST.out (fun h => hk h.2))
      have e1 : ((k : Int) != 0) = true := by simp; omega
      have e2 : ((k : Int) != c) = true := by simp; omega
      clear HST HGO hk
      go_wp2
      go_ret
      exact ⟨by rw [HNX.out]; rfl, S2.out 0⟩
end Go.Proofs.YtbaealdabplmdaaDoor
