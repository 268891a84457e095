
/- The contract of the reference's Drop of layer 6. What was there stays. -/
import Derived.Test.YtbaealdabplmdaaDoorSlG

namespace Go.Proofs.YtbaealdabplmdaaDoor

open Go.RowKit

theorem drop_yes {n : Nat} {a : Int} (h : S.has n a = true) : ∃ k : Nat, a = (k : Int) ∧ k < 16 ∧ S.cls n ≤ 2 ∧ (S.tkn n).testBit k = true ∧ S.tkn n - 2 ^ k < 2 ^ 16 ∧ S.drW n a = (if S.tkn n - 2 ^ k = 0 then 0 else S.cls n) * 65536 + (S.tkn n - 2 ^ k) := by
  obtain ⟨k, rfl, d1, d2, d3, d4, d5, d6, d7, d8, d9, d10, d11⟩ := S.drop_of h
  have hlt := S.tkn_lt n
  refine ⟨k, rfl, d2, by omega, d4, Nat.lt_of_le_of_lt (Nat.sub_le _ _) hlt, ?_⟩
  rcases S.shape (S.drW n (k : Int)) with ⟨h1, _⟩ | ⟨_, h1, _⟩
  · rw [h1] at d9; cases d9
  · rw [h1, d10, d11]
    by_cases e : S.tkn n = 2 ^ k
    · rw [if_pos e, if_pos (by omega)]
    · rw [if_neg e, if_neg (by omega)]
theorem has_is {n : Nat} {a : Int} (h0 : 0 ≤ a) : S.has n a = (S.tkn n).testBit a.toNat := by
  unfold S.has
  rw [decide_eq_true h0, Bool.true_and]
theorem has_far {n : Nat} {a : Int} (h : ¬ (S.rgt n = true ∧ 0 ≤ a ∧ a < 16)) : S.has n a = false := by
  cases hh : S.has n a with
  | false => rfl
  | true =>
    have h1 := S.has_lt hh
    have h2 := S.blk_le (S.cls n)
    exact absurd ⟨S.has_rgt hh, h1.1, by omega⟩ h
theorem rs_drop (n : Nat) (a : Int) (w : World) (_hn : n < 2 ^ 64) :
    Calls Tryd.prog 24 #[.int .u64 n, .int .i64 a] w fun e w' => e = .returned (.tuple #[.int .u64 (S.drW n a : Nat), .bool (S.has n a)]) ∧ Below w.heap.size w w' := by
  have HOF := fun W => Lib.hid (rs_of n W)
  have HNO : Hid (S.has n a = false → S.drW n a = n) := S.drop_not
  have HFAR := Lib.hid (fun h => has_far (n := n) (a := a) h)
  have HIS := Lib.hid (fun h => has_is (n := n) (a := a) h)
  have HYES := Lib.hid (fun h => drop_yes (n := n) (a := a) h)
  generalize S.drW n a = x at *
  generalize S.has n a = yes at *
  generalize S.tkn n = t at *
  generalize S.cls n = k at *
  generalize S.rgt n = rr at *
  go_enter Tryd.func24, Tryd.ntmps24
  go_wp2_with fail
  refine ((HOF _).out).mono ?_
  clear HOF
  rintro e w5 ⟨rfl, hb5⟩
  go_upto_region 2 with (refine wpList_store_row rfl 26 (.tmp 6) (.tmp 11) rfl _ (slabA k t) rfl rfl 26 _ (heap_alloc_new w5 _) (by rw [slabA_size]; exact info_slab) (by rw [slabA_zero, slabA_size, slabA_size]) (slabA_one k t) ?_)
  rw [World.setRow_alloc_new]
  obtain ⟨s1, s2, s3⟩ := slab_new hb5 k t
  generalize w5.alloc (.cells (slabA k t) 26 (0, 0)) = W6 at *
  generalize w5.heap.size = g at *
  have S1 := Lib.hid s1; have S2 := Lib.hid s2; have S3 := Lib.hid s3
  clear s1 s2 s3 hb5
  by_cases hfar : rr = true ∧ 0 ≤ a ∧ a < 16
  · obtain ⟨rfl, h0, h16⟩ := hfar
    obtain ⟨p, rfl⟩ := Int.eq_ofNat_of_zero_le h0
    have hyes : yes = t.testBit p := by have := HIS.out h0; rwa [Int.toNat_natCast] at this
    have hp : p < 16 := by omega
    have hcell := S1.out.bit hp
    cases hbit : t.testBit p with
    | false =>
      rw [hbit] at hcell hyes
      subst hyes
      have HN := Lib.hid (HNO.out rfl)
      clear HNO HFAR HIS HYES hbit
      go_wp2
      go_ret2
      exact ⟨by rw [HN.out]; rfl, S2.out 0⟩
    | true =>
      rw [hbit] at hcell hyes
      subst hyes
      obtain ⟨q, hq, _, hk2, hbit2, hsum, hx⟩ := HYES.out rfl
      obtain rfl : q = p := by omega
      have HX := Lib.hid hx
      have y2 := S1.out.free (1 + q)
      have z1 := S1.out.set (t' := t - 2 ^ q) hp false (fun i _ => bit_clear t q i hbit)
      have z2 : Below w.heap.size w (W6.setCell ⟨g, 1 + q, none⟩ (.bool false)) := (S2.out 0).setCell (by exact S3.out) _
      have Z1 := Lib.hid z1; have Z2 := Lib.hid z2
      have HPC : Hid (S.pc (t - 2 ^ q) 16 = 0 ↔ t - 2 ^ q = 0) := S.pc_none hsum
      have HCT := fun W => Lib.hid (rs_count k (t - 2 ^ q) W)
      have HW := fun W => Lib.hid (rs_word (if t - 2 ^ q = 0 then 0 else k) (t - 2 ^ q) W (by split <;> omega) hsum)
      have hple := S.pc_le (t - 2 ^ q) 16
      clear HNO HFAR HIS HYES hbit hbit2 hsum hx z1 z2 hq
      generalize S.pc (t - 2 ^ q) 16 = pn at *
      generalize t - 2 ^ q = t2 at *
      go_upto_region 5 with fail
      generalize W6.setCell ⟨g, 1 + q, none⟩ (.bool false) = W8 at *
      clear hcell y2 S1 S2
      go_wp2_with (refine wpList_load_row rfl 26 (.tmp 6) rfl g rfl 26 (slabA k t2) (0, 0) _ Z1.out Tryd.underlying26 rfl (by rw [slabA_size]; exact info_slab) ?_)
      refine ((HCT _).out).mono ?_
      rintro e w9 ⟨rfl, hb9⟩
      have HB9 : Hid (Below w.heap.size w w9) := Z2.out.trans (hb9.mono Z2.out.size)
      have R9 : Hid (SlabAt w9 g k t2) := Z1.out.below hb9
      clear hb9 HCT
      by_cases hz : t2 = 0
      · subst hz
        obtain rfl : pn = 0 := HPC.out.2 rfl
        rw [if_pos rfl] at HW HX
        have c9 := R9.out.cls
        have f9 := R9.out.free 0
        have v1 := R9.out.setc 0
        have v2 : Below w.heap.size w (w9.setCell ⟨g, 0, none⟩ (.int .i64 ((0 : Nat) : Int))) := HB9.out.setCell (by exact S3.out) _
        have V1 := Lib.hid v1; have V2 := Lib.hid v2
        clear v1 v2 HPC hple
        go_upto_region 7 with fail
        rw [show (0 : Int) = ((0 : Nat) : Int) from rfl]
        generalize w9.setCell ⟨g, 0, none⟩ (.int .i64 ((0 : Nat) : Int)) = Wb at *
        clear c9 f9 R9 HB9
        go_wp2_with (refine wpList_load_row rfl 26 (.tmp 6) rfl g rfl 26 (slabA 0 0) (0, 0) _ V1.out Tryd.underlying26 rfl (by rw [slabA_size]; exact info_slab) ?_)
        refine ((HW _).out).mono ?_
        rintro e wc ⟨rfl, hbc⟩
        have HBC : Hid (Below w.heap.size w wc) := V2.out.trans (hbc.mono V2.out.size)
        clear hbc
        go_wp2
        go_ret2
        exact ⟨by rw [HX.out]; rfl, HBC.out⟩
      · have hpn : ((pn : Int) == 0) = false := by
          have := mt HPC.out.1 hz
          simpa using this
        rw [if_neg hz] at HW HX
        clear HPC hple hz
        go_wp2_with (refine wpList_load_row rfl 26 (.tmp 6) rfl g rfl 26 (slabA k t2) (0, 0) _ R9.out Tryd.underlying26 rfl (by rw [slabA_size]; exact info_slab) ?_)
        refine ((HW _).out).mono ?_
        rintro e wc ⟨rfl, hbc⟩
        have HBC : Hid (Below w.heap.size w wc) := HB9.out.trans (hbc.mono HB9.out.size)
        clear hbc
        go_wp2
        go_ret2
        exact ⟨by rw [HX.out]; rfl, HBC.out⟩
  · have hy := HFAR.out hfar
    subst hy
    have HN := Lib.hid (HNO.out rfl)
    have hcases : rr = false ∨ rr = true ∧ (a < 0 ∨ 0 ≤ a ∧ 16 ≤ a) := by
      cases rr with
      | false => exact .inl rfl
      | true =>
        refine .inr ⟨rfl, ?_⟩
        have : ¬ (0 ≤ a ∧ a < 16) := fun h => hfar ⟨rfl, h⟩
        omega
    clear HNO HFAR HIS HYES hfar
    rcases hcases with rfl | ⟨rfl, ha | ⟨ha, ha2⟩⟩
    all_goals (go_wp2; go_ret2; exact ⟨by rw [HN.out]; rfl, S2.out 0⟩)
end Go.Proofs.YtbaealdabplmdaaDoor
