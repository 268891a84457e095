
/- The contract of the reference's Of of layer 6. What was there stays. -/
import Derived.Test.YtaceogpdjbikiaaGreatDoorSlD
import Derived.Deep.DeepCutAuto
import Derived.Deep.RegionHeldLaw
namespace Go.Proofs.YtaceogpdjbikiaaGreatDoor

open Go.RowKit

/-! What Of asks, as numbers: n = c * 65536 + t. -/
theorem of_split {n : Nat} (hr : S.rgt n = true) : S.cls n = n / 65536 ∧ S.tkn n = n % 65536 := by simp [S.cls, S.tkn, hr]
theorem of_refuse {n j : Nat} (h1 : (n % 65536).testBit j = true) (h2 : S.blk ((n / 65536 : Nat) : Int) ≤ j) : S.rgt n = false := by
  cases hr : S.rgt n with
  | false => rfl
  | true =>
    obtain ⟨e1, e2⟩ := of_split hr
    rw [← e1] at h2
    have := S.tkn_high (n := n) h2
    rw [e2, h1] at this
    cases this
theorem of_bad {n : Nat} (h : ¬ (n % 65536 = 0 ↔ n / 65536 = 0)) : S.rgt n = false := by
  cases hr : S.rgt n with
  | false => rfl
  | true =>
    obtain ⟨e1, e2⟩ := of_split hr
    rcases S.shape n with ⟨h1, _⟩ | ⟨_, _, h2⟩
    · rw [h1] at hr; cases hr
    · rw [e1, e2] at h2
      omega
theorem of_good {n : Nat} (h3 : n < 196608) (h : n % 65536 = 0 ↔ n / 65536 = 0) (hb : ∀ j, j < 16 → (n % 65536).testBit j = true → j < S.blk ((n / 65536 : Nat) : Int)) : S.rgt n = true := by
  unfold S.rgt
  rw [decide_eq_true_eq]
  have hc : n / 65536 = 0 ∨ n / 65536 = 1 ∨ n / 65536 = 2 := by omega
  rcases hc with hc | hc | hc
  · omega
  · omega
  · have ht : n % 65536 < 2 ^ 4 := by
      apply Nat.lt_pow_two_of_testBit
      intro i hi
      by_cases h16 : i < 16
      · cases hbit : (n % 65536).testBit i with
        | false => rfl
        | true =>
          have := hb i h16 hbit
          rw [hc, show S.blk ((2 : Nat) : Int) = 4 from rfl] at this
          omega
      · exact Nat.testBit_lt_two_pow (Nat.lt_of_lt_of_le (m := 2 ^ 16) (Nat.mod_lt _ (by decide)) (Nat.pow_le_pow_right (by decide) (by omega)))
    omega
theorem mod_bits (t i j : Nat) (_hj : j < 16) : (t % 2 ^ (i + 1)).testBit j = if j = i then t.testBit i else (t % 2 ^ i).testBit j := by
  rw [Nat.testBit_mod_two_pow, Nat.testBit_mod_two_pow]
  by_cases e : j = i
  · subst e; simp
  · rw [if_neg e]
    by_cases h : j < i
    · simp [h, show j < i + 1 by omega]
    · simp [h, show ¬ j < i + 1 by omega]
theorem half_bit (t i : Nat) : (((t / 2 ^ i : Nat) : Int) % 2 == 1) = t.testBit i := by
  rw [Bool.eq_iff_iff, ← M.bit_iff, beq_iff_eq]
  omega
/-- What a call leaves that hands back a struct in a block of its own, and one more. -/
theorem results_cell_tmp {P : Program} {fn : Func} {p q : Tmp} {ty : TypeId} (h : fn.results = #[.cell p ty, .tmp q]) (tmps : Array Value) (w : World) (g : Nat) (t : TypeId) (cs : Array Value) (fr : Nat × Nat) (d : TypeDesc)
    (hp : tmps.getD p undef = .pointer (some ⟨g, 0, none⟩)) (hg : w.heap[g]? = some (.cells cs t fr))
    (hu : P.underlying ty = some d) (hd : (match d with | .struct _ | .array _ _ => true | _ => false) = true) (hi : (P.info? ty).map (·.size) = some cs.size) :
    (results fn tmps).run P w = .ok (.tuple #[.agg cs, tmps.getD q undef]) w := by
  have hp' : tmps[p]?.getD undef = .pointer (some ⟨g, 0, none⟩) := by simpa using hp
  simp [results, h, hp', asAddr, run_loadVar_row w g t ty cs fr d hg hu hd hi]
theorem two_slabs (w : World) : SlabAt ((w.alloc (.cells (slabA 0 0) 65 (0, 0))).alloc (.cells (slabA 0 0) 65 (0, 0))) w.heap.size 0 0 ∧
    SlabAt ((w.alloc (.cells (slabA 0 0) 65 (0, 0))).alloc (.cells (slabA 0 0) 65 (0, 0))) (w.heap.size + 1) 0 0 ∧
    ∀ m, Below w.heap.size w (((w.alloc (.cells (slabA 0 0) 65 (0, 0))).alloc (.cells (slabA 0 0) 65 (0, 0))).drewN m) := by
  refine ⟨heap_alloc2_old w _ _, heap_alloc2_new w _ _, fun m => below_drewN' (((Below.refl _ _).alloc (Nat.le_refl _) _).alloc (by simp) _) m⟩
theorem zero_one : (#[.int .i64 0, .bool false, .bool false, .bool false, .bool false, .bool false, .bool false, .bool false, .bool false, .bool false, .bool false, .bool false, .bool false, .bool false, .bool false, .bool false, .bool false] : Array Value).all (·.oneCell') = true := by rw [slabA_zero]; exact slabA_one 0 0
theorem rs_of_high (n : Nat) (w : World) (h3 : 196608 ≤ n) :
    Calls Tryz.prog 26 #[.int .u64 n] w fun e w' => e = .returned (.tuple #[.agg (slabA 0 0), .bool false]) ∧ Below w.heap.size w w' := by
  have h3' : (196608 : Int) ≤ (n : Int) := by omega
  clear h3
  go_enter Tryz.func26, Tryz.ntmps26
  go_upto_region 2 with fail
  rw [slabA_zero]
  obtain ⟨s1, s2, s3⟩ := two_slabs w
  generalize (w.alloc (.cells (slabA 0 0) 65 (0, 0))).alloc (.cells (slabA 0 0) 65 (0, 0)) = W2 at *
  have S1 := Lib.hid s1; have S2 := Lib.hid s2; have S3 := Lib.hid s3
  clear s1 s2 s3
  go_wp2_with (first
    | (refine wpList_load_row rfl 65 (.tmp 4) rfl (w.heap.size + 1) rfl 65 (slabA 0 0) (0, 0) _ S2.out Tryz.underlying65 rfl (by rw [slabA_size]; exact info_slab) ?_)
    | (refine wpList_store_row rfl 65 (.tmp 2) (.tmp 9) rfl w.heap.size (slabA 0 0) rfl rfl 65 (slabA 0 0) S1.out (by rw [slabA_size]; exact info_slab) rfl (slabA_one 0 0) ?_))
  (try simp only [Exit.inBlock, Exit.then])
  refine bodyPost_ret (results_cell_tmp rfl _ _ w.heap.size 65 (slabA 0 0) (0, 0) _ rfl (S1.out.row 0 0) Tryz.underlying65 rfl (by rw [slabA_size]; exact info_slab)) rfl ?_
  exact ⟨rfl, Below.setRow6 (S3.out 0) (Nat.le_refl _) _⟩
/-- The seventeen cells, each by a letter. -/
theorem slab_cells (b c t : Nat) : ∃ u0 u1 u2 u3 u4 u5 u6 u7 u8 u9 u10 u11 u12 u13 u14 u15 : Value, (#[.int .i64 (c : Int), u0, u1, u2, u3, u4, u5, u6, u7, u8, u9, u10, u11, u12, u13, u14, u15] : Array Value) = slabA c t ∧ ∀ W : World, SlabAt W b c t → W.cell? ⟨b, 0, none⟩ = some (.int .i64 (c : Int)) ∧ W.cell? ⟨b, 1, none⟩ = some u0 ∧ W.cell? ⟨b, 2, none⟩ = some u1 ∧ W.cell? ⟨b, 3, none⟩ = some u2 ∧ W.cell? ⟨b, 4, none⟩ = some u3 ∧ W.cell? ⟨b, 5, none⟩ = some u4 ∧ W.cell? ⟨b, 6, none⟩ = some u5 ∧ W.cell? ⟨b, 7, none⟩ = some u6 ∧ W.cell? ⟨b, 8, none⟩ = some u7 ∧ W.cell? ⟨b, 9, none⟩ = some u8 ∧ W.cell? ⟨b, 10, none⟩ = some u9 ∧ W.cell? ⟨b, 11, none⟩ = some u10 ∧ W.cell? ⟨b, 12, none⟩ = some u11 ∧ W.cell? ⟨b, 13, none⟩ = some u12 ∧ W.cell? ⟨b, 14, none⟩ = some u13 ∧ W.cell? ⟨b, 15, none⟩ = some u14 ∧ W.cell? ⟨b, 16, none⟩ = some u15 := by
  refine ⟨.bool (t.testBit 0), .bool (t.testBit 1), .bool (t.testBit 2), .bool (t.testBit 3), .bool (t.testBit 4), .bool (t.testBit 5), .bool (t.testBit 6), .bool (t.testBit 7), .bool (t.testBit 8), .bool (t.testBit 9), .bool (t.testBit 10), .bool (t.testBit 11), .bool (t.testBit 12), .bool (t.testBit 13), .bool (t.testBit 14), .bool (t.testBit 15), by simp only [slabA, slabL, List.range, List.range.loop, List.map], fun W h => ⟨h.cls, h.bit (i := 0) (by decide), h.bit (i := 1) (by decide), h.bit (i := 2) (by decide), h.bit (i := 3) (by decide), h.bit (i := 4) (by decide), h.bit (i := 5) (by decide), h.bit (i := 6) (by decide), h.bit (i := 7) (by decide), h.bit (i := 8) (by decide), h.bit (i := 9) (by decide), h.bit (i := 10) (by decide), h.bit (i := 11) (by decide), h.bit (i := 12) (by decide), h.bit (i := 13) (by decide), h.bit (i := 14) (by decide), h.bit (i := 15) (by decide)⟩⟩
set_option maxHeartbeats 2000000 in
theorem rs_of_low (n : Nat) (w : World) (h3 : n < 196608) :
    Calls Tryz.prog 26 #[.int .u64 n] w fun e w' => e = .returned (.tuple #[.agg (slabA (S.cls n) (S.tkn n)), .bool (S.rgt n)]) ∧ Below w.heap.size w w' := by
  have HRF : Hid (∀ j, (n % 65536).testBit j = true → S.blk ((n / 65536 : Nat) : Int) ≤ j → S.rgt n = false) := fun j => of_refuse
  have HBD : Hid (¬ (n % 65536 = 0 ↔ n / 65536 = 0) → S.rgt n = false) := of_bad
  have HGD : Hid ((n % 65536 = 0 ↔ n / 65536 = 0) → (∀ j, j < 16 → (n % 65536).testBit j = true → j < S.blk ((n / 65536 : Nat) : Int)) → S.rgt n = true ∧ S.cls n = n / 65536 ∧ S.tkn n = n % 65536) := fun h1 h2 => by
    have hr := of_good h3 h1 h2
    exact ⟨hr, of_split hr⟩
  have HNO : Hid (S.rgt n = false → S.cls n = 0 ∧ S.tkn n = 0) := fun h => by
    rcases S.shape n with ⟨_, _, h1, h2⟩ | ⟨h1, _⟩
    · exact ⟨h1, h2⟩
    · rw [h1] at h; cases h
  have hlt : (n : Int) < 196608 := by omega
  obtain ⟨c, hc⟩ : ∃ c, c = n / 65536 := ⟨_, rfl⟩
  obtain ⟨t, ht⟩ : ∃ t, t = n % 65536 := ⟨_, rfl⟩
  rw [← hc, ← ht] at HBD HGD
  simp only [← hc, ← ht] at HRF
  have hq1 : (n : Int) / 65536 = (c : Int) := by omega
  have hq2 : (n : Int) % 65536 = (t : Int) := by omega
  have hc2 : c ≤ 2 := by omega
  have ht2 : t < 65536 := by omega
  have HT2 : Unit → t < 65536 := fun _ => ht2
  have hd : decide ((196608 : Int) ≤ (n : Int)) = false := decide_eq_false (by omega)
  clear hc ht h3 ht2 hlt
  go_enter Tryz.func26, Tryz.ntmps26
  go_upto_region 2 with fail
  rw [slabA_zero]
  obtain ⟨s1, s2, s3⟩ := two_slabs w
  generalize (w.alloc (.cells (slabA 0 0) 65 (0, 0))).alloc (.cells (slabA 0 0) 65 (0, 0)) = W2 at *
  have S1 := Lib.hid s1; have S2 := Lib.hid s2; have S3 := Lib.hid s3
  clear s1 s2 s3
  have c0 := S2.out.cls
  have f0 := S2.out.free 0
  go_wp2_with fail
  have hw3 := S2.out.setc c
  have hv3 := S1.out.other (p := ⟨w.heap.size + 1, 0, none⟩) (by simp) (.int .i64 (c : Int))
  have hb3 : Below w.heap.size w (W2.setCell ⟨w.heap.size + 1, 0, none⟩ (.int .i64 (c : Int))) := (S3.out 0).setCell (by simp) _
  clear c0 f0 S1 S2 S3
  generalize W2.setCell ⟨w.heap.size + 1, 0, none⟩ (.int .i64 (c : Int)) = W3 at *
  have S1 := Lib.hid hv3; have S2 := Lib.hid hw3; have S3 := Lib.hid hb3
  clear hv3 hw3 hb3
  rw [hq2]
  clear hq1 hq2 hd
  go_loopw [3, 5, 6] (fun y x k wr => ∃ j : Nat, j ≤ 16 ∧ y = .bool false ∧ k = .int .i64 j ∧ x = .int .u64 (t / 2 ^ j : Nat) ∧ SlabAt wr w.heap.size 0 0 ∧ SlabAt wr (w.heap.size + 1) c (t % 2 ^ j) ∧ Below w.heap.size w wr ∧ ∀ i, i < j → t.testBit i = true → i < S.blk (c : Int)) (fun _ _ k _ => 16 - (intOf k).toNat)
  case atStart => exact ⟨0, by omega, rfl, rfl, by rw [Nat.pow_zero, Nat.div_one], S1.out, by rw [show t % 2 ^ 0 = 0 from Nat.mod_one t]; exact S2.out, S3.out, fun i hi => by omega⟩
  case round =>
    obtain ⟨j, hj, rfl, rfl, rfl, hs1, hs2, hb, hbits⟩ := hrel
    have T1 := Lib.hid hs1; have T2 := Lib.hid hs2; have T3 := Lib.hid hb; have T4 := Lib.hid hbits
    clear hs1 hs2 hb hbits S1 S2 S3
    by_cases hlt : j < 16
    · obtain ⟨v, cj⟩ : ∃ v, wr.cell? ⟨w.heap.size + 1, 1 + j, none⟩ = some (.bool v) := ⟨_, T2.out.bit hlt⟩
      have fj := T2.out.free (1 + j)
      have c0 := T2.out.cls
      have hbit := half_bit t j
      have hnx : ((t / 2 ^ j : Nat) : Int) / 2 = ((t / 2 ^ (j + 1) : Nat) : Int) := by rw [Nat.pow_succ, ← Nat.div_div_eq_div_mul]; rfl
      have HNX := Lib.hid (show t / 2 ^ (j + 1) = t / 2 ^ j / 2 by rw [Nat.pow_succ, Nat.div_div_eq_div_mul])
      have hql : t / 2 ^ j ≤ t := Nat.div_le_self _ _
      have hq64 : t / 2 ^ j < 2 ^ 64 := by have := HT2 (); omega
      have T5 : Hid (∀ b, t.testBit j = b → SlabAt (wr.setCell ⟨w.heap.size + 1, 1 + j, none⟩ (.bool b)) (w.heap.size + 1) c (t % 2 ^ (j + 1)) ∧ SlabAt (wr.setCell ⟨w.heap.size + 1, 1 + j, none⟩ (.bool b)) w.heap.size 0 0 ∧ Below w.heap.size w (wr.setCell ⟨w.heap.size + 1, 1 + j, none⟩ (.bool b))) := by
        intro b hbb
        exact ⟨T2.out.set hlt b (fun i hi => by rw [mod_bits t j i hi, hbb]), T1.out.other (p := ⟨w.heap.size + 1, 1 + j, none⟩) (by simp) _, T3.out.setCell (by simp) _⟩
      clear hnx hql
      have hnx2 : Hid (((t / 2 ^ j : Nat) : Int) / 2 = ((t / 2 ^ j / 2 : Nat) : Int)) := rfl
      rw [← HNX.out] at hnx2
      clear HNX
      obtain ⟨q2, hq2⟩ : ∃ q2, q2 = t / 2 ^ (j + 1) := ⟨_, rfl⟩
      rw [← hq2] at hnx2
      have HQ2 := Lib.hid hq2
      clear hq2
      generalize t / 2 ^ j = q at *
      have hnx := hnx2.out
      cases hb : t.testBit j with
      | false =>
        rw [hb] at hbit
        obtain ⟨u1, u2, u3⟩ := T5.out false hb
        have U1 := Lib.hid u1; have U2 := Lib.hid u2; have U3 := Lib.hid u3
        have HBIT := Lib.hid hb
        clear u1 u2 u3 T5 hb
        go_wp2
        go_roundw
        case rel => exact ⟨j + 1, by omega, rfl, by go_num, by rw [HQ2.out], by exact U2.out, by exact U1.out, by exact U3.out, fun i hi hbi => by
          by_cases e : i = j
          · rw [e, HBIT.out] at hbi; cases hbi
          · exact T4.out i (by omega) hbi⟩
        case measure => simp [intOf]; omega
      | true =>
        rw [hb] at hbit
        obtain ⟨u1, u2, u3⟩ := T5.out true hb
        have U1 := Lib.hid u1; have U2 := Lib.hid u2; have U3 := Lib.hid u3
        have HBIT := Lib.hid hb
        clear u1 u2 u3 T5 hb
        by_cases href : j < S.blk (c : Int)
        · have HREF := Lib.hid href
          have HBK : Hid (∀ W : World, Calls Tryz.prog 38 #[.int .i64 (c : Int)] W fun e w' => e = .returned (.int .i64 (S.blk (c : Int) : Nat)) ∧ ∃ m, w' = W.drewN m) := fun W => rs_blocks _ W
          obtain ⟨bk, hbk⟩ : ∃ bk, bk = S.blk (c : Int) := ⟨_, rfl⟩
          rw [← hbk] at HBK href
          clear hbk
          go_wp2_with fail
          refine (HBK.out _).mono ?_
          rintro e w' ⟨rfl, m, rfl⟩
          go_wp2
          go_roundw
          case rel => exact ⟨j + 1, by omega, rfl, by go_num, by rw [HQ2.out], by exact U2.out, by exact U1.out, by exact below_drewN' U3.out _, fun i hi hbi => by
            by_cases e : i = j
            · rw [e]; exact HREF.out
            · exact T4.out i (by omega) hbi⟩
          case measure => simp [intOf]; omega
        · have hr := HRF.out j HBIT.out (Nat.le_of_not_lt href)
          obtain ⟨hn1, hn2⟩ := HNO.out hr
          have HRES := Lib.hid (And.intro hr (And.intro hn1 hn2))
          have HBK : Hid (∀ W : World, Calls Tryz.prog 38 #[.int .i64 (c : Int)] W fun e w' => e = .returned (.int .i64 (S.blk (c : Int) : Nat)) ∧ ∃ m, w' = W.drewN m) := fun W => rs_blocks _ W
          obtain ⟨bk, hbk⟩ : ∃ bk, bk = S.blk (c : Int) := ⟨_, rfl⟩
          rw [← hbk] at HBK href
          clear hbk hr hn1 hn2
          go_wp2_with fail
          refine (HBK.out _).mono ?_
          rintro e w' ⟨rfl, m, rfl⟩
          go_wp2_with (refine wpList_store_row rfl 65 (.tmp 2) (.tmp 39) rfl w.heap.size _ rfl rfl 65 (slabA 0 0) (by exact U2.out) (by rw [slabA_zero, slabA_size]; exact info_slab) (by rw [slabA_zero]) zero_one ?_)
          (try simp only [Exit.inBlock, Exit.then])
          rw [slabA_zero]
          refine bodyPost_ret (results_cell_tmp rfl _ _ w.heap.size 65 (slabA 0 0) (0, 0) _ rfl (SlabAt.row (by exact U2.out) 0 0) Tryz.underlying65 rfl (by rw [slabA_size]; exact info_slab)) rfl ?_
          exact ⟨by rw [HRES.out.1, HRES.out.2.1, HRES.out.2.2]; rfl, Below.setRow6 (by exact below_drewN' U3.out _) (Nat.le_refl _) _⟩
    · obtain rfl : j = 16 := by omega
      rw [show t % 2 ^ 16 = t from Nat.mod_eq_of_lt (HT2 ())] at T2
      have HCT := fun W => Lib.hid (rs_count c t W)
      have HPC : (S.pc t 16 = 0 ↔ t = 0) := S.pc_none (HT2 ())
      have HRES : Hid ((S.pc t 16 = 0 ↔ c = 0) → S.rgt n = true ∧ S.cls n = c ∧ S.tkn n = t) := fun h => HGD.out (HPC.symm.trans h) (fun i hi hb => T4.out i hi hb)
      have HRES2 : Hid (¬ (S.pc t 16 = 0 ↔ c = 0) → S.rgt n = false) := fun h => HBD.out (fun h2 => h (HPC.trans h2))
      clear HPC HGD HBD HRF T4
      have hple := S.pc_le t 16
      obtain ⟨u0, u1, u2, u3, u4, u5, u6, u7, u8, u9, u10, u11, u12, u13, u14, u15, hua, huc⟩ := slab_cells (w.heap.size + 1) c t
      have HUA := Lib.hid hua
      have HUC := Lib.hid huc
      have hS := huc wr T2.out
      clear hua huc
      generalize S.pc t 16 = pn at *
      have HY : Hid (∀ w5, Below wr.drew.heap.size wr.drew w5 → SlabAt w5 w.heap.size 0 0 ∧ SlabAt w5 (w.heap.size + 1) c t ∧ Below w.heap.size w w5) := fun w5 hb =>
        ⟨SlabAt.below (w := wr.drew) (by exact T1.out) hb, SlabAt.below (w := wr.drew) (by exact T2.out) hb, T3.out.drew.trans (hb.mono (by exact T3.out.size))⟩
      go_upto_region 13 with fail
      first | (go_region_held_law (fun W => W.cell? ⟨w.heap.size + 1, 0, none⟩ = some (.int .i64 (c : Int)) ∧ W.cell? ⟨w.heap.size + 1, 1, none⟩ = some u0 ∧ W.cell? ⟨w.heap.size + 1, 2, none⟩ = some u1 ∧ W.cell? ⟨w.heap.size + 1, 3, none⟩ = some u2 ∧ W.cell? ⟨w.heap.size + 1, 4, none⟩ = some u3 ∧ W.cell? ⟨w.heap.size + 1, 5, none⟩ = some u4 ∧ W.cell? ⟨w.heap.size + 1, 6, none⟩ = some u5 ∧ W.cell? ⟨w.heap.size + 1, 7, none⟩ = some u6 ∧ W.cell? ⟨w.heap.size + 1, 8, none⟩ = some u7 ∧ W.cell? ⟨w.heap.size + 1, 9, none⟩ = some u8 ∧ W.cell? ⟨w.heap.size + 1, 10, none⟩ = some u9 ∧ W.cell? ⟨w.heap.size + 1, 11, none⟩ = some u10 ∧ W.cell? ⟨w.heap.size + 1, 12, none⟩ = some u11 ∧ W.cell? ⟨w.heap.size + 1, 13, none⟩ = some u12 ∧ W.cell? ⟨w.heap.size + 1, 14, none⟩ = some u13 ∧ W.cell? ⟨w.heap.size + 1, 15, none⟩ = some u14 ∧ W.cell? ⟨w.heap.size + 1, 16, none⟩ = some u15) (first | exact hS | exact hS2)
        (first | (go_at_call 65; rw [HUA.out]; refine ((HCT _).out).mono ?_; rintro e w5 ⟨rfl, hb5⟩; obtain ⟨x1, x2, x3⟩ := HY.out _ hb5; have X1 := Lib.hid x1; have X2 := Lib.hid x2; have X3 := Lib.hid x3; have hS2 := HUC.out _ x2; clear hb5 x1 x2 x3))) | fail "held"
      rename_i hh
      clear hS HUA HUC HCT HY hS2 hh
      by_cases hcase : pn = 0 ↔ c = 0
      · obtain ⟨r1, r2, r3⟩ := HRES.out hcase
        have HR := Lib.hid (And.intro r1 (And.intro r2 r3))
        have hbb : (((pn : Int) == 0) == ((c : Int) == 0)) = true := by
          rw [beq_iff_eq, Bool.eq_iff_iff]; simp; omega
        rw [hbb]
        clear r1 r2 r3 HRES HRES2 HNO hbb hcase
        go_wp2_with (first
          | (refine wpList_load_row rfl 65 (.tmp 4) rfl (w.heap.size + 1) rfl 65 (slabA c t) (0, 0) _ X2.out Tryz.underlying65 rfl (by rw [slabA_size]; exact info_slab) ?_)
          | (refine wpList_store_row rfl 65 (.tmp 2) (.tmp 48) rfl w.heap.size (slabA c t) rfl rfl 65 (slabA 0 0) X1.out (by rw [slabA_size]; exact info_slab) (by rw [slabA_size, slabA_size]) (slabA_one c t) ?_))
        (try simp only [Exit.inBlock, Exit.then])
        refine bodyPost_ret (results_cell_tmp rfl _ _ w.heap.size 65 (slabA c t) (0, 0) _ rfl (X1.out.row c t) Tryz.underlying65 rfl (by rw [slabA_size]; exact info_slab)) rfl ?_
        exact ⟨by rw [HR.out.1, HR.out.2.1, HR.out.2.2]; rfl, Below.setRow6 X3.out (Nat.le_refl _) _⟩
      · have hr := HRES2.out hcase
        obtain ⟨hn1, hn2⟩ := HNO.out hr
        have HR := Lib.hid (And.intro hr (And.intro hn1 hn2))
        have hbb : (((pn : Int) == 0) == ((c : Int) == 0)) = false := by
          rw [beq_eq_false_iff_ne, Ne, Bool.eq_iff_iff]; simp; omega
        rw [hbb]
        clear hr hn1 hn2 HRES HRES2 HNO hbb hcase
        go_wp2_with (refine wpList_store_row rfl 65 (.tmp 2) (.tmp 47) rfl w.heap.size _ rfl rfl 65 (slabA 0 0) X1.out (by rw [slabA_zero, slabA_size]; exact info_slab) (by rw [slabA_zero]) zero_one ?_)
        (try simp only [Exit.inBlock, Exit.then])
        rw [slabA_zero]
        refine bodyPost_ret (results_cell_tmp rfl _ _ w.heap.size 65 (slabA 0 0) (0, 0) _ rfl (X1.out.row 0 0) Tryz.underlying65 rfl (by rw [slabA_size]; exact info_slab)) rfl ?_
        exact ⟨by rw [HR.out.1, HR.out.2.1, HR.out.2.2]; rfl, Below.setRow6 X3.out (Nat.le_refl _) _⟩
theorem rs_of (n : Nat) (w : World) :
    Calls Tryz.prog 26 #[.int .u64 n] w fun e w' => e = .returned (.tuple #[.agg (slabA (S.cls n) (S.tkn n)), .bool (S.rgt n)]) ∧ Below w.heap.size w w' := by
  by_cases h : n < 196608
  · exact rs_of_low n w h
  · have hr : S.rgt n = false := by
      unfold S.rgt
      rw [decide_eq_false_iff_not]
      omega
    have e1 : S.cls n = 0 := by simp [S.cls, hr]
    have e2 : S.tkn n = 0 := by simp [S.tkn, hr]
    rw [hr, e1, e2]
    exact rs_of_high n w (by omega)
end Go.Proofs.YtaceogpdjbikiaaGreatDoor
