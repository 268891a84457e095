/- SlD: The reference's slab of layer 6 as a row of seventeen cells; the contracts of its Blocks, Lines, count, Word. What was there stays.
SlE: The contract of the reference's Of of layer 6. What was there stays.
SlF: The contracts of the reference's List and Next of layer 6. What was there stays.
SlG: The contracts of the reference's Take and Drop of layer 6. What was there stays.
SlH: The contract of the reference's Drop of layer 6. What was there stays. -/
import Derived.Test.YtaceogpdjbikiaaGreatDoorSl
import Derived.Laws.Rows
import Derived.BigQuiet
import Derived.Deep.DeepCutAuto
import Derived.Deep.RegionHeldLaw
import Derived.Deep.WholeRow
namespace Go.Proofs.YtaceogpdjbikiaaGreatDoor

open Go.RowKit

def slabL (c t : Nat) : List Value := .int .i64 (c : Int) :: (List.range 16).map fun i => Value.bool (t.testBit i)
def slabA (c t : Nat) : Array Value := (slabL c t).toArray
theorem slabL_length (c t : Nat) : (slabL c t).length = 17 := by simp [slabL]
theorem slabA_size (c t : Nat) : (slabA c t).size = 17 := by simp [slabA, slabL]
theorem slabA_cls (c t : Nat) : (slabA c t)[0]? = some (.int .i64 (c : Int)) := rfl
theorem slabL_bit (c t : Nat) {i : Nat} (hi : i < 16) : (slabL c t)[1 + i]? = some (.bool (t.testBit i)) := by
  unfold slabL
  rw [Nat.add_comm 1 i, List.getElem?_cons_succ, List.getElem?_map, List.getElem?_range hi]
  rfl
theorem slabA_bit (c t : Nat) {i : Nat} (hi : i < 16) : (slabA c t)[1 + i]? = some (.bool (t.testBit i)) := by
  unfold slabA
  rw [List.getElem?_toArray]
  exact slabL_bit c t hi
theorem slabA_one (c t : Nat) : (slabA c t).all (·.oneCell') = true := by
  rw [Array.all_eq_true_iff_forall_mem]
  intro v hv
  have hv : v ∈ slabL c t := by simpa [slabA] using hv
  unfold slabL at hv
  rcases List.mem_cons.1 hv with rfl | hv
  · rfl
  · obtain ⟨i, _, rfl⟩ := List.mem_map.1 hv
    rfl
theorem slabA_ext {c t : Nat} {A : Array Value} (hs : A.size = 17) (h0 : A[0]? = some (.int .i64 (c : Int))) (h1 : ∀ i, i < 16 → A[1 + i]? = some (.bool (t.testBit i))) : A = slabA c t := by
  apply Array.ext_getElem?
  intro i
  by_cases hi : i < 17
  · by_cases h : i = 0
    · subst h; rw [h0, slabA_cls]
    · obtain ⟨j, rfl⟩ : ∃ j, i = 1 + j := ⟨i - 1, by omega⟩
      rw [h1 j (by omega), slabA_bit c t (by omega)]
  · rw [Array.getElem?_eq_none (by omega), Array.getElem?_eq_none (by rw [slabA_size]; omega)]
theorem slabA_set (c : Nat) {t t' k : Nat} (hk : k < 16) (b : Bool) (h : ∀ i, i < 16 → t'.testBit i = if i = k then b else t.testBit i) : (slabA c t).setIfInBounds (1 + k) (.bool b) = slabA c t' := by
  refine slabA_ext (by simp [slabA_size]) ?_ ?_
  · rw [Array.getElem?_setIfInBounds, if_neg (by omega), slabA_cls]
  · intro i hi
    rw [Array.getElem?_setIfInBounds, h i hi]
    by_cases e : i = k
    · subst e; rw [if_pos rfl, if_pos rfl, slabA_size, if_pos (by omega)]
    · rw [if_neg (by omega), if_neg e, slabA_bit c t hi]
theorem slabA_setc (c c' t : Nat) : (slabA c t).setIfInBounds 0 (.int .i64 (c' : Int)) = slabA c' t := by
  refine slabA_ext (by simp [slabA_size]) ?_ ?_
  · rw [Array.getElem?_setIfInBounds, if_pos rfl, slabA_size]; rfl
  · intro i hi
    rw [Array.getElem?_setIfInBounds, if_neg (by omega), slabA_bit c t hi]
theorem slabA_zero : #[.int .i64 0, .bool false, .bool false, .bool false, .bool false, .bool false, .bool false, .bool false, .bool false, .bool false, .bool false, .bool false, .bool false, .bool false, .bool false, .bool false, .bool false] = slabA 0 0 := by
  simp [slabA, slabL, List.range, List.range.loop]
theorem info_slab : (Tryz.prog.info? 65).map (·.size) = some 17 := by kernel_rfl
/-- A slab in a block. -/
def SlabAt (w : World) (b c t : Nat) : Prop := w.heap[b]? = some (.cells (slabA c t) 65 (0, 0))
theorem SlabAt.cls {w : World} {b c t : Nat} (h : SlabAt w b c t) : w.cell? ⟨b, 0, none⟩ = some (.int .i64 (c : Int)) := (cell_of_row w b 0 _ _ _ h).trans (slabA_cls c t)
theorem SlabAt.bit {w : World} {b c t : Nat} (h : SlabAt w b c t) {i : Nat} (hi : i < 16) : w.cell? ⟨b, 1 + i, none⟩ = some (.bool (t.testBit i)) := (cell_of_row w b (1 + i) _ _ _ h).trans (slabA_bit c t hi)
theorem SlabAt.free {w : World} {b c t : Nat} (h : SlabAt w b c t) (j : Nat) : w.frozen? ⟨b, j, none⟩ = false := frozen_of_row w b j _ _ h
theorem SlabAt.lt {w : World} {b c t : Nat} (h : SlabAt w b c t) : b < w.heap.size := (Array.getElem?_eq_some_iff.1 h).1
theorem SlabAt.below {w w' : World} {b c t : Nat} (h : SlabAt w b c t) (hb : Below w.heap.size w w') : SlabAt w' b c t := (hb.block b h.lt).trans h
theorem SlabAt.new (w : World) (c t : Nat) : SlabAt (w.alloc (.cells (slabA c t) 65 (0, 0))) w.heap.size c t := heap_alloc_new w _
theorem SlabAt.set {w : World} {b c t t' k : Nat} (h : SlabAt w b c t) (hk : k < 16) (v : Bool) (ht : ∀ i, i < 16 → t'.testBit i = if i = k then v else t.testBit i) : SlabAt (w.setCell ⟨b, 1 + k, none⟩ (.bool v)) b c t' := by
  have := heap_setCell_same w b (1 + k) _ _ (.bool v) h
  rwa [slabA_set c hk v ht] at this
theorem SlabAt.setc {w : World} {b c t : Nat} (h : SlabAt w b c t) (c' : Nat) : SlabAt (w.setCell ⟨b, 0, none⟩ (.int .i64 (c' : Int))) b c' t := by
  have := heap_setCell_same w b 0 _ _ (.int .i64 (c' : Int)) h
  rwa [slabA_setc] at this
theorem SlabAt.other {w : World} {b c t : Nat} (h : SlabAt w b c t) {p : Addr} (hp : b ≠ p.block) (v : Value) : SlabAt (w.setCell p v) b c t := (heap_setCell_other w p b v hp).trans h
theorem SlabAt.row {w : World} {b c t : Nat} (h : SlabAt w b c t) (c' t' : Nat) : SlabAt (w.setRow b (slabA c' t')) b c' t' := setRow_heap w b _ _ _ _ h
theorem SlabAt.row_other {w : World} {b c t g : Nat} (h : SlabAt w b c t) (hp : b ≠ g) (cs : Array Value) : SlabAt (w.setRow g cs) b c t := (setRow_other w g b cs hp).trans h
theorem Below.setRow6 {B : Nat} {a w : World} (h : Below B a w) {g : Nat} (hg : B ≤ g) (cs : Array Value) : Below B a (w.setRow g cs) :=
  h.trans ⟨rfl, rfl, rfl, by simp, fun k hk => setRow_other w g k cs (by omega)⟩

theorem rs_blocks (c : Int) (w : World) :
    Calls Tryz.prog 38 #[.int .i64 c] w fun e w' => e = .returned (.int .i64 (S.blk c : Nat)) ∧ ∃ m, w' = w.drewN m := by
  by_cases h1 : c = 1
  · subst h1
    go_enter Tryz.func38, Tryz.ntmps38
    go_wp2
    go_ret
    exact ⟨rfl, nodraw _⟩
  · by_cases h2 : c = 2
    · subst h2
      go_enter Tryz.func38, Tryz.ntmps38
      go_wp2
      go_ret
      exact ⟨rfl, nodraw _⟩
    · have HN : Hid (S.blk c = 0) := by show _ = _; unfold S.blk; rw [if_neg h1, if_neg h2]
      go_enter Tryz.func38, Tryz.ntmps38
      go_wp2
      go_ret
      exact ⟨ret_int (by rw [HN.out]; rfl), nodraw _⟩
theorem rs_lines (c : Int) (w : World) :
    Calls Tryz.prog 80 #[.int .i64 c] w fun e w' => e = .returned (.int .i64 (S.lns c : Nat)) ∧ ∃ m, w' = w.drewN m := by
  by_cases h1 : c = 1
  · subst h1
    go_enter Tryz.func80, Tryz.ntmps80
    go_wp2
    go_ret
    exact ⟨rfl, nodraw _⟩
  · by_cases h2 : c = 2
    · subst h2
      go_enter Tryz.func80, Tryz.ntmps80
      go_wp2
      go_ret
      exact ⟨rfl, nodraw _⟩
    · have HN : Hid (S.lns c = 0) := by show _ = _; unfold S.lns; rw [if_neg h1, if_neg h2]
      go_enter Tryz.func80, Tryz.ntmps80
      go_wp2
      go_ret
      exact ⟨ret_int (by rw [HN.out]; rfl), nodraw _⟩
theorem rs_count (c t : Nat) (w : World) :
    Calls Tryz.prog 65 #[.agg (slabA c t)] w fun e w' => e = .returned (.int .i64 (S.pc t 16 : Nat)) ∧ Below w.heap.size w w' := by
  have HS0 : Hid (SlabAt (w.alloc (.cells (slabA c t) 65 (0, 0))) w.heap.size c t) := SlabAt.new w c t
  have HB0 : Hid (∀ m, Below w.heap.size w ((w.alloc (.cells (slabA c t) 65 (0, 0))).drewN m)) := fun m => below_drewN' ((Below.refl _ _).alloc (Nat.le_refl _) _) m
  go_enter Tryz.func65, Tryz.ntmps65
  go_wp2_with fail
  generalize w.alloc (.cells (slabA c t) 65 (0, 0)) = W0 at *
  go_loopw [3, 4] (fun n k wr => ∃ j : Nat, j ≤ 16 ∧ k = .int .i64 j ∧ n = .int .i64 (S.pc t j : Nat) ∧ ∃ m, wr = W0.drewN m) (fun _ k _ => 16 - (intOf k).toNat)
  case atStart => exact ⟨0, by omega, rfl, rfl, 0, rfl⟩
  case round =>
    obtain ⟨j, hj, rfl, rfl, m, rfl⟩ := hrel
    by_cases hlt : j < 16
    · have hcell : ∀ m, (W0.drewN m).cell? ⟨w.heap.size, 1 + j, none⟩ = some (.bool (t.testBit j)) := fun m => SlabAt.bit (w := W0.drewN m) HS0.out hlt
      have HP : Hid (S.pc t (j + 1) = S.pc t j + (if t.testBit j then 1 else 0)) := rfl
      have hle := S.pc_le t j
      generalize S.pc t j = p at *
      cases hb : t.testBit j with
      | false =>
        rw [hb] at hcell HP
        clear hb
        go_wp2
        go_roundw
        case rel => exact ⟨j + 1, by omega, by go_num, by rw [HP.out]; simp, _, rfl⟩
        case measure => simp [intOf]; omega
      | true =>
        rw [hb] at hcell HP
        clear hb
        go_wp2
        go_roundw
        case rel => exact ⟨j + 1, by omega, by go_num, by rw [HP.out]; simp, _, rfl⟩
        case measure => simp [intOf]; omega
    · obtain rfl : j = 16 := by omega
      go_wp2
      go_ret
      exact ⟨rfl, HB0.out _⟩
theorem mod_next (t i : Nat) : t % 2 ^ (i + 1) = t % 2 ^ i + (if t.testBit i then 2 ^ i else 0) := M.mod_succ t i
theorem rs_word (c t : Nat) (w : World) (hc : c ≤ 2) (ht : t < 65536) :
    Calls Tryz.prog 79 #[.agg (slabA c t)] w fun e w' => e = .returned (.int .u64 (c * 65536 + t : Nat)) ∧ Below w.heap.size w w' := by
  have HS0 : Hid (SlabAt (w.alloc (.cells (slabA c t) 65 (0, 0))) w.heap.size c t) := SlabAt.new w c t
  have HB0 : Hid (∀ m, Below w.heap.size w ((w.alloc (.cells (slabA c t) 65 (0, 0))).drewN m)) := fun m => below_drewN' ((Below.refl _ _).alloc (Nat.le_refl _) _) m
  have HT : Hid (t % 2 ^ 16 = t) := Nat.mod_eq_of_lt ht
  have h0 := slabA_cls c t
  go_enter Tryz.func79, Tryz.ntmps79
  go_wp2_with fail
  generalize w.alloc (.cells (slabA c t) 65 (0, 0)) = W0 at *
  go_loopw [3, 4, 5] (fun n p k wr => ∃ j : Nat, j ≤ 16 ∧ k = .int .i64 j ∧ n = .int .u64 (c * 65536 + t % 2 ^ j : Nat) ∧ p = .int .u64 (2 ^ j : Nat) ∧ ∃ m, wr = W0.drewN m) (fun _ _ k _ => 16 - (intOf k).toNat)
  case atStart => exact ⟨0, by omega, rfl, by rw [show t % 2 ^ 0 = 0 from Nat.mod_one t]; simp, rfl, 0, rfl⟩
  case round =>
    obtain ⟨j, hj, rfl, rfl, rfl, m, rfl⟩ := hrel
    by_cases hlt : j < 16
    · have hcell : ∀ m, (W0.drewN m).cell? ⟨w.heap.size, 1 + j, none⟩ = some (.bool (t.testBit j)) := fun m => SlabAt.bit (w := W0.drewN m) HS0.out hlt
      have HP := Lib.hid (mod_next t j)
      have HQ : Hid (2 ^ (j + 1) = 2 ^ j * 2) := Nat.pow_succ ..
      have hp1 : 2 ^ j ≤ 2 ^ 15 := Nat.pow_le_pow_right (by decide) (by omega)
      have hp0 : t % 2 ^ j < 2 ^ j := Nat.mod_lt _ (Nat.two_pow_pos _)
      generalize t % 2 ^ j = r at *
      generalize 2 ^ j = q at *
      cases hb : t.testBit j with
      | false =>
        rw [hb] at hcell HP
        clear hb
        go_wp2
        go_roundw
        case rel => exact ⟨j + 1, by omega, by go_num, by rw [HP.out]; simp <;> omega, by rw [HQ.out]; simp, _, rfl⟩
        case measure => simp [intOf]; omega
      | true =>
        rw [hb] at hcell HP
        clear hb
        go_wp2
        go_roundw
        case rel => exact ⟨j + 1, by omega, by go_num, by rw [HP.out]; simp <;> omega, by rw [HQ.out]; simp, _, rfl⟩
        case measure => simp [intOf]; omega
    · obtain rfl : j = 16 := by omega
      rw [HT.out]
      go_wp2
      go_ret
      exact ⟨rfl, HB0.out _⟩
end Go.Proofs.YtaceogpdjbikiaaGreatDoor
namespace Go.Proofs.YtaceogpdjbikiaaGreatDoor

open Go.RowKit

/-! What Of asks, as numbers: n = c * 65536 + t. -/
theorem of_split {n : Nat} (hr : S.rgt n = true) : S.cls n = n / 65536 ∧ S.tkn n = n % 65536 := by simp [S.cls, S.tkn, hr]
theorem of_refuse {n j : Nat} (h1 : (n % 65536).testBit j = true) (h2 : S.blk ((n / 65536 : Nat) : Int) ≤ j) : S.rgt n = false := by
  cases hr : S.rgt n with
  | false => rfl
  | true =>
    obtain ⟨e1, e2⟩ := of_split hr
    rw [← e1] at h2
    have := S.tkn_high (n := n) h2
    rw [e2, h1] at this
    cases this
theorem of_bad {n : Nat} (h : ¬ (n % 65536 = 0 ↔ n / 65536 = 0)) : S.rgt n = false := by
  cases hr : S.rgt n with
  | false => rfl
  | true =>
    obtain ⟨e1, e2⟩ := of_split hr
    rcases S.shape n with ⟨h1, _⟩ | ⟨_, _, h2⟩
    · rw [h1] at hr; cases hr
    · rw [e1, e2] at h2
      omega
theorem of_good {n : Nat} (h3 : n < 196608) (h : n % 65536 = 0 ↔ n / 65536 = 0) (hb : ∀ j, j < 16 → (n % 65536).testBit j = true → j < S.blk ((n / 65536 : Nat) : Int)) : S.rgt n = true := by
  unfold S.rgt
  rw [decide_eq_true_eq]
  have hc : n / 65536 = 0 ∨ n / 65536 = 1 ∨ n / 65536 = 2 := by omega
  rcases hc with hc | hc | hc
  · omega
  · omega
  · have ht : n % 65536 < 2 ^ 4 := by
      apply Nat.lt_pow_two_of_testBit
      intro i hi
      by_cases h16 : i < 16
      · cases hbit : (n % 65536).testBit i with
        | false => rfl
        | true =>
          have := hb i h16 hbit
          rw [hc, show S.blk ((2 : Nat) : Int) = 4 from rfl] at this
          omega
      · exact Nat.testBit_lt_two_pow (Nat.lt_of_lt_of_le (m := 2 ^ 16) (Nat.mod_lt _ (by decide)) (Nat.pow_le_pow_right (by decide) (by omega)))
    omega
theorem mod_bits (t i j : Nat) (_hj : j < 16) : (t % 2 ^ (i + 1)).testBit j = if j = i then t.testBit i else (t % 2 ^ i).testBit j := by
  rw [Nat.testBit_mod_two_pow, Nat.testBit_mod_two_pow]
  by_cases e : j = i
  · subst e; simp
  · rw [if_neg e]
    by_cases h : j < i
    · simp [h, show j < i + 1 by omega]
    · simp [h, show ¬ j < i + 1 by omega]
theorem half_bit (t i : Nat) : (((t / 2 ^ i : Nat) : Int) % 2 == 1) = t.testBit i := by
  rw [Bool.eq_iff_iff, ← M.bit_iff, beq_iff_eq]
  omega
/-- What a call leaves that hands back a struct in a block of its own, and one more. -/
theorem results_cell_tmp {P : Program} {fn : Func} {p q : Tmp} {ty : TypeId} (h : fn.results = #[.cell p ty, .tmp q]) (tmps : Array Value) (w : World) (g : Nat) (t : TypeId) (cs : Array Value) (fr : Nat × Nat) (d : TypeDesc)
    (hp : tmps.getD p undef = .pointer (some ⟨g, 0, none⟩)) (hg : w.heap[g]? = some (.cells cs t fr))
    (hu : P.underlying ty = some d) (hd : (match d with | .struct _ | .array _ _ => true | _ => false) = true) (hi : (P.info? ty).map (·.size) = some cs.size) :
    (results fn tmps).run P w = .ok (.tuple #[.agg cs, tmps.getD q undef]) w := by
  have hp' : tmps[p]?.getD undef = .pointer (some ⟨g, 0, none⟩) := by simpa using hp
  simp [results, h, hp', asAddr, run_loadVar_row w g t ty cs fr d hg hu hd hi]
theorem two_slabs (w : World) : SlabAt ((w.alloc (.cells (slabA 0 0) 65 (0, 0))).alloc (.cells (slabA 0 0) 65 (0, 0))) w.heap.size 0 0 ∧
    SlabAt ((w.alloc (.cells (slabA 0 0) 65 (0, 0))).alloc (.cells (slabA 0 0) 65 (0, 0))) (w.heap.size + 1) 0 0 ∧
    ∀ m, Below w.heap.size w (((w.alloc (.cells (slabA 0 0) 65 (0, 0))).alloc (.cells (slabA 0 0) 65 (0, 0))).drewN m) := by
  refine ⟨heap_alloc2_old w _ _, heap_alloc2_new w _ _, fun m => below_drewN' (((Below.refl _ _).alloc (Nat.le_refl _) _).alloc (by simp) _) m⟩
theorem zero_one : (#[.int .i64 0, .bool false, .bool false, .bool false, .bool false, .bool false, .bool false, .bool false, .bool false, .bool false, .bool false, .bool false, .bool false, .bool false, .bool false, .bool false, .bool false] : Array Value).all (·.oneCell') = true := by rw [slabA_zero]; exact slabA_one 0 0
theorem rs_of_high (n : Nat) (w : World) (h3 : 196608 ≤ n) :
    Calls Tryz.prog 26 #[.int .u64 n] w fun e w' => e = .returned (.tuple #[.agg (slabA 0 0), .bool false]) ∧ Below w.heap.size w w' := by
  have h3' : (196608 : Int) ≤ (n : Int) := by omega
  clear h3
  go_enter Tryz.func26, Tryz.ntmps26
  go_upto_region 2 with fail
  rw [slabA_zero]
  obtain ⟨s1, s2, s3⟩ := two_slabs w
  generalize (w.alloc (.cells (slabA 0 0) 65 (0, 0))).alloc (.cells (slabA 0 0) 65 (0, 0)) = W2 at *
  have S1 := Lib.hid s1; have S2 := Lib.hid s2; have S3 := Lib.hid s3
  clear s1 s2 s3
  go_wp2_with (first
    | (refine wpList_load_row rfl 65 (.tmp 4) rfl (w.heap.size + 1) rfl 65 (slabA 0 0) (0, 0) _ S2.out Tryz.underlying65 rfl (by rw [slabA_size]; exact info_slab) ?_)
    | (refine wpList_store_row rfl 65 (.tmp 2) (.tmp 9) rfl w.heap.size (slabA 0 0) rfl rfl 65 (slabA 0 0) S1.out (by rw [slabA_size]; exact info_slab) rfl (slabA_one 0 0) ?_))
  (try simp only [Exit.inBlock, Exit.then])
  refine bodyPost_ret (results_cell_tmp rfl _ _ w.heap.size 65 (slabA 0 0) (0, 0) _ rfl (S1.out.row 0 0) Tryz.underlying65 rfl (by rw [slabA_size]; exact info_slab)) rfl ?_
  exact ⟨rfl, Below.setRow6 (S3.out 0) (Nat.le_refl _) _⟩
/-- The seventeen cells, each by a letter. -/
theorem slab_cells (b c t : Nat) : ∃ u0 u1 u2 u3 u4 u5 u6 u7 u8 u9 u10 u11 u12 u13 u14 u15 : Value, (#[.int .i64 (c : Int), u0, u1, u2, u3, u4, u5, u6, u7, u8, u9, u10, u11, u12, u13, u14, u15] : Array Value) = slabA c t ∧ ∀ W : World, SlabAt W b c t → W.cell? ⟨b, 0, none⟩ = some (.int .i64 (c : Int)) ∧ W.cell? ⟨b, 1, none⟩ = some u0 ∧ W.cell? ⟨b, 2, none⟩ = some u1 ∧ W.cell? ⟨b, 3, none⟩ = some u2 ∧ W.cell? ⟨b, 4, none⟩ = some u3 ∧ W.cell? ⟨b, 5, none⟩ = some u4 ∧ W.cell? ⟨b, 6, none⟩ = some u5 ∧ W.cell? ⟨b, 7, none⟩ = some u6 ∧ W.cell? ⟨b, 8, none⟩ = some u7 ∧ W.cell? ⟨b, 9, none⟩ = some u8 ∧ W.cell? ⟨b, 10, none⟩ = some u9 ∧ W.cell? ⟨b, 11, none⟩ = some u10 ∧ W.cell? ⟨b, 12, none⟩ = some u11 ∧ W.cell? ⟨b, 13, none⟩ = some u12 ∧ W.cell? ⟨b, 14, none⟩ = some u13 ∧ W.cell? ⟨b, 15, none⟩ = some u14 ∧ W.cell? ⟨b, 16, none⟩ = some u15 := by
  refine ⟨.bool (t.testBit 0), .bool (t.testBit 1), .bool (t.testBit 2), .bool (t.testBit 3), .bool (t.testBit 4), .bool (t.testBit 5), .bool (t.testBit 6), .bool (t.testBit 7), .bool (t.testBit 8), .bool (t.testBit 9), .bool (t.testBit 10), .bool (t.testBit 11), .bool (t.testBit 12), .bool (t.testBit 13), .bool (t.testBit 14), .bool (t.testBit 15), by simp only [slabA, slabL, List.range, List.range.loop, List.map], fun W h => ⟨h.cls, h.bit (i := 0) (by decide), h.bit (i := 1) (by decide), h.bit (i := 2) (by decide), h.bit (i := 3) (by decide), h.bit (i := 4) (by decide), h.bit (i := 5) (by decide), h.bit (i := 6) (by decide), h.bit (i := 7) (by decide), h.bit (i := 8) (by decide), h.bit (i := 9) (by decide), h.bit (i := 10) (by decide), h.bit (i := 11) (by decide), h.bit (i := 12) (by decide), h.bit (i := 13) (by decide), h.bit (i := 14) (by decide), h.bit (i := 15) (by decide)⟩⟩
set_option maxHeartbeats 2000000 in
theorem rs_of_low (n : Nat) (w : World) (h3 : n < 196608) :
    Calls Tryz.prog 26 #[.int .u64 n] w fun e w' => e = .returned (.tuple #[.agg (slabA (S.cls n) (S.tkn n)), .bool (S.rgt n)]) ∧ Below w.heap.size w w' := by
  have HRF : Hid (∀ j, (n % 65536).testBit j = true → S.blk ((n / 65536 : Nat) : Int) ≤ j → S.rgt n = false) := fun j => of_refuse
  have HBD : Hid (¬ (n % 65536 = 0 ↔ n / 65536 = 0) → S.rgt n = false) := of_bad
  have HGD : Hid ((n % 65536 = 0 ↔ n / 65536 = 0) → (∀ j, j < 16 → (n % 65536).testBit j = true → j < S.blk ((n / 65536 : Nat) : Int)) → S.rgt n = true ∧ S.cls n = n / 65536 ∧ S.tkn n = n % 65536) := fun h1 h2 => by
    have hr := of_good h3 h1 h2
    exact ⟨hr, of_split hr⟩
  have HNO : Hid (S.rgt n = false → S.cls n = 0 ∧ S.tkn n = 0) := fun h => by
    rcases S.shape n with ⟨_, _, h1, h2⟩ | ⟨h1, _⟩
    · exact ⟨h1, h2⟩
    · rw [h1] at h; cases h
  have hlt : (n : Int) < 196608 := by omega
  obtain ⟨c, hc⟩ : ∃ c, c = n / 65536 := ⟨_, rfl⟩
  obtain ⟨t, ht⟩ : ∃ t, t = n % 65536 := ⟨_, rfl⟩
  rw [← hc, ← ht] at HBD HGD
  simp only [← hc, ← ht] at HRF
  have hq1 : (n : Int) / 65536 = (c : Int) := by omega
  have hq2 : (n : Int) % 65536 = (t : Int) := by omega
  have hc2 : c ≤ 2 := by omega
  have ht2 : t < 65536 := by omega
  have HT2 : Unit → t < 65536 := fun _ => ht2
  have hd : decide ((196608 : Int) ≤ (n : Int)) = false := decide_eq_false (by omega)
  clear hc ht h3 ht2 hlt
  go_enter Tryz.func26, Tryz.ntmps26
  go_upto_region 2 with fail
  rw [slabA_zero]
  obtain ⟨s1, s2, s3⟩ := two_slabs w
  generalize (w.alloc (.cells (slabA 0 0) 65 (0, 0))).alloc (.cells (slabA 0 0) 65 (0, 0)) = W2 at *
  have S1 := Lib.hid s1; have S2 := Lib.hid s2; have S3 := Lib.hid s3
  clear s1 s2 s3
  have c0 := S2.out.cls
  have f0 := S2.out.free 0
  go_wp2_with fail
  have hw3 := S2.out.setc c
  have hv3 := S1.out.other (p := ⟨w.heap.size + 1, 0, none⟩) (by simp) (.int .i64 (c : Int))
  have hb3 : Below w.heap.size w (W2.setCell ⟨w.heap.size + 1, 0, none⟩ (.int .i64 (c : Int))) := (S3.out 0).setCell (by simp) _
  clear c0 f0 S1 S2 S3
  generalize W2.setCell ⟨w.heap.size + 1, 0, none⟩ (.int .i64 (c : Int)) = W3 at *
  have S1 := Lib.hid hv3; have S2 := Lib.hid hw3; have S3 := Lib.hid hb3
  clear hv3 hw3 hb3
  rw [hq2]
  clear hq1 hq2 hd
  go_loopw [3, 5, 6] (fun y x k wr => ∃ j : Nat, j ≤ 16 ∧ y = .bool false ∧ k = .int .i64 j ∧ x = .int .u64 (t / 2 ^ j : Nat) ∧ SlabAt wr w.heap.size 0 0 ∧ SlabAt wr (w.heap.size + 1) c (t % 2 ^ j) ∧ Below w.heap.size w wr ∧ ∀ i, i < j → t.testBit i = true → i < S.blk (c : Int)) (fun _ _ k _ => 16 - (intOf k).toNat)
  case atStart => exact ⟨0, by omega, rfl, rfl, by rw [Nat.pow_zero, Nat.div_one], S1.out, by rw [show t % 2 ^ 0 = 0 from Nat.mod_one t]; exact S2.out, S3.out, fun i hi => by omega⟩
  case round =>
    obtain ⟨j, hj, rfl, rfl, rfl, hs1, hs2, hb, hbits⟩ := hrel
    have T1 := Lib.hid hs1; have T2 := Lib.hid hs2; have T3 := Lib.hid hb; have T4 := Lib.hid hbits
    clear hs1 hs2 hb hbits S1 S2 S3
    by_cases hlt : j < 16
    · obtain ⟨v, cj⟩ : ∃ v, wr.cell? ⟨w.heap.size + 1, 1 + j, none⟩ = some (.bool v) := ⟨_, T2.out.bit hlt⟩
      have fj := T2.out.free (1 + j)
      have c0 := T2.out.cls
      have hbit := half_bit t j
      have hnx : ((t / 2 ^ j : Nat) : Int) / 2 = ((t / 2 ^ (j + 1) : Nat) : Int) := by rw [Nat.pow_succ, ← Nat.div_div_eq_div_mul]; rfl
      have HNX := Lib.hid (show t / 2 ^ (j + 1) = t / 2 ^ j / 2 by rw [Nat.pow_succ, Nat.div_div_eq_div_mul])
      have hql : t / 2 ^ j ≤ t := Nat.div_le_self _ _
      have hq64 : t / 2 ^ j < 2 ^ 64 := by have := HT2 (); omega
      have T5 : Hid (∀ b, t.testBit j = b → SlabAt (wr.setCell ⟨w.heap.size + 1, 1 + j, none⟩ (.bool b)) (w.heap.size + 1) c (t % 2 ^ (j + 1)) ∧ SlabAt (wr.setCell ⟨w.heap.size + 1, 1 + j, none⟩ (.bool b)) w.heap.size 0 0 ∧ Below w.heap.size w (wr.setCell ⟨w.heap.size + 1, 1 + j, none⟩ (.bool b))) := by
        intro b hbb
        exact ⟨T2.out.set hlt b (fun i hi => by rw [mod_bits t j i hi, hbb]), T1.out.other (p := ⟨w.heap.size + 1, 1 + j, none⟩) (by simp) _, T3.out.setCell (by simp) _⟩
      clear hnx hql
      have hnx2 : Hid (((t / 2 ^ j : Nat) : Int) / 2 = ((t / 2 ^ j / 2 : Nat) : Int)) := rfl
      rw [← HNX.out] at hnx2
      clear HNX
      obtain ⟨q2, hq2⟩ : ∃ q2, q2 = t / 2 ^ (j + 1) := ⟨_, rfl⟩
      rw [← hq2] at hnx2
      have HQ2 := Lib.hid hq2
      clear hq2
      generalize t / 2 ^ j = q at *
      have hnx := hnx2.out
      cases hb : t.testBit j with
      | false =>
        rw [hb] at hbit
        obtain ⟨u1, u2, u3⟩ := T5.out false hb
        have U1 := Lib.hid u1; have U2 := Lib.hid u2; have U3 := Lib.hid u3
        have HBIT := Lib.hid hb
        clear u1 u2 u3 T5 hb
        go_wp2
        go_roundw
        case rel => exact ⟨j + 1, by omega, rfl, by go_num, by rw [HQ2.out], by exact U2.out, by exact U1.out, by exact U3.out, fun i hi hbi => by
          by_cases e : i = j
          · rw [e, HBIT.out] at hbi; cases hbi
          · exact T4.out i (by omega) hbi⟩
        case measure => simp [intOf]; omega
      | true =>
        rw [hb] at hbit
        obtain ⟨u1, u2, u3⟩ := T5.out true hb
        have U1 := Lib.hid u1; have U2 := Lib.hid u2; have U3 := Lib.hid u3
        have HBIT := Lib.hid hb
        clear u1 u2 u3 T5 hb
        by_cases href : j < S.blk (c : Int)
        · have HREF := Lib.hid href
          have HBK : Hid (∀ W : World, Calls Tryz.prog 38 #[.int .i64 (c : Int)] W fun e w' => e = .returned (.int .i64 (S.blk (c : Int) : Nat)) ∧ ∃ m, w' = W.drewN m) := fun W => rs_blocks _ W
          obtain ⟨bk, hbk⟩ : ∃ bk, bk = S.blk (c : Int) := ⟨_, rfl⟩
          rw [← hbk] at HBK href
          clear hbk
          go_wp2_with fail
          refine (HBK.out _).mono ?_
          rintro e w' ⟨rfl, m, rfl⟩
          go_wp2
          go_roundw
          case rel => exact ⟨j + 1, by omega, rfl, by go_num, by rw [HQ2.out], by exact U2.out, by exact U1.out, by exact below_drewN' U3.out _, fun i hi hbi => by
            by_cases e : i = j
            · rw [e]; exact HREF.out
            · exact T4.out i (by omega) hbi⟩
          case measure => simp [intOf]; omega
        · have hr := HRF.out j HBIT.out (Nat.le_of_not_lt href)
          obtain ⟨hn1, hn2⟩ := HNO.out hr
          have HRES := Lib.hid (And.intro hr (And.intro hn1 hn2))
          have HBK : Hid (∀ W : World, Calls Tryz.prog 38 #[.int .i64 (c : Int)] W fun e w' => e = .returned (.int .i64 (S.blk (c : Int) : Nat)) ∧ ∃ m, w' = W.drewN m) := fun W => rs_blocks _ W
          obtain ⟨bk, hbk⟩ : ∃ bk, bk = S.blk (c : Int) := ⟨_, rfl⟩
          rw [← hbk] at HBK href
          clear hbk hr hn1 hn2
          go_wp2_with fail
          refine (HBK.out _).mono ?_
          rintro e w' ⟨rfl, m, rfl⟩
          go_wp2_with (refine wpList_store_row rfl 65 (.tmp 2) (.tmp 39) rfl w.heap.size _ rfl rfl 65 (slabA 0 0) (by exact U2.out) (by rw [slabA_zero, slabA_size]; exact info_slab) (by rw [slabA_zero]) zero_one ?_)
          (try simp only [Exit.inBlock, Exit.then])
          rw [slabA_zero]
          refine bodyPost_ret (results_cell_tmp rfl _ _ w.heap.size 65 (slabA 0 0) (0, 0) _ rfl (SlabAt.row (by exact U2.out) 0 0) Tryz.underlying65 rfl (by rw [slabA_size]; exact info_slab)) rfl ?_
          exact ⟨by rw [HRES.out.1, HRES.out.2.1, HRES.out.2.2]; rfl, Below.setRow6 (by exact below_drewN' U3.out _) (Nat.le_refl _) _⟩
    · obtain rfl : j = 16 := by omega
      rw [show t % 2 ^ 16 = t from Nat.mod_eq_of_lt (HT2 ())] at T2
      have HCT := fun W => Lib.hid (rs_count c t W)
      have HPC : (S.pc t 16 = 0 ↔ t = 0) := S.pc_none (HT2 ())
      have HRES : Hid ((S.pc t 16 = 0 ↔ c = 0) → S.rgt n = true ∧ S.cls n = c ∧ S.tkn n = t) := fun h => HGD.out (HPC.symm.trans h) (fun i hi hb => T4.out i hi hb)
      have HRES2 : Hid (¬ (S.pc t 16 = 0 ↔ c = 0) → S.rgt n = false) := fun h => HBD.out (fun h2 => h (HPC.trans h2))
      clear HPC HGD HBD HRF T4
      have hple := S.pc_le t 16
      obtain ⟨u0, u1, u2, u3, u4, u5, u6, u7, u8, u9, u10, u11, u12, u13, u14, u15, hua, huc⟩ := slab_cells (w.heap.size + 1) c t
      have HUA := Lib.hid hua
      have HUC := Lib.hid huc
      have hS := huc wr T2.out
      clear hua huc
      generalize S.pc t 16 = pn at *
      have HY : Hid (∀ w5, Below wr.drew.heap.size wr.drew w5 → SlabAt w5 w.heap.size 0 0 ∧ SlabAt w5 (w.heap.size + 1) c t ∧ Below w.heap.size w w5) := fun w5 hb =>
        ⟨SlabAt.below (w := wr.drew) (by exact T1.out) hb, SlabAt.below (w := wr.drew) (by exact T2.out) hb, T3.out.drew.trans (hb.mono (by exact T3.out.size))⟩
      go_upto_region 13 with fail
      first | (go_region_held_law (fun W => W.cell? ⟨w.heap.size + 1, 0, none⟩ = some (.int .i64 (c : Int)) ∧ W.cell? ⟨w.heap.size + 1, 1, none⟩ = some u0 ∧ W.cell? ⟨w.heap.size + 1, 2, none⟩ = some u1 ∧ W.cell? ⟨w.heap.size + 1, 3, none⟩ = some u2 ∧ W.cell? ⟨w.heap.size + 1, 4, none⟩ = some u3 ∧ W.cell? ⟨w.heap.size + 1, 5, none⟩ = some u4 ∧ W.cell? ⟨w.heap.size + 1, 6, none⟩ = some u5 ∧ W.cell? ⟨w.heap.size + 1, 7, none⟩ = some u6 ∧ W.cell? ⟨w.heap.size + 1, 8, none⟩ = some u7 ∧ W.cell? ⟨w.heap.size + 1, 9, none⟩ = some u8 ∧ W.cell? ⟨w.heap.size + 1, 10, none⟩ = some u9 ∧ W.cell? ⟨w.heap.size + 1, 11, none⟩ = some u10 ∧ W.cell? ⟨w.heap.size + 1, 12, none⟩ = some u11 ∧ W.cell? ⟨w.heap.size + 1, 13, none⟩ = some u12 ∧ W.cell? ⟨w.heap.size + 1, 14, none⟩ = some u13 ∧ W.cell? ⟨w.heap.size + 1, 15, none⟩ = some u14 ∧ W.cell? ⟨w.heap.size + 1, 16, none⟩ = some u15) (first | exact hS | exact hS2)
        (first | (go_at_call 65; rw [HUA.out]; refine ((HCT _).out).mono ?_; rintro e w5 ⟨rfl, hb5⟩; obtain ⟨x1, x2, x3⟩ := HY.out _ hb5; have X1 := Lib.hid x1; have X2 := Lib.hid x2; have X3 := Lib.hid x3; have hS2 := HUC.out _ x2; clear hb5 x1 x2 x3))) | fail "held"
      rename_i hh
      clear hS HUA HUC HCT HY hS2 hh
      by_cases hcase : pn = 0 ↔ c = 0
      · obtain ⟨r1, r2, r3⟩ := HRES.out hcase
        have HR := Lib.hid (And.intro r1 (And.intro r2 r3))
        have hbb : (((pn : Int) == 0) == ((c : Int) == 0)) = true := by
          rw [beq_iff_eq, Bool.eq_iff_iff]; simp; omega
        rw [hbb]
        clear r1 r2 r3 HRES HRES2 HNO hbb hcase
        go_wp2_with (first
          | (refine wpList_load_row rfl 65 (.tmp 4) rfl (w.heap.size + 1) rfl 65 (slabA c t) (0, 0) _ X2.out Tryz.underlying65 rfl (by rw [slabA_size]; exact info_slab) ?_)
          | (refine wpList_store_row rfl 65 (.tmp 2) (.tmp 48) rfl w.heap.size (slabA c t) rfl rfl 65 (slabA 0 0) X1.out (by rw [slabA_size]; exact info_slab) (by rw [slabA_size, slabA_size]) (slabA_one c t) ?_))
        (try simp only [Exit.inBlock, Exit.then])
        refine bodyPost_ret (results_cell_tmp rfl _ _ w.heap.size 65 (slabA c t) (0, 0) _ rfl (X1.out.row c t) Tryz.underlying65 rfl (by rw [slabA_size]; exact info_slab)) rfl ?_
        exact ⟨by rw [HR.out.1, HR.out.2.1, HR.out.2.2]; rfl, Below.setRow6 X3.out (Nat.le_refl _) _⟩
      · have hr := HRES2.out hcase
        obtain ⟨hn1, hn2⟩ := HNO.out hr
        have HR := Lib.hid (And.intro hr (And.intro hn1 hn2))
        have hbb : (((pn : Int) == 0) == ((c : Int) == 0)) = false := by
          rw [beq_eq_false_iff_ne, Ne, Bool.eq_iff_iff]; simp; omega
        rw [hbb]
        clear hr hn1 hn2 HRES HRES2 HNO hbb hcase
        go_wp2_with (refine wpList_store_row rfl 65 (.tmp 2) (.tmp 47) rfl w.heap.size _ rfl rfl 65 (slabA 0 0) X1.out (by rw [slabA_zero, slabA_size]; exact info_slab) (by rw [slabA_zero]) zero_one ?_)
        (try simp only [Exit.inBlock, Exit.then])
        rw [slabA_zero]
        refine bodyPost_ret (results_cell_tmp rfl _ _ w.heap.size 65 (slabA 0 0) (0, 0) _ rfl (X1.out.row 0 0) Tryz.underlying65 rfl (by rw [slabA_size]; exact info_slab)) rfl ?_
        exact ⟨by rw [HR.out.1, HR.out.2.1, HR.out.2.2]; rfl, Below.setRow6 X3.out (Nat.le_refl _) _⟩
theorem rs_of (n : Nat) (w : World) :
    Calls Tryz.prog 26 #[.int .u64 n] w fun e w' => e = .returned (.tuple #[.agg (slabA (S.cls n) (S.tkn n)), .bool (S.rgt n)]) ∧ Below w.heap.size w w' := by
  by_cases h : n < 196608
  · exact rs_of_low n w h
  · have hr : S.rgt n = false := by
      unfold S.rgt
      rw [decide_eq_false_iff_not]
      omega
    have e1 : S.cls n = 0 := by simp [S.cls, hr]
    have e2 : S.tkn n = 0 := by simp [S.tkn, hr]
    rw [hr, e1, e2]
    exact rs_of_high n w (by omega)
end Go.Proofs.YtaceogpdjbikiaaGreatDoor
namespace Go.Proofs.YtaceogpdjbikiaaGreatDoor

open Go.RowKit

/-- A slab in new memory, behind a call. -/
theorem slab_new {w w5 : World} (hb : Below w.heap.size w w5) (c t : Nat) : SlabAt (w5.alloc (.cells (slabA c t) 65 (0, 0))) w5.heap.size c t ∧ (∀ m, Below w.heap.size w ((w5.alloc (.cells (slabA c t) 65 (0, 0))).drewN m)) ∧ w.heap.size ≤ w5.heap.size :=
  ⟨SlabAt.new w5 c t, fun m => below_drewN' (hb.alloc hb.size _) m, hb.size⟩
set_option maxRecDepth 100000 in
theorem rs_list (n : Nat) (w : World) :
    Calls Tryz.prog 52 #[.int .u64 n] w (LsPost w (S.ls (S.tkn n) 16)) := by
  obtain ⟨i0, hi, hz0, hz1, hz2⟩ := info_parts info_i64
  have HOF := fun W => Lib.hid (rs_of n W)
  generalize S.tkn n = t at *
  generalize S.cls n = c at *
  generalize S.rgt n = rr at *
  go_enter Tryz.func52, Tryz.ntmps52
  go_wp2_with fail
  refine ((HOF _).out).mono ?_
  clear HOF
  rintro e w5 ⟨rfl, hb5⟩
  go_upto_region 2 with (refine wpList_store_row rfl 65 (.tmp 3) (.tmp 10) rfl _ (slabA c t) rfl rfl 65 _ (heap_alloc_new w5 _) (by rw [slabA_size]; exact info_slab) (by rw [slabA_zero, slabA_size, slabA_size]) (slabA_one c t) ?_)
  rw [World.setRow_alloc_new]
  obtain ⟨s1, s2, _⟩ := slab_new hb5 c t
  generalize w5.alloc (.cells (slabA c t) 65 (0, 0)) = W6 at *
  generalize w5.heap.size = g at *
  have S1 := Lib.hid s1; have S2 := Lib.hid s2
  clear s1 s2 hb5
  go_wp2_with fail
  go_loopw [5, 6] (fun l k wr => ∃ j : Nat, j ≤ 16 ∧ k = .int .i64 j ∧ wr.ownsRow W6.heap.size 3 1 l (S.ls t j).length ((S.ls t j).map (Value.int .i64)) ∧ Below W6.heap.size W6 wr) (fun _ k _ => 16 - (intOf k).toNat)
  case atStart => exact ⟨0, by omega, rfl, owns_nil, Below.refl _ _⟩
  case round =>
    obtain ⟨j, hj, rfl, hown, hbel⟩ := hrel
    have HO := Lib.hid hown
    have HBE := Lib.hid hbel
    obtain ⟨a0, c0, rfl, _, _⟩ := owns_form hown
    have hlen : (S.ls t j).length ≤ 16 := by rw [S.ls_length]; exact Nat.le_trans (S.pc_le t j) (by omega)
    clear hown hbel
    by_cases hlt : j < 16
    · have hcell : wr.cell? ⟨g, 1 + j, none⟩ = some (.bool (t.testBit j)) := (S1.out.below HBE.out).bit hlt
      have HSU : Hid (S.ls t (j + 1) = S.ls t j ++ (if t.testBit j then [(j : Int)] else [])) := rfl
      cases hbit : t.testBit j with
      | false =>
        rw [hbit] at hcell
        have HS2 : Hid (S.ls t (j + 1) = S.ls t j) := by show _ = _; rw [HSU.out, hbit]; simp
        clear hbit
        generalize S.ls t j = L at *
        go_wp2
        go_roundw
        case rel => exact ⟨j + 1, by omega, by go_num, by rw [HS2.out]; exact owns_below HO.out (below_drewN' (Below.refl _ _) 0), HBE.out⟩
        case measure => simp [intOf]; omega
      | true =>
        rw [hbit] at hcell
        have HS2 : Hid (S.ls t (j + 1) = S.ls t j ++ [(j : Int)]) := by show _ = _; rw [HSU.out, hbit]; simp
        clear hbit
        generalize S.ls t j = L at *
        have HO3 : Hid (∀ o, (wr.alloc o).ownsRow W6.heap.size 3 1 (.slice a0 L.length c0) L.length (L.map (Value.int .i64))) := fun o => owns_below HO.out ((Below.refl _ _).alloc (Nat.le_refl _) o)
        have HB3 : Hid (∀ o, Below W6.heap.size W6 (wr.alloc o)) := fun o => HBE.out.alloc HBE.out.size o
        have HI1 : Hid (∀ t, IsInts .i64 (wr.alloc (.cells #[.int .i64 (j : Int)] t (0, 0))) (.slice (some ⟨wr.heap.size, 0, none⟩) 1 1) [(j : Int)]) := fun t => isInts_new .i64 wr [(j : Int)] t (0, 0) (by intro z hz; obtain rfl := List.mem_singleton.1 hz; exact wf_small (by omega) (by omega)) (by unfold maxLen; simp)
        go_wp2_with (at_builtin; refine wpList_append_ints rfl (.tmp 20) (.tmp 22) 37 rfl .i64 W6.heap.size 3 i0 _ 8 Tryz.underlying37 hi hz0 hz1 hz2 rfl _ _ _ rfl (HO3.out _) _ 1 1 _ rfl (HI1.out _) (by unfold maxLen; omega) (by omega) (HB3.out _).size ?_)
        intro v' w7 hown' hgr
        have HO5 : Hid (w7.ownsRow W6.heap.size 3 1 v' (S.ls t (j + 1)).length ((S.ls t (j + 1)).map (Value.int .i64))) := by
          show World.ownsRow _ _ _ _ _ _ _
          rw [HS2.out]
          simpa using hown'
        have HB5 : Hid (Below W6.heap.size W6 w7) := (HB3.out _).grown hgr (HB3.out _).size (fun k hk => owns_block HO.out k hk)
        clear hown' hgr
        go_wp2
        go_roundw
        case rel => exact ⟨j + 1, by omega, by go_num, HO5.out, HB5.out⟩
        case measure => simp [intOf]; omega
    · obtain rfl : j = 16 := by omega
      have HI := Lib.hid (IsInts.of_own HO.out (ls_wf t 16 (Nat.le_refl _)))
      have HB9 : Hid (Below w.heap.size w wr) := (S2.out 0).trans (HBE.out.mono (S2.out 0).size)
      go_wp2
      go_ret
      exact ⟨_, _, rfl, HI.out, HB9.out⟩

/-- What Next asks: the lowest one that is not taken. -/
theorem nxt_code {n : Nat} {c : Int} (hn : n < 2 ^ 64) (hr : S.rgt n = true) (hc : S.cls n = 0 ∨ (S.cls n : Int) = c) :
    (S.nxt n c = -1 ∧ ∀ i : Nat, i < S.blk c → (S.tkn n).testBit i = true) ∨ ∃ k : Nat, S.nxt n c = (k : Int) ∧ k < S.blk c ∧ (S.tkn n).testBit k = false ∧ ∀ i : Nat, i < k → (S.tkn n).testBit i = true := by
  by_cases h12 : c = 1 ∨ c = 2
  · refine S.nxt_of hn (decide_eq_true ⟨h12, ?_⟩)
    rcases hc with hc | hc
    · left
      rcases S.shape n with ⟨h, _⟩ | ⟨_, h1, h2⟩
      · rw [h] at hr; cases hr
      · omega
    · exact .inr hc
  · left
    have e0 : S.blk c = 0 := by unfold S.blk; rw [if_neg (by omega), if_neg (by omega)]
    exact ⟨S.nxt_not (decide_eq_false (fun h => h12 h.1)), fun i hi => by omega⟩
theorem nxt_stop {n : Nat} {c : Int} (h : ¬ (S.rgt n = true ∧ (S.cls n = 0 ∨ (S.cls n : Int) = c))) : S.nxt n c = -1 := by
  apply S.nxt_not
  cases hs : S.sui n c with
  | false => rfl
  | true =>
    obtain ⟨_, h2⟩ := S.sui_blk hs
    refine absurd ⟨S.sui_rgt hs, ?_⟩ h
    rcases h2 with rfl | h2
    · exact .inl rfl
    · exact .inr h2
set_option maxRecDepth 100000 in
theorem rs_next (n : Nat) (c : Int) (w : World) (hn : n < 2 ^ 64) :
    Calls Tryz.prog 39 #[.int .u64 n, .int .i64 c] w fun e w' => e = .returned (.int .i64 (S.nxt n c)) ∧ Below w.heap.size w w' := by
  have HOF := fun W => Lib.hid (rs_of n W)
  have HST := Lib.hid (fun h => nxt_stop (n := n) (c := c) h)
  have HGO := Lib.hid (fun h1 h2 => nxt_code (n := n) (c := c) hn h1 h2)
  have HB : Hid (∀ W : World, Calls Tryz.prog 38 #[.int .i64 c] W fun e w' => e = .returned (.int .i64 (S.blk c : Nat)) ∧ ∃ m, w' = W.drewN m) := fun W => rs_blocks _ W
  have hb16 := S.blk_le c
  clear hn
  generalize S.nxt n c = nx at *
  generalize S.tkn n = t at *
  generalize S.cls n = k at *
  generalize S.rgt n = rr at *
  generalize S.blk c = bk at *
  go_enter Tryz.func39, Tryz.ntmps39
  go_wp2_with fail
  refine ((HOF _).out).mono ?_
  clear HOF
  rintro e w5 ⟨rfl, hb5⟩
  go_upto_region 2 with (refine wpList_store_row rfl 65 (.tmp 5) (.tmp 11) rfl _ (slabA k t) rfl rfl 65 _ (heap_alloc_new w5 _) (by rw [slabA_size]; exact info_slab) (by rw [slabA_zero, slabA_size, slabA_size]) (slabA_one k t) ?_)
  rw [World.setRow_alloc_new]
  obtain ⟨s1, s2, _⟩ := slab_new hb5 k t
  generalize w5.alloc (.cells (slabA k t) 65 (0, 0)) = W6 at *
  generalize w5.heap.size = g at *
  have S1 := Lib.hid s1; have S2 := Lib.hid s2
  clear s1 s2 hb5
  have hc0 := S1.out.cls
  cases rr with
  | false =>
    have HNX := Lib.hid (HST.out (fun h => by cases h.1))
    clear HST HGO
    go_wp2
    go_ret
    exact ⟨by rw [HNX.out]; rfl, S2.out 0⟩
  | true =>
    by_cases hk : k = 0 ∨ (k : Int) = c
    · have HG := Lib.hid (HGO.out rfl hk)
      clear HST HGO
      have hk2 : (((k : Int) != 0) = false) ∨ (((k : Int) != 0) = true ∧ ((k : Int) != c) = false) := by
        by_cases h0 : k = 0
        · left; subst h0; rfl
        · right
          refine ⟨by simp; omega, ?_⟩
          have : (k : Int) = c := by omega
          simp [this]
      clear hk
      have hcell : ∀ (j m : Nat), j < 16 → (W6.drewN m).cell? ⟨g, 1 + j, none⟩ = some (.bool (t.testBit j)) := fun j m hj => SlabAt.bit (w := W6.drewN m) (by exact S1.out) hj
      have HCELL := Lib.hid hcell
      clear hcell
      rcases hk2 with hk2 | ⟨hk2, hk3⟩
      all_goals
        go_upto_region 4 with fail
        go_wp2_with fail
        go_loopw [4, 7] (fun r i wr => ∃ (j : Nat) (m : Nat), j ≤ bk ∧ i = .int .i64 j ∧ r = .int .i64 0 ∧ wr = W6.drewN m ∧ ∀ q : Nat, q < j → t.testBit q = true) (fun _ i _ => bk - (intOf i).toNat)
        case atStart => exact ⟨0, 0, by omega, rfl, rfl, rfl, fun q hq => by omega⟩
        case round =>
          obtain ⟨j, m, hj, rfl, rfl, rfl, hall⟩ := hrel
          have HALL := Lib.hid hall
          clear hall
          by_cases hlt : j < bk
          · have hcell := fun m => HCELL.out j m (by omega)
            cases hbit : t.testBit j with
            | false =>
              have HNX : Hid (nx = (j : Int)) := by
                show _ = _
                rcases HG.out with ⟨_, h⟩ | ⟨q, h1, h2, h3, h4⟩
                · rw [h j hlt] at hbit; cases hbit
                · rw [h1]
                  have : ¬ q < j := fun h => by rw [HALL.out q h] at h3; cases h3
                  have : ¬ j < q := fun h => by rw [h4 j h] at hbit; cases hbit
                  omega
              rw [hbit] at hcell
              clear hbit
              go_wp2_with fail
              refine (HB.out _).mono ?_
              rintro e w' ⟨rfl, m2, rfl⟩
              go_wp2
              go_ret
              exact ⟨by rw [HNX.out]; rfl, by exact S2.out _⟩
            | true =>
              have HBIT := Lib.hid hbit
              rw [hbit] at hcell
              clear hbit
              go_wp2_with fail
              refine (HB.out _).mono ?_
              rintro e w' ⟨rfl, m2, rfl⟩
              go_wp2
              go_roundw
              case rel => exact ⟨j + 1, _, by omega, by go_num, rfl, rfl, fun q hq => by
                by_cases e : q = j
                · rw [e]; exact HBIT.out
                · exact HALL.out q (by omega)⟩
              case measure => simp [intOf]; omega
          · obtain rfl : j = bk := by omega
            have HNX : Hid (nx = -1) := by
              show _ = _
              rcases HG.out with ⟨h, _⟩ | ⟨q, h1, h2, h3, h4⟩
              · exact h
              · rw [HALL.out q h2] at h3; cases h3
            go_wp2_with fail
            refine (HB.out _).mono ?_
            rintro e w' ⟨rfl, m2, rfl⟩
            go_wp2
            go_ret
            exact ⟨by rw [HNX.out]; rfl, by exact S2.out _⟩
    · have HNX := Lib.hid (HST.out (fun h => hk h.2))
      have e1 : ((k : Int) != 0) = true := by simp; omega
      have e2 : ((k : Int) != c) = true := by simp; omega
      clear HST HGO hk
      go_wp2
      go_ret
      exact ⟨by rw [HNX.out]; rfl, S2.out 0⟩
end Go.Proofs.YtaceogpdjbikiaaGreatDoor
namespace Go.Proofs.YtaceogpdjbikiaaGreatDoor

open Go.RowKit

theorem tak_yes {n : Nat} {c a : Int} (hr : S.rgt n = true) (hc : S.cls n = 0 ∨ (S.cls n : Int) = c) (h0 : 0 ≤ a) (h1 : a < (S.blk c : Int)) (hb : (S.tkn n).testBit a.toNat = false) : S.tak n c a = true := by
  have h12 : c = 1 ∨ c = 2 := by
    unfold S.blk at h1
    split at h1
    · left; assumption
    · split at h1
      · right; assumption
      · omega
  have hs : S.sui n c = true := by
    refine decide_eq_true ⟨h12, ?_⟩
    rcases hc with hc | hc
    · left
      rcases S.shape n with ⟨h, _⟩ | ⟨_, h3, h4⟩
      · rw [h] at hr; cases hr
      · omega
    · exact .inr hc
  unfold S.tak S.has
  rw [hs, hb, decide_eq_true (And.intro h0 h1)]
  simp
theorem tak_no {n : Nat} {c a : Int} (h : ¬ (S.rgt n = true ∧ (S.cls n = 0 ∨ (S.cls n : Int) = c) ∧ 0 ≤ a ∧ a < (S.blk c : Int) ∧ (S.tkn n).testBit a.toNat = false)) : S.tak n c a = false ∧ S.tkW n c a = n := by
  cases ht : S.tak n c a with
  | false => exact ⟨rfl, S.take_not ht⟩
  | true =>
    obtain ⟨k, rfl, t1, t2, t3, t4, t5, t6, t7, _⟩ := S.take_of ht
    refine absurd ⟨t7, ?_, by omega, by omega, by rwa [Int.toNat_natCast]⟩ h
    rcases t4 with rfl | t4
    · exact .inl rfl
    · exact .inr t4
theorem bit_set (t k i : Nat) (h : t.testBit k = false) : (t + 2 ^ k).testBit i = if i = k then true else t.testBit i := by
  rw [S.bit_add h]
  by_cases e : i = k
  · subst e; simp
  · rw [if_neg e, decide_eq_false (fun x => e x.symm), Bool.or_false]
theorem bit_clear (t k i : Nat) (h : t.testBit k = true) : (t - 2 ^ k).testBit i = if i = k then false else t.testBit i := by
  rw [S.bit_sub h]
  by_cases e : i = k
  · subst e; simp
  · rw [if_neg e, decide_eq_false (fun x => e x.symm)]; simp
set_option maxRecDepth 100000 in
theorem rs_take (n : Nat) (c a : Int) (w : World) (_hn : n < 2 ^ 64) :
    Calls Tryz.prog 40 #[.int .u64 n, .int .i64 c, .int .i64 a] w fun e w' => e = .returned (.tuple #[.int .u64 (S.tkW n c a : Nat), .bool (S.tak n c a)]) ∧ Below w.heap.size w w' := by
  have HOF := fun W => Lib.hid (rs_of n W)
  have HNO := Lib.hid (fun h => tak_no (n := n) (c := c) (a := a) h)
  have HYES : Hid (S.tak n c a = true → ∃ k cn : Nat, a = (k : Int) ∧ c = (cn : Int) ∧ k < 16 ∧ cn ≤ 2 ∧ (S.tkn n).testBit k = false ∧ S.tkW n c a = cn * 65536 + (S.tkn n + 2 ^ k) ∧ S.tkn n + 2 ^ k < 2 ^ 16) := fun h => by
    obtain ⟨k, rfl, t1, t2, t3, t4, t5, t6, t7, t8, _⟩ := S.take_of h
    exact ⟨k, c.toNat, rfl, by omega, t2, by omega, t5, t8, Nat.lt_of_lt_of_le t6 (Nat.pow_le_pow_right (by decide) (S.blk_le c))⟩
  have HTK := Lib.hid (fun hr hc h0 h1 hb => tak_yes (n := n) (c := c) (a := a) hr hc h0 h1 hb)
  have HB : Hid (∀ W : World, Calls Tryz.prog 38 #[.int .i64 c] W fun e w' => e = .returned (.int .i64 (S.blk c : Nat)) ∧ ∃ m, w' = W.drewN m) := fun W => rs_blocks _ W
  have hb16 := S.blk_le c
  generalize S.tkW n c a = x at *
  generalize S.tak n c a = yes at *
  generalize S.tkn n = t at *
  generalize S.cls n = k at *
  generalize S.rgt n = rr at *
  generalize S.blk c = bk at *
  go_enter Tryz.func40, Tryz.ntmps40
  go_wp2_with fail
  refine ((HOF _).out).mono ?_
  clear HOF
  rintro e w5 ⟨rfl, hb5⟩
  go_upto_region 2 with (refine wpList_store_row rfl 65 (.tmp 8) (.tmp 13) rfl _ (slabA k t) rfl rfl 65 _ (heap_alloc_new w5 _) (by rw [slabA_size]; exact info_slab) (by rw [slabA_zero, slabA_size, slabA_size]) (slabA_one k t) ?_)
  rw [World.setRow_alloc_new]
  obtain ⟨s1, s2, s3⟩ := slab_new hb5 k t
  generalize w5.alloc (.cells (slabA k t) 65 (0, 0)) = W6 at *
  generalize w5.heap.size = g at *
  have S1 := Lib.hid s1; have S2 := Lib.hid s2; have S3 := Lib.hid s3
  clear s1 s2 s3 hb5
  have hc0 := S1.out.cls
  cases rr with
  | false =>
    have HN := Lib.hid (HNO.out (fun h => by cases h.1))
    clear HNO HYES HTK
    go_wp2
    go_ret2
    exact ⟨by rw [HN.out.1, HN.out.2]; rfl, S2.out 0⟩
  | true =>
    by_cases hk : k = 0 ∨ (k : Int) = c
    · have HK := Lib.hid hk
      have hk2 : (((k : Int) != 0) = false) ∨ (((k : Int) != 0) = true ∧ ((k : Int) != c) = false) := by
        by_cases h0 : k = 0
        · left; subst h0; rfl
        · right
          refine ⟨by simp; omega, ?_⟩
          have : (k : Int) = c := by omega
          simp [this]
      clear hk
      by_cases ha : a < 0
      · have HN := Lib.hid (HNO.out (fun h => by omega))
        clear HNO HYES HTK HK
        rcases hk2 with hk2 | ⟨hk2, hk3⟩
        all_goals (go_wp2; go_ret2; exact ⟨by rw [HN.out.1, HN.out.2]; rfl, S2.out 0⟩)
      · by_cases ha2 : (bk : Int) ≤ a
        · have HN := Lib.hid (HNO.out (fun h => by omega))
          clear HNO HYES HTK HK
          rcases hk2 with hk2 | ⟨hk2, hk3⟩
          all_goals
            go_wp2_with fail
            refine (HB.out _).mono ?_
            rintro e w' ⟨rfl, m1, rfl⟩
            go_wp2
            go_ret2
            exact ⟨by rw [HN.out.1, HN.out.2]; rfl, by exact S2.out _⟩
        · cases hbit : t.testBit a.toNat with
          | true =>
            have HN := Lib.hid (HNO.out (fun h => by rw [hbit] at h; cases h.2.2.2.2))
            obtain ⟨p, rfl⟩ := Int.eq_ofNat_of_zero_le (Int.not_lt.1 ha)
            rw [Int.toNat_natCast] at hbit
            have hcell : ∀ m, (W6.drewN m).cell? ⟨g, 1 + p, none⟩ = some (.bool true) := fun m => by
              have := SlabAt.bit (w := W6.drewN m) (b := g) (c := k) (t := t) (by exact S1.out) (i := p) (by omega)
              rwa [hbit] at this
            clear HNO HYES HTK HK hbit
            rcases hk2 with hk2 | ⟨hk2, hk3⟩
            all_goals
              go_wp2_with fail
              refine (HB.out _).mono ?_
              rintro e w' ⟨rfl, m1, rfl⟩
              go_wp2
              go_ret2
              exact ⟨by rw [HN.out.1, HN.out.2]; rfl, by exact S2.out _⟩
          | false =>
            obtain rfl : yes = true := HTK.out rfl HK.out (Int.not_lt.1 ha) (Int.not_le.1 ha2) hbit
            obtain ⟨p, cn, rfl, rfl, hp, hcn, hbit2, hx, hsum⟩ := HYES.out rfl
            have hcell : ∀ m, (W6.drewN m).cell? ⟨g, 1 + p, none⟩ = some (.bool false) := fun m => by
              have := SlabAt.bit (w := W6.drewN m) (b := g) (c := k) (t := t) (by exact S1.out) (i := p) hp
              rwa [hbit2] at this
            have HX := Lib.hid hx
            have HBIT := Lib.hid hbit2
            have HW := fun W => Lib.hid (rs_word cn (t + 2 ^ p) W hcn hsum)
            clear HNO HYES HTK HK hbit hbit2 hx hsum
            have T3 : Hid (∀ m, SlabAt ((W6.drewN m).setCell ⟨g, 0, none⟩ (.int .i64 (cn : Int))) g cn t ∧ Below w.heap.size w ((W6.drewN m).setCell ⟨g, 0, none⟩ (.int .i64 (cn : Int)))) := fun m => ⟨SlabAt.setc (c := k) (by exact S1.out) cn, (S2.out m).setCell (by exact S3.out) _⟩
            have f0 := fun m => SlabAt.free (w := W6.drewN m) (b := g) (c := k) (t := t) (by exact S1.out) 0
            have hc0m := fun m => SlabAt.cls (w := W6.drewN m) (b := g) (c := k) (t := t) (by exact S1.out)
            have HFIN : Hid (∀ W7 : World, SlabAt W7 g cn t → SlabAt (W7.setCell ⟨g, 1 + p, none⟩ (.bool true)) g cn (t + 2 ^ p)) := fun W7 h => h.set hp true (fun i _ => bit_set t p i HBIT.out)
            rcases hk2 with hk2 | ⟨hk2, hk3⟩
            all_goals
              go_wp2_with fail
              refine (HB.out _).mono ?_
              rintro e w' ⟨rfl, m1, rfl⟩
              go_upto_region 5 with fail
              obtain ⟨x1, x2⟩ := T3.out m1
              generalize (W6.drewN m1).setCell ⟨g, 0, none⟩ (.int .i64 (cn : Int)) = W7 at *
              have X1 := Lib.hid x1; have X2 := Lib.hid x2
              have y1 := X1.out.bit hp
              have y2 := X1.out.free (1 + p)
              clear x1 x2 hcell f0 hc0m hc0
              go_upto_region 6 with fail
              clear y1 y2
              have z1 := HFIN.out W7 X1.out
              have z2 : Below w.heap.size w (W7.setCell ⟨g, 1 + p, none⟩ (.bool true)) := X2.out.setCell (by exact S3.out) _
              generalize W7.setCell ⟨g, 1 + p, none⟩ (.bool true) = W8 at *
              have Z1 := Lib.hid z1; have Z2 := Lib.hid z2
              clear z1 z2 X1 X2
              go_wp2_with (refine wpList_load_row rfl 65 (.tmp 8) rfl g rfl 65 (slabA cn (t + 2 ^ p)) (0, 0) _ Z1.out Tryz.underlying65 rfl (by rw [slabA_size]; exact info_slab) ?_)
              refine ((HW _).out).mono ?_
              rintro e w9 ⟨rfl, hb9⟩
              have HB9 : Hid (Below w.heap.size w w9) := Z2.out.trans (hb9.mono Z2.out.size)
              clear hb9
              go_wp2
              go_ret2
              exact ⟨by rw [HX.out]; rfl, HB9.out⟩
    · have HN := Lib.hid (HNO.out (fun h => hk h.2.1))
      have e1 : ((k : Int) != 0) = true := by simp; omega
      have e2 : ((k : Int) != c) = true := by simp; omega
      clear HNO HYES HTK hk
      go_wp2
      go_ret2
      exact ⟨by rw [HN.out.1, HN.out.2]; rfl, S2.out 0⟩
end Go.Proofs.YtaceogpdjbikiaaGreatDoor
namespace Go.Proofs.YtaceogpdjbikiaaGreatDoor

open Go.RowKit

theorem drop_yes {n : Nat} {a : Int} (h : S.has n a = true) : ∃ k : Nat, a = (k : Int) ∧ k < 16 ∧ S.cls n ≤ 2 ∧ (S.tkn n).testBit k = true ∧ S.tkn n - 2 ^ k < 2 ^ 16 ∧ S.drW n a = (if S.tkn n - 2 ^ k = 0 then 0 else S.cls n) * 65536 + (S.tkn n - 2 ^ k) := by
  obtain ⟨k, rfl, d1, d2, d3, d4, d5, d6, d7, d8, d9, d10, d11⟩ := S.drop_of h
  have hlt := S.tkn_lt n
  refine ⟨k, rfl, d2, by omega, d4, Nat.lt_of_le_of_lt (Nat.sub_le _ _) hlt, ?_⟩
  rcases S.shape (S.drW n (k : Int)) with ⟨h1, _⟩ | ⟨_, h1, _⟩
  · rw [h1] at d9; cases d9
  · rw [h1, d10, d11]
    by_cases e : S.tkn n = 2 ^ k
    · rw [if_pos e, if_pos (by omega)]
    · rw [if_neg e, if_neg (by omega)]
theorem has_is {n : Nat} {a : Int} (h0 : 0 ≤ a) : S.has n a = (S.tkn n).testBit a.toNat := by
  unfold S.has
  rw [decide_eq_true h0, Bool.true_and]
theorem has_far {n : Nat} {a : Int} (h : ¬ (S.rgt n = true ∧ 0 ≤ a ∧ a < 16)) : S.has n a = false := by
  cases hh : S.has n a with
  | false => rfl
  | true =>
    have h1 := S.has_lt hh
    have h2 := S.blk_le (S.cls n)
    exact absurd ⟨S.has_rgt hh, h1.1, by omega⟩ h
set_option maxRecDepth 100000 in
theorem rs_drop (n : Nat) (a : Int) (w : World) (_hn : n < 2 ^ 64) :
    Calls Tryz.prog 47 #[.int .u64 n, .int .i64 a] w fun e w' => e = .returned (.tuple #[.int .u64 (S.drW n a : Nat), .bool (S.has n a)]) ∧ Below w.heap.size w w' := by
  have HOF := fun W => Lib.hid (rs_of n W)
  have HNO : Hid (S.has n a = false → S.drW n a = n) := S.drop_not
  have HFAR := Lib.hid (fun h => has_far (n := n) (a := a) h)
  have HIS := Lib.hid (fun h => has_is (n := n) (a := a) h)
  have HYES := Lib.hid (fun h => drop_yes (n := n) (a := a) h)
  generalize S.drW n a = x at *
  generalize S.has n a = yes at *
  generalize S.tkn n = t at *
  generalize S.cls n = k at *
  generalize S.rgt n = rr at *
  go_enter Tryz.func47, Tryz.ntmps47
  go_wp2_with fail
  refine ((HOF _).out).mono ?_
  clear HOF
  rintro e w5 ⟨rfl, hb5⟩
  go_upto_region 2 with (refine wpList_store_row rfl 65 (.tmp 6) (.tmp 11) rfl _ (slabA k t) rfl rfl 65 _ (heap_alloc_new w5 _) (by rw [slabA_size]; exact info_slab) (by rw [slabA_zero, slabA_size, slabA_size]) (slabA_one k t) ?_)
  rw [World.setRow_alloc_new]
  obtain ⟨s1, s2, s3⟩ := slab_new hb5 k t
  generalize w5.alloc (.cells (slabA k t) 65 (0, 0)) = W6 at *
  generalize w5.heap.size = g at *
  have S1 := Lib.hid s1; have S2 := Lib.hid s2; have S3 := Lib.hid s3
  clear s1 s2 s3 hb5
  by_cases hfar : rr = true ∧ 0 ≤ a ∧ a < 16
  · obtain ⟨rfl, h0, h16⟩ := hfar
    obtain ⟨p, rfl⟩ := Int.eq_ofNat_of_zero_le h0
    have hyes : yes = t.testBit p := by have := HIS.out h0; rwa [Int.toNat_natCast] at this
    have hp : p < 16 := by omega
    have hcell := S1.out.bit hp
    cases hbit : t.testBit p with
    | false =>
      rw [hbit] at hcell hyes
      subst hyes
      have HN := Lib.hid (HNO.out rfl)
      clear HNO HFAR HIS HYES hbit
      go_wp2
      go_ret2
      exact ⟨by rw [HN.out]; rfl, S2.out 0⟩
    | true =>
      rw [hbit] at hcell hyes
      subst hyes
      obtain ⟨q, hq, _, hk2, hbit2, hsum, hx⟩ := HYES.out rfl
      obtain rfl : q = p := by omega
      have HX := Lib.hid hx
      have y2 := S1.out.free (1 + q)
      have z1 := S1.out.set (t' := t - 2 ^ q) hp false (fun i _ => bit_clear t q i hbit)
      have z2 : Below w.heap.size w (W6.setCell ⟨g, 1 + q, none⟩ (.bool false)) := (S2.out 0).setCell (by exact S3.out) _
      have Z1 := Lib.hid z1; have Z2 := Lib.hid z2
      have HPC : Hid (S.pc (t - 2 ^ q) 16 = 0 ↔ t - 2 ^ q = 0) := S.pc_none hsum
      have HCT := fun W => Lib.hid (rs_count k (t - 2 ^ q) W)
      have HW := fun W => Lib.hid (rs_word (if t - 2 ^ q = 0 then 0 else k) (t - 2 ^ q) W (by split <;> omega) hsum)
      have hple := S.pc_le (t - 2 ^ q) 16
      clear HNO HFAR HIS HYES hbit hbit2 hsum hx z1 z2 hq
      generalize S.pc (t - 2 ^ q) 16 = pn at *
      generalize t - 2 ^ q = t2 at *
      go_upto_region 5 with fail
      generalize W6.setCell ⟨g, 1 + q, none⟩ (.bool false) = W8 at *
      clear hcell y2 S1 S2
      go_wp2_with (refine wpList_load_row rfl 65 (.tmp 6) rfl g rfl 65 (slabA k t2) (0, 0) _ Z1.out Tryz.underlying65 rfl (by rw [slabA_size]; exact info_slab) ?_)
      refine ((HCT _).out).mono ?_
      rintro e w9 ⟨rfl, hb9⟩
      have HB9 : Hid (Below w.heap.size w w9) := Z2.out.trans (hb9.mono Z2.out.size)
      have R9 : Hid (SlabAt w9 g k t2) := Z1.out.below hb9
      clear hb9 HCT
      by_cases hz : t2 = 0
      · subst hz
        obtain rfl : pn = 0 := HPC.out.2 rfl
        rw [if_pos rfl] at HW HX
        have c9 := R9.out.cls
        have f9 := R9.out.free 0
        have v1 := R9.out.setc 0
        have v2 : Below w.heap.size w (w9.setCell ⟨g, 0, none⟩ (.int .i64 ((0 : Nat) : Int))) := HB9.out.setCell (by exact S3.out) _
        have V1 := Lib.hid v1; have V2 := Lib.hid v2
        clear v1 v2 HPC hple
        go_upto_region 7 with fail
        rw [show (0 : Int) = ((0 : Nat) : Int) from rfl]
        generalize w9.setCell ⟨g, 0, none⟩ (.int .i64 ((0 : Nat) : Int)) = Wb at *
        clear c9 f9 R9 HB9
        go_wp2_with (refine wpList_load_row rfl 65 (.tmp 6) rfl g rfl 65 (slabA 0 0) (0, 0) _ V1.out Tryz.underlying65 rfl (by rw [slabA_size]; exact info_slab) ?_)
        refine ((HW _).out).mono ?_
        rintro e wc ⟨rfl, hbc⟩
        have HBC : Hid (Below w.heap.size w wc) := V2.out.trans (hbc.mono V2.out.size)
        clear hbc
        go_wp2
        go_ret2
        exact ⟨by rw [HX.out]; rfl, HBC.out⟩
      · have hpn : ((pn : Int) == 0) = false := by
          have := mt HPC.out.1 hz
          simpa using this
        rw [if_neg hz] at HW HX
        clear HPC hple hz
        go_wp2_with (refine wpList_load_row rfl 65 (.tmp 6) rfl g rfl 65 (slabA k t2) (0, 0) _ R9.out Tryz.underlying65 rfl (by rw [slabA_size]; exact info_slab) ?_)
        refine ((HW _).out).mono ?_
        rintro e wc ⟨rfl, hbc⟩
        have HBC : Hid (Below w.heap.size w wc) := HB9.out.trans (hbc.mono HB9.out.size)
        clear hbc
        go_wp2
        go_ret2
        exact ⟨by rw [HX.out]; rfl, HBC.out⟩
  · have hy := HFAR.out hfar
    subst hy
    have HN := Lib.hid (HNO.out rfl)
    have hcases : rr = false ∨ rr = true ∧ (a < 0 ∨ 0 ≤ a ∧ 16 ≤ a) := by
      cases rr with
      | false => exact .inl rfl
      | true =>
        refine .inr ⟨rfl, ?_⟩
        have : ¬ (0 ≤ a ∧ a < 16) := fun h => hfar ⟨rfl, h⟩
        omega
    clear HNO HFAR HIS HYES hfar
    rcases hcases with rfl | ⟨rfl, ha | ⟨ha, ha2⟩⟩
    all_goals (go_wp2; go_ret2; exact ⟨by rw [HN.out]; rfl, S2.out 0⟩)
end Go.Proofs.YtaceogpdjbikiaaGreatDoor
