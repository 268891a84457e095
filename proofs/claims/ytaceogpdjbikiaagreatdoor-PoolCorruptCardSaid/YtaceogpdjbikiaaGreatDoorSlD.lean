
/- The reference's slab of layer 6 as a row of seventeen cells; the contracts of its Blocks, Lines, count, Word. What was there stays. -/
import Derived.Test.YtaceogpdjbikiaaGreatDoorSl
import Derived.Laws.Rows
import Derived.BigQuiet
namespace Go.Proofs.YtaceogpdjbikiaaGreatDoor

open Go.RowKit

def slabL (c t : Nat) : List Value := .int .i64 (c : Int) :: (List.range 16).map fun i => Value.bool (t.testBit i)
def slabA (c t : Nat) : Array Value := (slabL c t).toArray
theorem slabL_length (c t : Nat) : (slabL c t).length = 17 := by simp [slabL]
theorem slabA_size (c t : Nat) : (slabA c t).size = 17 := by simp [slabA, slabL]
theorem slabA_cls (c t : Nat) : (slabA c t)[0]? = some (.int .i64 (c : Int)) := rfl
theorem slabL_bit (c t : Nat) {i : Nat} (hi : i < 16) : (slabL c t)[1 + i]? = some (.bool (t.testBit i)) := by
  unfold slabL
  rw [Nat.add_comm 1 i, List.getElem?_cons_succ, List.getElem?_map, List.getElem?_range hi]
  rfl
theorem slabA_bit (c t : Nat) {i : Nat} (hi : i < 16) : (slabA c t)[1 + i]? = some (.bool (t.testBit i)) := by
  unfold slabA
  rw [List.getElem?_toArray]
  exact slabL_bit c t hi
theorem slabA_one (c t : Nat) : (slabA c t).all (·.oneCell') = true := by
  rw [Array.all_eq_true_iff_forall_mem]
  intro v hv
  have hv : v ∈ slabL c t := by simpa [slabA] using hv
  unfold slabL at hv
  rcases List.mem_cons.1 hv with rfl | hv
  · rfl
  · obtain ⟨i, _, rfl⟩ := List.mem_map.1 hv
    rfl
theorem slabA_ext {c t : Nat} {A : Array Value} (hs : A.size = 17) (h0 : A[0]? = some (.int .i64 (c : Int))) (h1 : ∀ i, i < 16 → A[1 + i]? = some (.bool (t.testBit i))) : A = slabA c t := by
  apply Array.ext_getElem?
  intro i
  by_cases hi : i < 17
  · by_cases h : i = 0
    · subst h; rw [h0, slabA_cls]
    · obtain ⟨j, rfl⟩ : ∃ j, i = 1 + j := ⟨i - 1, by omega⟩
      rw [h1 j (by omega), slabA_bit c t (by omega)]
  · rw [Array.getElem?_eq_none (by omega), Array.getElem?_eq_none (by rw [slabA_size]; omega)]
theorem slabA_set (c : Nat) {t t' k : Nat} (hk : k < 16) (b : Bool) (h : ∀ i, i < 16 → t'.testBit i = if i = k then b else t.testBit i) : (slabA c t).setIfInBounds (1 + k) (.bool b) = slabA c t' := by
  refine slabA_ext (by simp [slabA_size]) ?_ ?_
  · rw [Array.getElem?_setIfInBounds, if_neg (by omega), slabA_cls]
  · intro i hi
    rw [Array.getElem?_setIfInBounds, h i hi]
    by_cases e : i = k
    · subst e; rw [if_pos rfl, if_pos rfl, slabA_size, if_pos (by omega)]
    · rw [if_neg (by omega), if_neg e, slabA_bit c t hi]
theorem slabA_setc (c c' t : Nat) : (slabA c t).setIfInBounds 0 (.int .i64 (c' : Int)) = slabA c' t := by
  refine slabA_ext (by simp [slabA_size]) ?_ ?_
  · rw [Array.getElem?_setIfInBounds, if_pos rfl, slabA_size]; rfl
  · intro i hi
    rw [Array.getElem?_setIfInBounds, if_neg (by omega), slabA_bit c t hi]
theorem slabA_zero : #[.int .i64 0, .bool false, .bool false, .bool false, .bool false, .bool false, .bool false, .bool false, .bool false, .bool false, .bool false, .bool false, .bool false, .bool false, .bool false, .bool false, .bool false] = slabA 0 0 := by
  simp [slabA, slabL, List.range, List.range.loop]
theorem info_slab : (Tryz.prog.info? 65).map (·.size) = some 17 := by kernel_rfl
/-- A slab in a block. -/
def SlabAt (w : World) (b c t : Nat) : Prop := w.heap[b]? = some (.cells (slabA c t) 65 (0, 0))
theorem SlabAt.cls {w : World} {b c t : Nat} (h : SlabAt w b c t) : w.cell? ⟨b, 0, none⟩ = some (.int .i64 (c : Int)) := (cell_of_row w b 0 _ _ _ h).trans (slabA_cls c t)
theorem SlabAt.bit {w : World} {b c t : Nat} (h : SlabAt w b c t) {i : Nat} (hi : i < 16) : w.cell? ⟨b, 1 + i, none⟩ = some (.bool (t.testBit i)) := (cell_of_row w b (1 + i) _ _ _ h).trans (slabA_bit c t hi)
theorem SlabAt.free {w : World} {b c t : Nat} (h : SlabAt w b c t) (j : Nat) : w.frozen? ⟨b, j, none⟩ = false := frozen_of_row w b j _ _ h
theorem SlabAt.lt {w : World} {b c t : Nat} (h : SlabAt w b c t) : b < w.heap.size := (Array.getElem?_eq_some_iff.1 h).1
theorem SlabAt.below {w w' : World} {b c t : Nat} (h : SlabAt w b c t) (hb : Below w.heap.size w w') : SlabAt w' b c t := (hb.block b h.lt).trans h
theorem SlabAt.new (w : World) (c t : Nat) : SlabAt (w.alloc (.cells (slabA c t) 65 (0, 0))) w.heap.size c t := heap_alloc_new w _
theorem SlabAt.set {w : World} {b c t t' k : Nat} (h : SlabAt w b c t) (hk : k < 16) (v : Bool) (ht : ∀ i, i < 16 → t'.testBit i = if i = k then v else t.testBit i) : SlabAt (w.setCell ⟨b, 1 + k, none⟩ (.bool v)) b c t' := by
  have := heap_setCell_same w b (1 + k) _ _ (.bool v) h
  rwa [slabA_set c hk v ht] at this
theorem SlabAt.setc {w : World} {b c t : Nat} (h : SlabAt w b c t) (c' : Nat) : SlabAt (w.setCell ⟨b, 0, none⟩ (.int .i64 (c' : Int))) b c' t := by
  have := heap_setCell_same w b 0 _ _ (.int .i64 (c' : Int)) h
  rwa [slabA_setc] at this
theorem SlabAt.other {w : World} {b c t : Nat} (h : SlabAt w b c t) {p : Addr} (hp : b ≠ p.block) (v : Value) : SlabAt (w.setCell p v) b c t := (heap_setCell_other w p b v hp).trans h
theorem SlabAt.row {w : World} {b c t : Nat} (h : SlabAt w b c t) (c' t' : Nat) : SlabAt (w.setRow b (slabA c' t')) b c' t' := setRow_heap w b _ _ _ _ h
theorem SlabAt.row_other {w : World} {b c t g : Nat} (h : SlabAt w b c t) (hp : b ≠ g) (cs : Array Value) : SlabAt (w.setRow g cs) b c t := (setRow_other w g b cs hp).trans h
theorem Below.setRow6 {B : Nat} {a w : World} (h : Below B a w) {g : Nat} (hg : B ≤ g) (cs : Array Value) : Below B a (w.setRow g cs) :=
  h.trans ⟨rfl, rfl, rfl, by simp, fun k hk => setRow_other w g k cs (by omega)⟩

theorem rs_blocks (c : Int) (w : World) :
    Calls Tryz.prog 38 #[.int .i64 c] w fun e w' => e = .returned (.int .i64 (S.blk c : Nat)) ∧ ∃ m, w' = w.drewN m := by
  by_cases h1 : c = 1
  · subst h1
    go_enter Tryz.func38, Tryz.ntmps38
    go_wp2
    go_ret
    exact ⟨rfl, nodraw _⟩
  · by_cases h2 : c = 2
    · subst h2
      go_enter Tryz.func38, Tryz.ntmps38
      go_wp2
      go_ret
      exact ⟨rfl, nodraw _⟩
    · have HN : Hid (S.blk c = 0) := by show _ = _; unfold S.blk; rw [if_neg h1, if_neg h2]
      go_enter Tryz.func38, Tryz.ntmps38
      go_wp2
      go_ret
      exact ⟨ret_int (by rw [HN.out]; rfl), nodraw _⟩
theorem rs_lines (c : Int) (w : World) :
    Calls Tryz.prog 80 #[.int .i64 c] w fun e w' => e = .returned (.int .i64 (S.lns c : Nat)) ∧ ∃ m, w' = w.drewN m := by
  by_cases h1 : c = 1
  · subst h1
    go_enter Tryz.func80, Tryz.ntmps80
    go_wp2
    go_ret
    exact ⟨rfl, nodraw _⟩
  · by_cases h2 : c = 2
    · subst h2
      go_enter Tryz.func80, Tryz.ntmps80
      go_wp2
      go_ret
      exact ⟨rfl, nodraw _⟩
    · have HN : Hid (S.lns c = 0) := by show _ = _; unfold S.lns; rw [if_neg h1, if_neg h2]
      go_enter Tryz.func80, Tryz.ntmps80
      go_wp2
      go_ret
      exact ⟨ret_int (by rw [HN.out]; rfl), nodraw _⟩
theorem rs_count (c t : Nat) (w : World) :
    Calls Tryz.prog 65 #[.agg (slabA c t)] w fun e w' => e = .returned (.int .i64 (S.pc t 16 : Nat)) ∧ Below w.heap.size w w' := by
  have HS0 : Hid (SlabAt (w.alloc (.cells (slabA c t) 65 (0, 0))) w.heap.size c t) := SlabAt.new w c t
  have HB0 : Hid (∀ m, Below w.heap.size w ((w.alloc (.cells (slabA c t) 65 (0, 0))).drewN m)) := fun m => below_drewN' ((Below.refl _ _).alloc (Nat.le_refl _) _) m
  go_enter Tryz.func65, Tryz.ntmps65
  go_wp2_with fail
  generalize w.alloc (.cells (slabA c t) 65 (0, 0)) = W0 at *
  go_loopw [3, 4] (fun n k wr => ∃ j : Nat, j ≤ 16 ∧ k = .int .i64 j ∧ n = .int .i64 (S.pc t j : Nat) ∧ ∃ m, wr = W0.drewN m) (fun _ k _ => 16 - (intOf k).toNat)
  case atStart => exact ⟨0, by omega, rfl, rfl, 0, rfl⟩
  case round =>
    obtain ⟨j, hj, rfl, rfl, m, rfl⟩ := hrel
    by_cases hlt : j < 16
    · have hcell : ∀ m, (W0.drewN m).cell? ⟨w.heap.size, 1 + j, none⟩ = some (.bool (t.testBit j)) := fun m => SlabAt.bit (w := W0.drewN m) HS0.out hlt
      have HP : Hid (S.pc t (j + 1) = S.pc t j + (if t.testBit j then 1 else 0)) := rfl
      have hle := S.pc_le t j
      generalize S.pc t j = p at *
      cases hb : t.testBit j with
      | false =>
        rw [hb] at hcell HP
        clear hb
        go_wp2
        go_roundw
        case rel => exact ⟨j + 1, by omega, by go_num, by rw [HP.out]; simp, _, rfl⟩
        case measure => simp [intOf]; omega
      | true =>
        rw [hb] at hcell HP
        clear hb
        go_wp2
        go_roundw
        case rel => exact ⟨j + 1, by omega, by go_num, by rw [HP.out]; simp, _, rfl⟩
        case measure => simp [intOf]; omega
    · obtain rfl : j = 16 := by omega
      go_wp2
      go_ret
      exact ⟨rfl, HB0.out _⟩
theorem mod_next (t i : Nat) : t % 2 ^ (i + 1) = t % 2 ^ i + (if t.testBit i then 2 ^ i else 0) := M.mod_succ t i
theorem rs_word (c t : Nat) (w : World) (hc : c ≤ 2) (ht : t < 65536) :
    Calls Tryz.prog 79 #[.agg (slabA c t)] w fun e w' => e = .returned (.int .u64 (c * 65536 + t : Nat)) ∧ Below w.heap.size w w' := by
  have HS0 : Hid (SlabAt (w.alloc (.cells (slabA c t) 65 (0, 0))) w.heap.size c t) := SlabAt.new w c t
  have HB0 : Hid (∀ m, Below w.heap.size w ((w.alloc (.cells (slabA c t) 65 (0, 0))).drewN m)) := fun m => below_drewN' ((Below.refl _ _).alloc (Nat.le_refl _) _) m
  have HT : Hid (t % 2 ^ 16 = t) := Nat.mod_eq_of_lt ht
  have h0 := slabA_cls c t
  go_enter Tryz.func79, Tryz.ntmps79
  go_wp2_with fail
  generalize w.alloc (.cells (slabA c t) 65 (0, 0)) = W0 at *
  go_loopw [3, 4, 5] (fun n p k wr => ∃ j : Nat, j ≤ 16 ∧ k = .int .i64 j ∧ n = .int .u64 (c * 65536 + t % 2 ^ j : Nat) ∧ p = .int .u64 (2 ^ j : Nat) ∧ ∃ m, wr = W0.drewN m) (fun _ _ k _ => 16 - (intOf k).toNat)
  case atStart => exact ⟨0, by omega, rfl, by rw [show t % 2 ^ 0 = 0 from Nat.mod_one t]; simp, rfl, 0, rfl⟩
  case round =>
    obtain ⟨j, hj, rfl, rfl, rfl, m, rfl⟩ := hrel
    by_cases hlt : j < 16
    · have hcell : ∀ m, (W0.drewN m).cell? ⟨w.heap.size, 1 + j, none⟩ = some (.bool (t.testBit j)) := fun m => SlabAt.bit (w := W0.drewN m) HS0.out hlt
      have HP := Lib.hid (mod_next t j)
      have HQ : Hid (2 ^ (j + 1) = 2 ^ j * 2) := Nat.pow_succ ..
      have hp1 : 2 ^ j ≤ 2 ^ 15 := Nat.pow_le_pow_right (by decide) (by omega)
      have hp0 : t % 2 ^ j < 2 ^ j := Nat.mod_lt _ (Nat.two_pow_pos _)
      generalize t % 2 ^ j = r at *
      generalize 2 ^ j = q at *
      cases hb : t.testBit j with
      | false =>
        rw [hb] at hcell HP
        clear hb
        go_wp2
        go_roundw
        case rel => exact ⟨j + 1, by omega, by go_num, by rw [HP.out]; simp <;> omega, by rw [HQ.out]; simp, _, rfl⟩
        case measure => simp [intOf]; omega
      | true =>
        rw [hb] at hcell HP
        clear hb
        go_wp2
        go_roundw
        case rel => exact ⟨j + 1, by omega, by go_num, by rw [HP.out]; simp <;> omega, by rw [HQ.out]; simp, _, rfl⟩
        case measure => simp [intOf]; omega
    · obtain rfl : j = 16 := by omega
      rw [HT.out]
      go_wp2
      go_ret
      exact ⟨rfl, HB0.out _⟩
end Go.Proofs.YtaceogpdjbikiaaGreatDoor
