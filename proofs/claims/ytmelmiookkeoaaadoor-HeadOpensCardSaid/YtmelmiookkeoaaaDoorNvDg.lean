
/- Contract of nvm.New; a device that no call made. -/
import Derived.Test.YtmelmiookkeoaaaDoorNvDf

namespace Go.Proofs.YtmelmiookkeoaaaDoor

open Go.RowKit

def zeroLine : List Value := lineCells V.zeroLn (.slice none 0 0)
def zLine : Array Value := Array.replicate 64 (Value.int .u8 0) ++ #[Value.slice none 0 0, Value.int .i64 0]
theorem info_line : (Tryd.prog.info? 77).map (fun i => (i.zero, i.size, i.bytes)) = some (some (.agg zLine), 66, 96) := by kernel_rfl
theorem zLine_list : zLine.toList = zeroLine := by
  simp [zLine, zeroLine, lineCells, V.zeroLn]
theorem zLine_size : zLine.size = 66 := by simp [zLine]

theorem madeCells_succ (z : Array Value) (n : Nat) : (madeCells z ((n + 1) * z.size)).toList = (madeCells z (n * z.size)).toList ++ z.toList := by
  simp only [madeCells, Array.toList_map, Array.toList_range]
  rw [Nat.succ_mul, List.range_add, List.map_append, List.map_map]
  congr 1
  apply List.ext_getElem
  · simp
  · intro i h1 h2
    have hi : i < z.size := by simpa using h2
    simp only [List.getElem_map, List.getElem_range, Function.comp_apply, Array.getElem_toList]
    rw [Nat.add_comm, Nat.add_mul_mod_self_right, Nat.mod_eq_of_lt hi]
    exact getElem!_pos z i hi
theorem made_devRow (z : Array Value) (hz : z.toList = zeroLine) (n : Nat) : (madeCells z (n * z.size)).toList = devRow (List.replicate n (V.zeroLn, .slice none 0 0)) := by
  induction n with
  | zero => simp [madeCells, devRow]
  | succ n ih =>
    rw [madeCells_succ, ih, hz, List.replicate_succ', devRow_append]
    simp [devRow, zeroLine]
theorem heap_of_made {w : World} {base e size : Nat} {g n : Nat} {xs : List Value} (h : w.ownsRow base e size (.slice (some ⟨g, 0, none⟩) n n) n xs) :
    w.heap[g]? = some (.cells xs.toArray e (0, 0)) := by
  rcases h.2 with ⟨h', _⟩ | ⟨g', cap', cur, h', _, hg, h1, h2, h3, h4⟩
  · simp at h'
  · simp only [Value.slice.injEq, Option.some.injEq, Addr.mk.injEq, and_true, true_and] at h'
    obtain ⟨rfl, rfl⟩ := h'
    rw [hg, ← h4, List.take_of_length_le (by simp [h3])]

/-- What New leaves: a device in new memory. -/
def NewDev (w : World) (d : V.Dv) (e : Ending) (w' : World) : Prop :=
  ∃ v F, e = .returned v ∧ Dev w' v d F ∧ Below w.heap.size w w' ∧ ∀ k ∈ F, w.heap.size ≤ k

set_option maxRecDepth 100000 in
theorem dev_new (n : Nat) (h1 : 1 ≤ n) (h2 : n ≤ 1024) (w : World) : Calls Tryd.prog 17 #[.int .i64 (n : Int)] w (NewDev w (V.newDv n)) := by
  obtain ⟨i0, hi, hz0, hz1, hz2⟩ := info_parts info_line
  have hg0 := V.newDv_good h1 h2
  have HG := Lib.hid hg0
  clear hg0
  go_enter Tryd.func17, Tryd.ntmps17
  go_wp2_with (at_make; refine wpList_make_full _ rfl _ _ 63 rfl w.heap.size 77 i0 _ 66 Tryd.underlying63 hi hz0 hz1 .i64 .i64 n n n rfl rfl rfl rfl (by rw [hz2]; omega) (by unfold maxLen; omega) (by simp) ?_)
  intro w1 hown hgr
  have hrow := heap_of_made hown
  rw [show n * 66 = n * zLine.size by rw [zLine_size], made_devRow zLine zLine_list n] at hrow
  have HB : Hid (Below w.heap.size w w1) := (Below.refl _ _).grown hgr (Nat.le_refl _) (fun k hk => by cases hk)
  have HR := Lib.hid hrow
  have hlt : w.heap.size < w1.heap.size := (Array.getElem?_eq_some_iff.1 hrow).1
  have HLT := Lib.hid hlt
  clear hown hgr hrow hlt
  go_wp2
  go_ret
  have hrow2 : (w1.alloc (.cells #[.slice (some ⟨w.heap.size, 0, none⟩) n n, .int .i64 (-1), .int .i64 0] 65)).heap[w.heap.size]? = some (.cells (devRow (List.replicate n (V.zeroLn, .slice none 0 0))).toArray 77 (0, 0)) := (Below.heap_alloc _ _ _ HLT.out).trans HR.out
  have hmem : ∀ p ∈ List.replicate n (V.zeroLn, Value.slice none 0 0), p = (V.zeroLn, Value.slice none 0 0) := fun p hp => List.eq_of_mem_replicate hp
  refine ⟨_, _, rfl, ⟨w1.heap.size, w.heap.size, List.replicate n (V.zeroLn, .slice none 0 0), rfl, rfl, by simp [V.newDv], ?_, HG.out⟩, HB.out.alloc (by have := HLT.out; omega) _, ?_⟩
  · refine ⟨?_, hrow2, fun p hp => ?_, fun p hp => ?_, by have := HLT.out; omega, fun p hp => ?_, ?_⟩
    · rw [heap_alloc_new]
      simp [V.newDv]
    · rw [hmem p hp]
      exact World.ownsRow_nil _ 0 _ 2
    · rw [hmem p hp]
      exact V.zeroLn_good
    · rw [hmem p hp]
      simp [Value.ownBlock]
    · rw [List.pairwise_replicate]
      right
      intro g hg
      simp [Value.ownBlock] at hg
  · intro k hk
    rcases mem_foot.1 hk with rfl | rfl | ⟨p, hp, hb⟩
    · have := HLT.out; omega
    · exact Nat.le_refl _
    · rw [hmem p hp] at hb
      simp [Value.ownBlock] at hb
theorem dev_new_no (n : Int) (hn : I64 n) (h : ¬ (1 ≤ n ∧ n ≤ 1024)) (w : World) : Calls Tryd.prog 17 #[.int .i64 n] w fun e w' => e = .returned (.pointer none) ∧ w = w' := by
  by_cases h1 : n < 1
  · go_enter Tryd.func17, Tryd.ntmps17
    go_wp2
    go_ret
    exact ⟨rfl, rfl⟩
  · have h2 : 1 ≤ n := by omega
    have h3 : 1024 < n := by omega
    go_enter Tryd.func17, Tryd.ntmps17
    go_wp2
    go_ret
    exact ⟨rfl, rfl⟩

/-- A device that no call made: nil, or of no lines. -/
def NoDev (w : World) (v : Value) : Prop := v = .pointer none ∨ ∃ D, v = .pointer (some ⟨D, 0, none⟩) ∧ w.heap[D]? = some (.cells #[.slice none 0 0, .int .i64 0, .int .i64 0] 65 (0, 0))
theorem NoDev.drewN {w : World} {v : Value} (h : NoDev w v) (n : Nat) : NoDev (w.drewN n) v := h
theorem no_size {w : World} {v : Value} (h : NoDev w v) : Calls Tryd.prog 40 #[v] w fun e w' => e = .returned (.int .i64 0) ∧ w = w' := by
  rcases h with rfl | ⟨D, rfl, hD⟩
  · go_enter Tryd.func40, Tryd.ntmps40
    go_wp2
    go_ret
    exact ⟨rfl, rfl⟩
  · have c0 := cell_of_row w D 0 _ _ _ hD
    have c0' : w.cell? ⟨D, 0, none⟩ = some (.slice none 0 0) := c0
    clear c0 hD
    go_enter Tryd.func40, Tryd.ntmps40
    go_wp2
    go_ret
    exact ⟨rfl, rfl⟩
theorem no_steps {w : World} {v : Value} (h : NoDev w v) : Calls Tryd.prog 27 #[v] w fun e w' => e = .returned (.int .i64 0) ∧ w = w' := by
  rcases h with rfl | ⟨D, rfl, hD⟩
  · go_enter Tryd.func27, Tryd.ntmps27
    go_wp2
    go_ret
    exact ⟨rfl, rfl⟩
  · have c0' : w.cell? ⟨D, 2, none⟩ = some (.int .i64 0) := cell_of_row w D 2 _ _ _ hD
    clear hD
    go_enter Tryd.func27, Tryd.ntmps27
    go_wp2
    go_ret
    exact ⟨rfl, rfl⟩
theorem no_state {w : World} {v : Value} (h : NoDev w v) : Calls Tryd.prog 44 #[v] w fun e w' => e = .returned (.int .i64 1) ∧ w = w' := by
  have HS := Lib.hid (no_size h)
  clear h
  go_enter Tryd.func44, Tryd.ntmps44
  go_wp2_with fail
  refine HS.out.mono ?_
  rintro e w' ⟨rfl, rfl⟩
  go_wp2
  go_ret
  exact ⟨rfl, rfl⟩
theorem no_place {w : World} {v : Value} (h : NoDev w v) (off size : Int) : Calls Tryd.prog 36 #[v, .int .i64 off, .int .i64 size] w fun e w' => e = .returned (.int .i64 1) ∧ w = w' := by
  have HS := Lib.hid (no_state h)
  clear h
  go_enter Tryd.func36, Tryd.ntmps36
  go_wp2_with fail
  refine HS.out.mono ?_
  rintro e w' ⟨rfl, rfl⟩
  go_wp2
  go_ret
  exact ⟨rfl, rfl⟩
theorem no_load {w : World} {v : Value} (h : NoDev w v) (off : Int) : Calls Tryd.prog 25 #[v, .int .i64 off] w fun e w' => e = .returned (.tuple #[.int .u64 0, .int .i64 1]) ∧ w = w' := by
  have HS := Lib.hid (no_place h off 8)
  clear h
  go_enter Tryd.func25, Tryd.ntmps25
  go_wp2_with fail
  refine HS.out.mono ?_
  rintro e w' ⟨rfl, rfl⟩
  go_wp2
  go_ret2
  exact ⟨rfl, rfl⟩
theorem no_store {w : World} {v : Value} (h : NoDev w v) (off n : Int) : Calls Tryd.prog 18 #[v, .int .i64 off, .int .u64 n] w fun e w' => e = .returned (.int .i64 1) ∧ w = w' := by
  have HS := Lib.hid (no_place h off 8)
  clear h
  go_enter Tryd.func18, Tryd.ntmps18
  go_wp2_with fail
  refine HS.out.mono ?_
  rintro e w' ⟨rfl, rfl⟩
  go_wp2
  go_ret
  exact ⟨rfl, rfl⟩
theorem no_flush {w : World} {v : Value} (h : NoDev w v) (off : Int) : Calls Tryd.prog 64 #[v, .int .i64 off] w fun e w' => e = .returned (.int .i64 1) ∧ w = w' := by
  have HS := Lib.hid (no_place h off 1)
  clear h
  go_enter Tryd.func64, Tryd.ntmps64
  go_wp2_with fail
  refine HS.out.mono ?_
  rintro e w' ⟨rfl, rfl⟩
  go_wp2
  go_ret
  exact ⟨rfl, rfl⟩
theorem no_fence {w : World} {v : Value} (h : NoDev w v) : Calls Tryd.prog 58 #[v] w fun e w' => e = .returned (.int .i64 1) ∧ w = w' := by
  have HS := Lib.hid (no_state h)
  clear h
  go_enter Tryd.func58, Tryd.ntmps58
  go_wp2_with fail
  refine HS.out.mono ?_
  rintro e w' ⟨rfl, rfl⟩
  go_wp2
  go_ret
  exact ⟨rfl, rfl⟩
theorem no_stop {w : World} {v : Value} (h : NoDev w v) (k : Int) : Calls Tryd.prog 28 #[v, .int .i64 k] w fun e w' => e = .returned (.tuple #[]) ∧ w = w' := by
  have HS := Lib.hid (no_state h)
  clear h
  go_enter Tryd.func28, Tryd.ntmps28
  go_wp2_with fail
  refine HS.out.mono ?_
  rintro e w' ⟨rfl, rfl⟩
  go_wp2
  go_end0
  exact ⟨rfl, rfl⟩
theorem no_crash {w : World} {v : Value} (h : NoDev w v) (p : Value) : Calls Tryd.prog 22 #[v, p] w fun e w' => e = .returned (.tuple #[]) ∧ w = w' := by
  have HS := Lib.hid (no_state h)
  clear h
  go_enter Tryd.func22, Tryd.ntmps22
  go_wp2_with fail
  refine HS.out.mono ?_
  rintro e w' ⟨rfl, rfl⟩
  go_wp2
  refine bodyPost_ret (results_none rfl _ _ _) rfl ?_
  exact ⟨rfl, rfl⟩

theorem no_image {w : World} {v : Value} (h : NoDev w v) : Calls Tryd.prog 20 #[v] w fun e w' => (∃ a, e = .returned (.slice a 0 0)) ∧ Below w.heap.size w w' := by
  obtain ⟨i0, hi, hz0, hz1, hz2⟩ := info_parts info_u8
  have HS := Lib.hid (no_size h)
  clear h
  go_enter Tryd.func20, Tryd.ntmps20
  go_wp2_with fail
  refine HS.out.mono ?_
  rintro e w' ⟨rfl, rfl⟩
  go_wp2_with (at_make; refine wpList_make_full _ rfl _ _ 37 rfl w.heap.size 5 i0 (.int .u8 0) 1 Tryd.underlying37 hi hz0 hz1 .i64 .i64 0 0 0 rfl rfl rfl rfl (by rw [hz2]; omega) (by unfold maxLen; omega) (by simp) ?_)
  intro w1 hown hgr
  have HB1 : Hid (Below w.heap.size w w1) := (Below.refl _ _).grown hgr (Nat.le_refl _) (fun k hk => by cases hk)
  clear hown hgr
  go_wp2_with fail
  go_loopw [4, 11] (fun _ x wr => x = .int .i64 0 ∧ Below w.heap.size w wr) (fun _ _ _ => 0)
  case atStart => exact ⟨rfl, HB1.out⟩
  case round =>
    obtain ⟨rfl, hb⟩ := hrel
    have HB := Lib.hid hb
    clear hb
    go_wp2
    go_ret
    exact ⟨⟨_, rfl⟩, HB.out⟩
end Go.Proofs.YtmelmiookkeoaaaDoor
