
/- Layer 7: the statements' own 'alive'. -/
import Derived.Test.YtaceogpdjbikiaaGreatDoorPoT
namespace Go.Proofs.YtaceogpdjbikiaaGreatDoor

open Go.RowKit

set_option maxHeartbeats 2000000 in
set_option maxRecDepth 100000 in
theorem alive7_any (w : World) (hT : TabT w) (hg : 0 < w.heap.size) (hT7 : Tab7 w) :
    Calls Tryz.prog 5 #[] w fun e w' => e = .returned (.bool true) ∧ Below w.heap.size w w' := by
  have HT := Lib.hid hT
  have HG := Lib.hid hg
  have HT7 := Lib.hid hT7
  have HBG := Lib.hid (begin_any 19 (by decide) (by decide) w hT hg)
  clear hT hg hT7
  go_enter Tryz.func5, Tryz.ntmps5
  go_wp2_with fail
  refine HBG.out.mono ?_
  rintro e w1 ⟨D, q, rfl, hp1⟩
  rw [e_sh.1, e_sh.2] at hp1
  have HP1 : Hid (PoolK w (.pointer (some ⟨q, 0, none⟩)) (some ⟨D, 0, none⟩) E0 ⟨19, 1, 128, 192⟩ [0] [0] [] w1) := hp1
  have HR1 := Lib.hid (k_reserve HP1.out sh19 HT7.out 1)
  rw [e_rsv.1] at HR1
  clear hp1
  go_wp2_with fail
  refine HR1.out.mono ?_
  rintro e w2 ⟨rfl, hp2, _⟩
  have HP2 := Lib.hid hp2
  have HR2 := Lib.hid (k_reserve HP2.out sh19 HT7.out 2)
  rw [show (([65537], (192 : Int), (0 : Int)) : List Nat × Int × Int).1 = [65537] from rfl, e_rsv.2] at HR2
  clear hp2
  go_wp2_with fail
  refine HR2.out.mono ?_
  rintro e w3 ⟨rfl, hp3, _⟩
  have HP3 : Hid (PoolK w (.pointer (some ⟨q, 0, none⟩)) (some ⟨D, 0, none⟩) E0 ⟨19, 1, 128, 192⟩ [0] [65537] [] w3) := hp3
  have HH3 : Hid (Calls Tryz.prog 16 #[.pointer (some ⟨q, 0, none⟩)] w3 fun e w' => e = .returned (.int .i64 1) ∧ PoolK w (.pointer (some ⟨q, 0, none⟩)) (some ⟨D, 0, none⟩) E0 ⟨19, 1, 128, 192⟩ [0] [65537] [] w') := (k_held HP3.out).mono fun e w' ⟨a, b, _⟩ => ⟨a, b⟩
  clear hp3
  go_wp2_with fail
  refine HH3.out.mono ?_
  rintro e w4 ⟨rfl, hp4⟩
  have HP4 := Lib.hid hp4
  have HK4 := Lib.hid (po_take HP4.out sh19 192 ⟨by decide, by decide⟩ (Nat.le_trans e_one.2.2.2.2.2.2.1 (by decide)))
  rw [e_take] at HK4
  clear hp4
  go_wp2_with fail
  refine HK4.out.mono ?_
  rintro e w5 ⟨rfl, hp5, _⟩
  have HP5 : Hid (PoolK w (.pointer (some ⟨q, 0, none⟩)) (some ⟨D, 0, none⟩) E1 ⟨19, 1, 128, 192⟩ [65537] [0] [] w5) := hp5
  have HC5 : Hid (Calls Tryz.prog 28 #[.pointer (some ⟨q, 0, none⟩), .int .i64 192] w5 fun e w' => e = .returned (.int .i64 1) ∧ PoolK w (.pointer (some ⟨q, 0, none⟩)) (some ⟨D, 0, none⟩) E1 ⟨19, 1, 128, 192⟩ [65537] [0] [] w') := by
    have h := k_class HP5.out sh19 192 ⟨by decide, by decide⟩
    rw [e_cls] at h
    exact h.mono fun e w' ⟨a, b, _⟩ => ⟨a, b⟩
  clear hp5
  go_wp2_with fail
  refine HC5.out.mono ?_
  rintro e w6 ⟨rfl, hp6⟩
  have HP6 := Lib.hid hp6
  have HH6 : Hid (Calls Tryz.prog 16 #[.pointer (some ⟨q, 0, none⟩)] w6 fun e w' => e = .returned (.int .i64 0) ∧ PoolK w (.pointer (some ⟨q, 0, none⟩)) (some ⟨D, 0, none⟩) E1 ⟨19, 1, 128, 192⟩ [65537] [0] [] w') := (k_held HP6.out).mono fun e w' ⟨a, b, _⟩ => ⟨a, b⟩
  clear hp6
  go_wp2_with fail
  refine HH6.out.mono ?_
  rintro e w7 ⟨rfl, hp7⟩
  have HP7 := Lib.hid hp7
  have HCR : Hid (Calls Tryz.prog 22 #[.pointer (some ⟨D, 0, none⟩), .slice none 0 0] w7 fun e w' => e = .returned (.tuple #[]) ∧ PoolK w (.pointer (some ⟨q, 0, none⟩)) (some ⟨D, 0, none⟩) E2 ⟨19, 1, 128, 192⟩ [65537] [0] [] w') := (k_crash7 HP7.out none 0 0 [] (IsInts.nil _ _) (fun h => absurd rfl h) (Nat.le_trans e_one.2.2.2.2.2.2.2.1 (by decide))).mono fun e w' ⟨a, b, _⟩ => ⟨a, b⟩
  clear hp7
  go_wp2_with fail
  refine HCR.out.mono ?_
  rintro e w8 ⟨rfl, hp8⟩
  have HP8 := Lib.hid hp8
  have HOP : Hid (Calls Tryz.prog 23 #[.pointer (some ⟨D, 0, none⟩)] w8 fun e w' => ∃ (r : Nat) (K : List Nat), e = .returned (.tuple #[.pointer (some ⟨r, 0, none⟩), .int .i64 0]) ∧ PoolR (.pointer (some ⟨q, 0, none⟩)) (some ⟨D, 0, none⟩) ⟨19, 1, 128, 192⟩ [65537] [0] K w' ∧ PoolK w (.pointer (some ⟨r, 0, none⟩)) (some ⟨D, 0, none⟩) E2 ⟨19, 1, 128, 192⟩ [65537] [0] K w') := by
    refine (k_open HP8.out e_one.2.2.1 HT.out HG.out).mono ?_
    rintro e w' ⟨K, hr, _, ⟨_, _, r, he, hp⟩ | ⟨hno, _⟩⟩
    · rw [e_one.2.2.2.1, e_one.2.2.2.2.1, e_sh.1, e_sh.2] at hp
      exact ⟨r, K, he, hr, hp⟩
    · rcases hno with h | h
      · exact absurd e_one.2.1 h
      · rw [e_one.2.2.2.1] at h; exact absurd h (by decide)
  clear hp8
  go_wp2_with fail
  refine HOP.out.mono ?_
  rintro e w9 ⟨r, K, rfl, hr9, hp9⟩
  have HR9 := Lib.hid hr9
  have HP9 := Lib.hid hp9
  have HA9 := Lib.hid (k_all HP9.out sh19)
  rw [show ([65537] : List Nat).length = 1 from rfl, e_all.1] at HA9
  clear hr9 hp9
  go_wp2_with fail
  refine HA9.out.mono ?_
  rintro e w10 ⟨⟨A, c, rfl, hi, hb⟩, hp10, hk10⟩
  have HR10 := Lib.hid (HR9.out.keep hk10)
  have HP10 := Lib.hid hp10
  have HA10 := Lib.hid (k_all HP10.out sh19)
  rw [show ([65537] : List Nat).length = 1 from rfl, e_all.1] at HA10
  clear hi hb hp10 hk10
  go_wp2_with fail
  refine HA10.out.mono ?_
  rintro e w11 ⟨⟨A2, c2, rfl, hi, hb⟩, hp11, hk11⟩
  have HR11 := Lib.hid (HR10.out.keep hk11)
  have HP11 := Lib.hid hp11
  obtain ⟨b2, o2, rfl, -, hc21, hc22, hcell⟩ := hi.at6 (i := 0) (by decide)
  have hcell0 : w11.cell? ⟨b2, o2, none⟩ = some (.int .i64 192) := hcell
  have HD11 := Lib.hid (po_drop HP11.out sh19 192 ⟨by decide, by decide⟩ (Nat.le_trans e_one.2.2.2.2.2.2.2.2.1 (by decide)))
  rw [e_drop] at HD11
  clear hi hb hp11 hk11 hcell
  go_wp2_with fail
  refine HD11.out.mono ?_
  rintro e w12 ⟨rfl, hp12, hk12⟩
  have HR12 := Lib.hid (HR11.out.keep hk12)
  have HP12 : Hid (PoolK w (.pointer (some ⟨r, 0, none⟩)) (some ⟨D, 0, none⟩) E3 ⟨19, 1, 128, 192⟩ [0] [0] K w12) := hp12
  have HA12 := Lib.hid (k_all HP12.out sh19)
  rw [show ([0] : List Nat).length = 1 from rfl, e_all.2.1] at HA12
  clear hp12 hk12 hcell0
  go_wp2_with fail
  refine HA12.out.mono ?_
  rintro e w13 ⟨⟨A3, c3, rfl, hi, hb⟩, hp13, hk13⟩
  have HR13 := Lib.hid (HR12.out.keep hk13)
  have HP13 := Lib.hid hp13
  have HD13 := Lib.hid (po_drop HP13.out sh19 192 ⟨by decide, by decide⟩ (Nat.le_trans e_one.2.2.2.2.2.2.2.2.2 (by decide)))
  rw [e_drop2] at HD13
  clear hi hb hp13 hk13
  go_wp2_with fail
  refine HD13.out.mono ?_
  rintro e w14 ⟨rfl, hp14, hk14⟩
  have HR14 := Lib.hid (HR13.out.keep hk14)
  have HSH : Hid (Calls Tryz.prog 24 #[.pointer (some ⟨q, 0, none⟩)] w14 fun e w' => e = .returned (.agg #[.int .i64 19, .int .i64 1, .int .i64 128, .int .i64 192]) ∧ Below w.heap.size w w') := (r_shape HR14.out).mono fun e w' ⟨a, b⟩ => ⟨a, hp14.below0.trans (b.mono hp14.below0.size)⟩
  clear hp14 hk14
  go_wp2_with fail
  refine HSH.out.mono ?_
  rintro e w15 ⟨rfl, hb⟩
  have HB := Lib.hid hb
  clear hb
  have hfl : ∀ W : World, (Instr.field 60 (.agg #[.int .i64 19, .int .i64 1, .int .i64 128, .int .i64 192]) 1).run Tryz.prog W = .ok (.int .i64 1) W := fun W => by kernel_rfl
  go_wp2
  go_ret
  exact ⟨rfl, HB.out⟩
end Go.Proofs.YtaceogpdjbikiaaGreatDoor
