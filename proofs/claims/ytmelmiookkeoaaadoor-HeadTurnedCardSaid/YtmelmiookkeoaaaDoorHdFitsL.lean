
/- The walk of HeadFits: whatever is handed in, the call answers true, and what was there stays. -/
import Derived.Test.YtmelmiookkeoaaaDoorHdI

namespace Go.Proofs.YtmelmiookkeoaaaDoor

open Go.RowKit

theorem hd_u16 {a : Int} (h : (Lit.int .u16 a).wf = true) : ∃ n : Nat, a = (n : Int) ∧ n ≤ 65535 := by
  simp [Lit.wf, IntKind.min, IntKind.max, IntKind.signed, IntKind.bits] at h
  exact ⟨a.toNat, by omega, by omega⟩
theorem hd_u8 {a : Int} (h : (Lit.int .u8 a).wf = true) : ∃ n : Nat, a = (n : Int) ∧ n ≤ 255 := by
  simp [Lit.wf, IntKind.min, IntKind.max, IntKind.signed, IntKind.bits] at h
  exact ⟨a.toNat, by omega, by omega⟩
theorem hd_u64 {a : Int} (h : (Lit.int .u64 a).wf = true) : ∃ n : Nat, a = (n : Int) ∧ n < 2 ^ 64 := by
  simp [Lit.wf, IntKind.min, IntKind.max, IntKind.signed, IntKind.bits] at h
  exact ⟨a.toNat, by omega, by omega⟩
theorem hd_i64 {a : Int} (h : (Lit.int .i64 a).wf = true) : I64 a := by
  simp [Lit.wf, IntKind.min, IntKind.max, IntKind.signed, IntKind.bits] at h
  exact h
/-- Of, with what it hands back spelled. -/
theorem of_yes (w : World) {n : Nat} (h : 19 ≤ n ∧ n ≤ 1024) : Calls Tryd.prog 12 #[.int .i64 (n : Int)] w fun e w' => e = .returned (.tuple #[.agg #[.int .i64 (n : Int), .int .i64 (V.slabs n : Int), .int .i64 128, .int .i64 (V.dataAt n : Int)], .bool true]) ∧ Below w.heap.size w w' := by
  have h1 := hd_of w (n : Int) ⟨by omega, by omega⟩
  rw [V.isSh_nat h, V.Sh.of_nat h] at h1
  exact h1
theorem of_not (w : World) {x : Int} (hx : I64 x) (h : ¬ (19 ≤ x ∧ x ≤ 1024)) : Calls Tryd.prog 12 #[.int .i64 x] w fun e w' => e = .returned (.tuple #[.agg #[.int .i64 0, .int .i64 0, .int .i64 0, .int .i64 0], .bool false]) ∧ Below w.heap.size w w' := by
  have h1 := hd_of w x hx
  rw [V.isSh_no h, V.Sh.of_no h] at h1
  exact h1
set_option maxRecDepth 100000 in
theorem headFits_walk (a0 : Int) (w : World) (w0 : (Lit.int .u16 a0).wf = true) (hT : TabT w) (hg : 0 < w.heap.size) :
    Calls Tryd.prog 4 #[.int .u16 a0] w fun e w' => e = .returned (.bool true) ∧ Below w.heap.size w w' := by
  obtain ⟨a, rfl, ha⟩ := hd_u16 w0
  have HA := Lib.hid (alive5_any w hT hg)
  obtain ⟨n, hn⟩ : ∃ n : Nat, n = a % 1100 := ⟨_, rfl⟩
  have hn2 : (a : Int) % 1100 = (n : Int) := by omega
  have hn3 : n < 1100 := by omega
  clear w0 hT hg hn
  by_cases hin : 19 ≤ n ∧ n ≤ 1024
  · have HOF := fun w => Lib.hid (of_yes w hin)
    have h1 := V.need_slabs (n := n) (by omega)
    have h2 := V.need_more n
    have hsm := V.slabs_most hin.2
    have hdd : V.dataAt n = 64 * (2 + (V.slabs n + 7) / 8) := rfl
    unfold V.need at h1 h2
    generalize V.slabs n = sl at *
    generalize V.dataAt n = da at *
    obtain ⟨q, hq⟩ : ∃ q : Nat, q = (sl + 1 + 7) / 8 := ⟨_, rfl⟩
    have hq2 : ((sl : Int) + 1 + 7) / 8 = (q : Int) := by omega
    have hq3 : q ≤ 10 := by omega
    have g1 : 128 + 8 * (sl : Int) ≤ (da : Int) := by omega
    have g2 : (da : Int) % 64 = 0 := by omega
    have g3 : (da : Int) + 1024 * (sl : Int) ≤ 64 * (n : Int) := by omega
    have g4 : 64 * (n : Int) < 64 * (2 + (q : Int)) + 1024 * ((sl : Int) + 1) := by omega
    have hda : da ≤ 5000 := by omega
    clear h1 h2 hdd hq
    go_enter Tryd.func4, Tryd.ntmps4
    go_wp2_with fail
    refine HA.out.mono ?_
    rintro e w1 ⟨rfl, hb⟩
    have HB1 := Lib.hid hb
    clear hb
    go_wp2_with fail
    refine (HOF _).out.mono ?_
    rintro e w2 ⟨rfl, hb⟩
    have HB2 : Hid (∀ o, Below w.heap.size w (w2.alloc o)) := fun o => (HB1.out.trans (hb.mono HB1.out.size)).alloc (Nat.le_trans HB1.out.size hb.size) o
    clear hb
    go_wp2
    go_ret
    exact ⟨rfl, HB2.out _⟩
  · have HOF := fun w => Lib.hid (of_not w (x := (n : Int)) ⟨by omega, by omega⟩ (by omega))
    rcases (show n < 19 ∨ 1024 < n by omega) with hb | hb
    all_goals
      go_enter Tryd.func4, Tryd.ntmps4
      go_wp2_with fail
      refine HA.out.mono ?_
      rintro e w1 ⟨rfl, hb1⟩
      have HB1 := Lib.hid hb1
      clear hb1
      go_wp2_with fail
      refine (HOF _).out.mono ?_
      rintro e w2 ⟨rfl, hb2⟩
      have HB2 : Hid (∀ o, Below w.heap.size w (w2.alloc o)) := fun o => (HB1.out.trans (hb2.mono HB1.out.size)).alloc (Nat.le_trans HB1.out.size hb2.size) o
      clear hb2
      go_wp2
      go_ret
      first | exact ⟨rfl, HB2.out _⟩ | exact ⟨ret_bool (a := (decide ((n : Int) < 19) || decide (1024 < (n : Int)))) (by simp; omega), HB2.out _⟩
end Go.Proofs.YtmelmiookkeoaaaDoor
