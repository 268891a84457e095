
/- Layer 5: the contract of Of, the reference's. -/
import Derived.Test.YtmelmiookkeoaaaDoorHdA

namespace Go.Proofs.YtmelmiookkeoaaaDoor

open Go.RowKit

theorem rf5_up (w : World) (s : Nat) (hs : s ≤ 100000) : Calls Tryd.prog 32 #[.int .i64 (s : Int)] w fun e w' => e = .returned (.int .i64 (((s + 7) / 8 : Nat) : Int)) ∧ w = w' := by
  go_enter Tryd.func32, Tryd.ntmps32
  go_wp2
  go_ret
  exact ⟨ret_int (by omega), rfl⟩
set_option maxRecDepth 100000 in
theorem rf5_of (w : World) (x : Int) (hx : I64 x) : Calls Tryd.prog 13 #[.int .i64 x] w (ShPost w (V.Sh.of x) (.bool (V.isSh x))) := by
  have hx' : -9223372036854775808 ≤ x ∧ x ≤ 9223372036854775807 := hx
  clear hx
  by_cases hbig : 1024 < x
  · have h1 : Hid (V.Sh.of x = V.Sh.zero ∧ V.isSh x = false) := ⟨V.Sh.of_no (by omega), V.isSh_no (by omega)⟩
    rw [h1.out.1, h1.out.2]
    have HB : Hid (∀ a : Obj, Below w.heap.size w (w.alloc a)) := fun a => (Below.refl _ _).alloc (Nat.le_refl _) a
    go_enter Tryd.func13, Tryd.ntmps13
    go_wp2
    exact bodyPost_ret (v := .tuple #[shV V.Sh.zero, .bool false]) (by simp [results, Tryd.results13, go_sem, shV, V.Sh.zero]) rfl ⟨rfl, HB.out _⟩
  · obtain ⟨n, hn⟩ : ∃ n : Nat, n = x.toNat := ⟨_, rfl⟩
    have hbig2 : x ≤ 1024 := by omega
    go_enter Tryd.func13, Tryd.ntmps13
    go_wp2_with fail
    have HB1 : Hid (∀ a : Obj, Below w.heap.size w (w.alloc a)) := fun a => (Below.refl _ _).alloc (Nat.le_refl _) a
    have HH : Hid (∀ a : Obj, (w.alloc a).heap[w.heap.size]? = some a) := fun a => heap_alloc_new w a
    go_loopw [4] (fun x wr => ∃ i : Nat, x = .int .i64 i ∧ (i = 0 ∨ V.need i ≤ n) ∧ i ≤ 100 ∧ wr.heap[w.heap.size]? = some (.cells #[.int .i64 0, .int .i64 0, .int .i64 0, .int .i64 0] 23 (0, 0)) ∧ Below w.heap.size w wr) (fun x _ => 100 - (intOf x).toNat)
    case atStart => exact ⟨0, rfl, .inl rfl, by omega, HH.out _, HB1.out _⟩
    case round =>
      obtain ⟨i, rfl, hi, hi2, hrow, hbel⟩ := hrel
      have HROW := Lib.hid hrow; have HBEL := Lib.hid hbel
      have HND := Lib.hid (rf5_up wr (i + 1) (by omega))
      have HDA := Lib.hid (rf5_up wr i (by omega))
      have hnn : V.need (i + 1) = 2 + (i + 1 + 7) / 8 + 16 * (i + 1) := rfl
      have hnl : 1 ≤ V.need (i + 1) ∧ V.need (i + 1) ≤ 5000 := by omega
      have hud : (i + 1 + 7) / 8 ≤ 1000 := by omega
      have hue : (V.need (i + 1) : Int) = 2 + (((i + 1 + 7) / 8 : Nat) : Int) + 16 * ((i : Int) + 1) := by omega
      clear hrow hbel hnn
      by_cases hgo : V.need (i + 1) ≤ n
      · have hgo2 : 2 + (((i + 1 + 7) / 8 : Nat) : Int) + 16 * ((i : Int) + 1) ≤ x := by omega
        have hi3 : i + 1 ≤ 100 := by unfold V.need at hgo; omega
        have HG := Lib.hid hgo
        clear hi hgo
        generalize hnd : (i + 1 + 7) / 8 = nd at HND hgo2 hud
        clear hnd hnl hue
        go_wp2_with fail
        refine HND.out.mono ?_
        rintro e w1 ⟨rfl, rfl⟩
        go_wp2
        go_roundw
        case rel => exact ⟨i + 1, by go_num, .inr HG.out, hi3, HROW.out, HBEL.out⟩
        case measure => simp [intOf]; omega
      · have hgo2 : x < 2 + (((i + 1 + 7) / 8 : Nat) : Int) + 16 * ((i : Int) + 1) := by omega
        have hsl : i = V.slabs n := V.slabs_eq hi (by omega)
        clear hue
        generalize hnd : (i + 1 + 7) / 8 = nd at HND hgo2 hud
        by_cases h0 : i = 0
        · subst h0
          have hx19 : ¬ (19 ≤ x ∧ x ≤ 1024) := by
            intro hx
            have := V.slabs_some (n := n) (by omega)
            omega
          have H1 : Hid (V.Sh.of x = V.Sh.zero ∧ V.isSh x = false) := ⟨V.Sh.of_no hx19, V.isSh_no hx19⟩
          obtain ⟨⟨z0, z1, z2, z3⟩, ⟨f0, f1, f2, f3⟩⟩ := four' HROW.out
          have HB4 : Hid (∀ v0 v1 v2 v3 : Value, Below w.heap.size w ((((wr.setCell ⟨w.heap.size, 0, none⟩ v0).setCell ⟨w.heap.size, 1, none⟩ v1).setCell ⟨w.heap.size, 2, none⟩ v2).setCell ⟨w.heap.size, 3, none⟩ v3)) := sets_below' HBEL.out (Nat.le_refl _)
          clear hi hnl hnd hsl hx19 hgo hn
          go_wp2_with fail
          refine HND.out.mono ?_
          rintro e w1 ⟨rfl, rfl⟩
          go_wp2
          exact bodyPost_ret (v := .tuple #[shV V.Sh.zero, .bool false]) (by simp [results, Tryd.results13, go_sem, shV, V.Sh.zero, z0, z1, z2, z3]) rfl ⟨by rw [H1.out.1, H1.out.2], HB4.out _ _ _ _⟩
        · have hn19 : 19 ≤ n := by
            apply Nat.le_of_not_lt; intro hlt
            have := V.slabs_few hlt
            omega
          obtain rfl : x = (n : Int) := by omega
          have H1 : Hid (V.Sh.of (n : Int) = V.Sh.at n ∧ V.isSh (n : Int) = true) := ⟨V.Sh.of_nat (by omega), V.isSh_nat (by omega)⟩
          have HSH : Hid (shV (V.Sh.at n) = .agg #[.int .i64 (n : Int), .int .i64 (i : Int), .int .i64 128, .int .i64 (64 * (2 + (((i + 7) / 8 : Nat) : Int)))]) := by
            show _ = _
            rw [hsl]
            unfold shV V.Sh.at V.dataAt
            rw [show ((64 * (2 + (V.slabs n + 7) / 8) : Nat) : Int) = 64 * (2 + (((V.slabs n + 7) / 8 : Nat) : Int)) by omega]
          have ha : (i + 7) / 8 ≤ 20000 := by omega
          generalize (i + 7) / 8 = a at *
          obtain ⟨⟨z0, z1, z2, z3⟩, ⟨f0, f1, f2, f3⟩⟩ := four' HROW.out
          have HB4 : Hid (∀ v0 v1 v2 v3 : Value, Below w.heap.size w ((((wr.setCell ⟨w.heap.size, 0, none⟩ v0).setCell ⟨w.heap.size, 1, none⟩ v1).setCell ⟨w.heap.size, 2, none⟩ v2).setCell ⟨w.heap.size, 3, none⟩ v3)) := sets_below' HBEL.out (Nat.le_refl _)
          clear hi hnl hnd hsl hgo hn
          go_wp2_with fail
          refine HND.out.mono ?_
          rintro e w1 ⟨rfl, rfl⟩
          go_wp2_with fail
          refine HDA.out.mono ?_
          rintro e w1 ⟨rfl, rfl⟩
          go_wp2
          exact bodyPost_ret (v := .tuple #[.agg #[.int .i64 (n : Int), .int .i64 (i : Int), .int .i64 128, .int .i64 (64 * (2 + (a : Int)))], .bool true]) (by simp [results, Tryd.results13, go_sem, z0, z1, z2, z3]) rfl ⟨by rw [H1.out.1, H1.out.2, HSH.out], HB4.out _ _ _ _⟩
end Go.Proofs.YtmelmiookkeoaaaDoor
