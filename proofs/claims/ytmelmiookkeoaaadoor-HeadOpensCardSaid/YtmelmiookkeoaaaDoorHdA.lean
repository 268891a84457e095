
/- Layer 5: the contract of Of, the program's. -/
import Derived.Test.YtmelmiookkeoaaaDoorHdM

import Derived.Test.YtmelmiookkeoaaaDoorSuE

import Derived.Handy

import Derived.Laws.EntriesVeiled

namespace Go.Proofs.YtmelmiookkeoaaaDoor

open Go.RowKit

def shV (s : V.Sh) : Value := .agg #[.int .i64 s.lines, .int .i64 s.slabs, .int .i64 s.table, .int .i64 s.data]
theorem hd_dataAt (w : World) (s : Nat) (hs : s ≤ 100000) : Calls Tryd.prog 30 #[.int .i64 (s : Int)] w fun e w' => e = .returned (.int .i64 ((2 + (s + 7) / 8 : Nat) : Int)) ∧ w = w' := by
  go_enter Tryd.func30, Tryd.ntmps30
  go_wp2
  go_ret
  exact ⟨ret_int (by omega), rfl⟩
theorem hd_need {w : World} {g : Nat} (hg : w.cell? ⟨g, 0, none⟩ = some (.func (.func 30) #[] #[])) (s : Nat) (hs : s ≤ 100000) :
    Calls Tryd.prog 31 #[.int .i64 (s : Int), .pointer (some ⟨g, 0, none⟩)] w fun e w' => e = .returned (.int .i64 (V.need s : Int)) ∧ w = w' := by
  have HD := Lib.hid (hd_dataAt w s hs)
  have HN : Hid (V.need s = 2 + (s + 7) / 8 + 16 * s) := rfl
  have ha : 2 + (s + 7) / 8 ≤ 20000 := by omega
  generalize 2 + (s + 7) / 8 = a at *
  go_enter Tryd.func31, Tryd.ntmps31
  go_wp2_with fail
  refine HD.out.mono ?_
  rintro e w' ⟨rfl, rfl⟩
  go_wp2
  go_ret
  exact ⟨ret_int (by rw [HN.out]; omega), rfl⟩
theorem four' {W : World} {b : Nat} {t : TypeId} {x0 x1 x2 x3 : Value} (h : W.heap[b]? = some (.cells #[x0, x1, x2, x3] t (0, 0))) :
    (W.cell? ⟨b, 0, none⟩ = some x0 ∧ W.cell? ⟨b, 1, none⟩ = some x1 ∧ W.cell? ⟨b, 2, none⟩ = some x2 ∧ W.cell? ⟨b, 3, none⟩ = some x3) ∧ (W.frozen? ⟨b, 0, none⟩ = false ∧ W.frozen? ⟨b, 1, none⟩ = false ∧ W.frozen? ⟨b, 2, none⟩ = false ∧ W.frozen? ⟨b, 3, none⟩ = false) :=
  ⟨⟨cell_of_row W b 0 _ _ _ h, cell_of_row W b 1 _ _ _ h, cell_of_row W b 2 _ _ _ h, cell_of_row W b 3 _ _ _ h⟩, frozen_of_row W b 0 _ _ h, frozen_of_row W b 1 _ _ h, frozen_of_row W b 2 _ _ h, frozen_of_row W b 3 _ _ h⟩
theorem sets_below' {w W : World} {b : Nat} (h : Below w.heap.size w W) (hb : w.heap.size ≤ b) (v0 v1 v2 v3 : Value) : Below w.heap.size w ((((W.setCell ⟨b, 0, none⟩ v0).setCell ⟨b, 1, none⟩ v1).setCell ⟨b, 2, none⟩ v2).setCell ⟨b, 3, none⟩ v3) :=
  (((h.setCell hb _).setCell hb _).setCell hb _).setCell hb _
/-- What a call leaves that hands back a shape and a bool, or an error. -/
def ShPost (w : World) (s : V.Sh) (x : Value) (e : Ending) (w' : World) : Prop := e = .returned (.tuple #[shV s, x]) ∧ Below w.heap.size w w'
set_option maxRecDepth 100000 in
theorem hd_of (w : World) (x : Int) (hx : I64 x) : Calls Tryd.prog 12 #[.int .i64 x] w (ShPost w (V.Sh.of x) (.bool (V.isSh x))) := by
  have hx' : -9223372036854775808 ≤ x ∧ x ≤ 9223372036854775807 := hx
  clear hx
  by_cases hbig : 1024 < x
  · have h1 : Hid (V.Sh.of x = V.Sh.zero ∧ V.isSh x = false) := ⟨V.Sh.of_no (by omega), V.isSh_no (by omega)⟩
    rw [h1.out.1, h1.out.2]
    have HB : Hid (∀ a : Obj, Below w.heap.size w (w.alloc a)) := fun a => (Below.refl _ _).alloc (Nat.le_refl _) a
    go_enter Tryd.func12, Tryd.ntmps12
    go_wp2
    exact bodyPost_ret (v := .tuple #[shV V.Sh.zero, .bool false]) (by simp [results, Tryd.results12, go_sem, shV, V.Sh.zero]) rfl ⟨rfl, HB.out _⟩
  · obtain ⟨n, hn⟩ : ∃ n : Nat, n = x.toNat := ⟨_, rfl⟩
    have hbig2 : x ≤ 1024 := by omega
    go_enter Tryd.func12, Tryd.ntmps12
    go_wp2_with fail
    have HB1 : Hid (∀ a b : Obj, Below w.heap.size w ((w.alloc a).alloc b)) := fun a b => (((Below.refl _ _).alloc (Nat.le_refl _) a).alloc (by simp) b)
    have HH : Hid (∀ a b : Obj, ((w.alloc a).alloc b).heap[w.heap.size]? = some a ∧ ((w.alloc a).alloc b).heap[w.heap.size + 1]? = some b) := by
      intro a b
      refine ⟨(Below.heap_alloc _ _ _ (by simp)).trans (heap_alloc_new w a), ?_⟩
      have := heap_alloc_new (w.alloc a) b
      rwa [show (w.alloc a).heap.size = w.heap.size + 1 by simp] at this
    go_loopw [6] (fun x wr => ∃ i : Nat, x = .int .i64 i ∧ (i = 0 ∨ V.need i ≤ n) ∧ i ≤ 100 ∧ wr.heap[w.heap.size]? = some (.cells #[.int .i64 0, .int .i64 0, .int .i64 0, .int .i64 0] 25 (0, 0)) ∧ wr.cell? ⟨w.heap.size + 1, 0, none⟩ = some (.func (.func 30) #[] #[]) ∧ Below w.heap.size w wr) (fun x _ => 100 - (intOf x).toNat)
    case atStart => exact ⟨0, rfl, .inl rfl, by omega, (HH.out _ _).1, cell_of_row _ _ 0 _ _ _ (HH.out _ _).2, HB1.out _ _⟩
    case round =>
      obtain ⟨i, rfl, hi, hi2, hrow, hcl, hbel⟩ := hrel
      have HROW := Lib.hid hrow; have HBEL := Lib.hid hbel
      have HND := Lib.hid (hd_need hcl (i + 1) (by omega))
      have HDA := Lib.hid (hd_dataAt wr i (by omega))
      have hnn : V.need (i + 1) = 2 + (i + 1 + 7) / 8 + 16 * (i + 1) := rfl
      have hnl : 1 ≤ V.need (i + 1) ∧ V.need (i + 1) ≤ 5000 := by omega
      clear hrow hbel hnn
      by_cases hgo : V.need (i + 1) ≤ n
      · have hgo2 : (V.need (i + 1) : Int) ≤ x := by omega
        have hi3 : i + 1 ≤ 100 := by unfold V.need at hgo; omega
        have HG := Lib.hid hgo
        clear hi hgo
        generalize hnd : V.need (i + 1) = nd at HND hgo2
        clear hnd hnl
        go_wp2_with fail
        refine HND.out.mono ?_
        rintro e w1 ⟨rfl, rfl⟩
        go_wp2
        go_roundw
        case rel => exact ⟨i + 1, by go_num, .inr HG.out, hi3, HROW.out, hcl, HBEL.out⟩
        case measure => simp [intOf]; omega
      · have hgo2 : x < (V.need (i + 1) : Int) := by omega
        have hsl : i = V.slabs n := V.slabs_eq hi (by omega)
        generalize hnd : V.need (i + 1) = nd at HND hgo2
        by_cases h0 : i = 0
        · subst h0
          have hx19 : ¬ (19 ≤ x ∧ x ≤ 1024) := by
            intro hx
            have := V.slabs_some (n := n) (by omega)
            omega
          have H1 : Hid (V.Sh.of x = V.Sh.zero ∧ V.isSh x = false) := ⟨V.Sh.of_no hx19, V.isSh_no hx19⟩
          obtain ⟨⟨z0, z1, z2, z3⟩, ⟨f0, f1, f2, f3⟩⟩ := four' HROW.out
          have HB4 : Hid (∀ v0 v1 v2 v3 : Value, Below w.heap.size w ((((wr.setCell ⟨w.heap.size, 0, none⟩ v0).setCell ⟨w.heap.size, 1, none⟩ v1).setCell ⟨w.heap.size, 2, none⟩ v2).setCell ⟨w.heap.size, 3, none⟩ v3)) := sets_below' HBEL.out (Nat.le_refl _)
          clear hi hnl hnd hsl hx19 hgo hn
          go_wp2_with fail
          refine HND.out.mono ?_
          rintro e w1 ⟨rfl, rfl⟩
          go_wp2
          exact bodyPost_ret (v := .tuple #[shV V.Sh.zero, .bool false]) (by simp [results, Tryd.results12, go_sem, shV, V.Sh.zero, z0, z1, z2, z3]) rfl ⟨by rw [H1.out.1, H1.out.2], HB4.out _ _ _ _⟩
        · have hn19 : 19 ≤ n := by
            apply Nat.le_of_not_lt; intro hlt
            have := V.slabs_few hlt
            omega
          obtain rfl : x = (n : Int) := by omega
          have H1 : Hid (V.Sh.of (n : Int) = V.Sh.at n ∧ V.isSh (n : Int) = true) := ⟨V.Sh.of_nat (by omega), V.isSh_nat (by omega)⟩
          have HSH : Hid (shV (V.Sh.at n) = .agg #[.int .i64 (n : Int), .int .i64 (i : Int), .int .i64 128, .int .i64 ((2 + (i + 7) / 8 : Nat) * 64 : Int)]) := by
            show _ = _
            rw [hsl]
            unfold shV V.Sh.at V.dataAt
            rw [show ((64 * (2 + (V.slabs n + 7) / 8) : Nat) : Int) = ((2 + (V.slabs n + 7) / 8 : Nat) : Int) * 64 by omega]
          have ha : 2 + (i + 7) / 8 ≤ 20000 := by omega
          generalize 2 + (i + 7) / 8 = a at *
          obtain ⟨⟨z0, z1, z2, z3⟩, ⟨f0, f1, f2, f3⟩⟩ := four' HROW.out
          have HB4 : Hid (∀ v0 v1 v2 v3 : Value, Below w.heap.size w ((((wr.setCell ⟨w.heap.size, 0, none⟩ v0).setCell ⟨w.heap.size, 1, none⟩ v1).setCell ⟨w.heap.size, 2, none⟩ v2).setCell ⟨w.heap.size, 3, none⟩ v3)) := sets_below' HBEL.out (Nat.le_refl _)
          clear hi hnl hnd hsl hgo hn
          go_wp2_with fail
          refine HND.out.mono ?_
          rintro e w1 ⟨rfl, rfl⟩
          go_wp2_with fail
          refine HDA.out.mono ?_
          rintro e w1 ⟨rfl, rfl⟩
          go_wp2
          exact bodyPost_ret (v := .tuple #[.agg #[.int .i64 (n : Int), .int .i64 (i : Int), .int .i64 128, .int .i64 ((a : Int) * 64)], .bool true]) (by simp [results, Tryd.results12, go_sem, z0, z1, z2, z3]) rfl ⟨by rw [H1.out.1, H1.out.2, HSH.out], HB4.out _ _ _ _⟩
end Go.Proofs.YtmelmiookkeoaaaDoor
