
/- PoolNobody: a pool that no call made: the contracts, the walk. -/
import Derived.Test.YtaceogpdjbikiaaDoorPoU
namespace Go.Proofs.YtaceogpdjbikiaaDoor

open Go.RowKit

/-- The cells of a pool that no call made. -/
def noCells : Array Value := #[.pointer none, .int .i64 0, .int .i64 0, .int .i64 0, .int .i64 0, .slice none 0 0, .map none]
def NoP (w : World) (pv : Value) : Prop := pv = .pointer none ∨ ∃ b, pv = .pointer (some ⟨b, 0, none⟩) ∧ w.heap[b]? = some (.cells noCells 56 (0, 0))
theorem NoP.below {w w' : World} {pv : Value} (h : NoP w pv) (hb : Below w.heap.size w w') : NoP w' pv := by
  rcases h with h | ⟨b, h, hr⟩
  · exact .inl h
  · exact .inr ⟨b, h, (hb.block b (Array.getElem?_eq_some_iff.1 hr).1).trans hr⟩
theorem NoP.alloc {w : World} {pv : Value} (h : NoP w pv) (o : Obj) : NoP (w.alloc o) pv := h.below ((Below.refl _ _).alloc (Nat.le_refl _) o)
section

variable {w : World} {pv : Value}

theorem no_made7 (h : NoP w pv) : Calls Tryd.prog 25 #[pv] w fun e w' => e = .returned (.bool false) ∧ w = w' := by
  rcases h with rfl | ⟨b, rfl, hr⟩
  · go_enter Tryd.func25, Tryd.ntmps25
    go_wp2
    go_ret
    exact ⟨rfl, rfl⟩
  · have h0 : w.cell? ⟨b, 0, none⟩ = some (.pointer none) := cell_of_row w b 0 _ _ _ hr
    clear hr
    go_enter Tryd.func25, Tryd.ntmps25
    go_wp2
    go_ret
    exact ⟨rfl, rfl⟩
theorem no_reserve7 (h : NoP w pv) (c : Int) : Calls Tryd.prog 11 #[pv, .int .i64 c] w fun e w' => e = .returned (.tuple #[.int .i64 0, .int .i64 1]) ∧ w = w' := by
  have HM := Lib.hid (no_made7 h)
  clear h
  go_enter Tryd.func11, Tryd.ntmps11
  go_wp2_with fail
  refine HM.out.mono ?_
  rintro e w1 ⟨rfl, rfl⟩
  go_wp2
  go_ret2
  exact ⟨rfl, rfl⟩
theorem no_take7 (h : NoP w pv) (x : Int) : Calls Tryd.prog 13 #[pv, .int .i64 x] w fun e w' => e = .returned (.int .i64 1) ∧ w = w' := by
  have HM := Lib.hid (no_made7 h)
  clear h
  go_enter Tryd.func13, Tryd.ntmps13
  go_wp2_with fail
  refine HM.out.mono ?_
  rintro e w1 ⟨rfl, rfl⟩
  go_wp2
  go_ret
  exact ⟨rfl, rfl⟩
theorem no_drop7 (h : NoP w pv) (x : Int) : Calls Tryd.prog 14 #[pv, .int .i64 x] w fun e w' => e = .returned (.int .i64 1) ∧ w = w' := by
  have HM := Lib.hid (no_made7 h)
  clear h
  go_enter Tryd.func14, Tryd.ntmps14
  go_wp2_with fail
  refine HM.out.mono ?_
  rintro e w1 ⟨rfl, rfl⟩
  go_wp2
  go_ret
  exact ⟨rfl, rfl⟩
theorem no_all7 (h : NoP w pv) : Calls Tryd.prog 16 #[pv] w fun e w' => e = .returned (.slice none 0 0) ∧ w = w' := by
  have HM := Lib.hid (no_made7 h)
  clear h
  go_enter Tryd.func16, Tryd.ntmps16
  go_wp2_with fail
  refine HM.out.mono ?_
  rintro e w1 ⟨rfl, rfl⟩
  go_wp2
  go_ret
  exact ⟨rfl, rfl⟩
theorem no_held7 (h : NoP w pv) : Calls Tryd.prog 20 #[pv] w fun e w' => e = .returned (.int .i64 0) ∧ w = w' := by
  have HM := Lib.hid (no_made7 h)
  clear h
  go_enter Tryd.func20, Tryd.ntmps20
  go_wp2_with fail
  refine HM.out.mono ?_
  rintro e w1 ⟨rfl, rfl⟩
  go_wp2
  go_ret
  exact ⟨rfl, rfl⟩
theorem no_find7 (h : NoP w pv) (x : Int) : Calls Tryd.prog 32 #[pv, .int .i64 x] w fun e w' => ∃ g, e = .returned (.tuple #[.pointer (some ⟨g, 0, none⟩), .int .i64 0]) ∧ StkAt w' g 0 0 0 ∧ Below w.heap.size w w' := by
  have HM := Lib.hid (no_made7 h)
  have HZ := Lib.hid (zero_stk w)
  have HB : Hid (∀ o : Obj, Below w.heap.size w (w.alloc o)) := fun o => (Below.refl _ _).alloc (Nat.le_refl _) o
  clear h
  go_enter Tryd.func32, Tryd.ntmps32
  go_wp2_with fail
  refine HM.out.mono ?_
  rintro e w1 ⟨rfl, rfl⟩
  go_wp2
  go_ret2
  exact ⟨_, rfl, HZ.out, HB.out _⟩
theorem no_class7 (h : NoP w pv) (x : Int) : Calls Tryd.prog 22 #[pv, .int .i64 x] w fun e w' => e = .returned (.int .i64 0) ∧ Below w.heap.size w w' := by
  have HF := Lib.hid (no_find7 h x)
  have HH : Hid (∀ W : World, Calls Tryd.prog 33 #[.int .u64 ((0 : Nat) : Int), .int .i64 ((0 : Nat) : Int)] W fun e w' => e = .returned (.bool false) ∧ ∃ m, w' = W.drewN m) := fun W => by
    have := sl_has 0 ((0 : Nat) : Int) W (by decide)
    rwa [P.has_nat, show S.tkn 0 = 0 from rfl, Nat.zero_testBit] at this
  clear h
  go_enter Tryd.func22, Tryd.ntmps22
  go_wp2_with fail
  refine HF.out.mono ?_
  rintro e w1 ⟨g, rfl, hst, hb⟩
  have h1 := hst.c1
  have HB := Lib.hid hb
  clear hst hb
  go_wp2_with fail
  refine (HH.out _).mono ?_
  rintro e w2 ⟨rfl, m2, rfl⟩
  go_wp2
  go_ret
  exact ⟨rfl, below_drewN' HB.out _⟩
theorem no_shape7 (h : NoP w pv) : Calls Tryd.prog 15 #[pv] w fun e w' => e = .returned (.agg #[.int .i64 0, .int .i64 0, .int .i64 0, .int .i64 0]) ∧ Below w.heap.size w w' := by
  have HM : Hid (∀ o, Calls Tryd.prog 25 #[pv] (w.alloc o) fun e w' => e = .returned (.bool false) ∧ w.alloc o = w') := fun o => no_made7 (h.alloc o)
  have HX : Hid (∀ o, (w.alloc o).heap[w.heap.size]? = some o) := fun o => heap_alloc_new w o
  have z0 := (four' (HX.out (.cells #[.int .i64 0, .int .i64 0, .int .i64 0, .int .i64 0] 39 (0, 0)))).1.1
  have z1 := (four' (HX.out (.cells #[.int .i64 0, .int .i64 0, .int .i64 0, .int .i64 0] 39 (0, 0)))).1.2.1
  have z2 := (four' (HX.out (.cells #[.int .i64 0, .int .i64 0, .int .i64 0, .int .i64 0] 39 (0, 0)))).1.2.2.1
  have z3 := (four' (HX.out (.cells #[.int .i64 0, .int .i64 0, .int .i64 0, .int .i64 0] 39 (0, 0)))).1.2.2.2
  have f0 := (four' (HX.out (.cells #[.int .i64 0, .int .i64 0, .int .i64 0, .int .i64 0] 39 (0, 0)))).2.1
  have f1 := (four' (HX.out (.cells #[.int .i64 0, .int .i64 0, .int .i64 0, .int .i64 0] 39 (0, 0)))).2.2.1
  have f2 := (four' (HX.out (.cells #[.int .i64 0, .int .i64 0, .int .i64 0, .int .i64 0] 39 (0, 0)))).2.2.2.1
  have f3 := (four' (HX.out (.cells #[.int .i64 0, .int .i64 0, .int .i64 0, .int .i64 0] 39 (0, 0)))).2.2.2.2
  have HB0 : Hid (∀ (v0 v1 v2 v3 : Value) o, Below w.heap.size w (((((w.alloc o).setCell ⟨w.heap.size, 0, none⟩ v0).setCell ⟨w.heap.size, 1, none⟩ v1).setCell ⟨w.heap.size, 2, none⟩ v2).setCell ⟨w.heap.size, 3, none⟩ v3)) := fun v0 v1 v2 v3 o => sets_below' ((Below.refl _ _).alloc (Nat.le_refl _) o) (Nat.le_refl _) v0 v1 v2 v3
  clear h
  go_enter Tryd.func15, Tryd.ntmps15
  go_wp2_with fail
  refine (HM.out _).mono ?_
  rintro e w1 ⟨rfl, rfl⟩
  go_wp2
  exact bodyPost_ret (v := .agg #[.int .i64 0, .int .i64 0, .int .i64 0, .int .i64 0]) (by simp [results, Tryd.results15, go_sem, z0, z1, z2, z3]) rfl ⟨rfl, by first | exact HB0.out _ _ _ _ _ | exact (Below.refl _ _).alloc (Nat.le_refl _) _⟩
end

set_option maxHeartbeats 2000000 in
set_option maxRecDepth 100000 in
theorem poolNobody_walk (x c : Int) (w : World) (_hx : (Lit.int .i64 x).wf = true) (_hc : (Lit.int .i64 c).wf = true) (hTab : TabAt 1 Lib.deBruijn64tab w) (_hs : 1 < w.heap.size) (hT : TabT w) (hg : 0 < w.heap.size) :
    Calls Tryd.prog 5 #[.int .i64 x, .int .i64 c] w fun e w' => e = .returned (.bool true) ∧ Below w.heap.size w w' := by
  have HAL := Lib.hid (alive7_any w hT hg hTab)
  have hne : ∀ W : World, (binOp .neq 39 (.agg #[.int .i64 0, .int .i64 0, .int .i64 0, .int .i64 0]) (.agg #[.int .i64 0, .int .i64 0, .int .i64 0, .int .i64 0])).run Tryd.prog W = .ok (.bool false) W := fun W => by kernel_rfl
  clear hTab hT hg _hx _hc _hs
  go_enter Tryd.func5, Tryd.ntmps5
  go_wp2_with fail
  refine HAL.out.mono ?_
  rintro e w1 ⟨rfl, hb1⟩
  have HB1 := Lib.hid hb1
  clear hb1
  go_wp2_with fail
  have HW : Hid (∃ W2, W2 = (w1.alloc (.cells noCells 56 (0, 0))).alloc (.cells #[.pointer none, .pointer (some ⟨w1.heap.size, 0, none⟩)] 25 (0, 0))) := ⟨_, rfl⟩
  obtain ⟨W2, hW2⟩ := HW.out
  have HPR : Hid (W2.heap[w1.heap.size]? = some (.cells noCells 56 (0, 0))) := by
    rw [hW2]; exact (Below.heap_alloc _ _ _ (by simp)).trans (heap_alloc_new w1 _)
  have HAR : Hid (W2.heap[w1.heap.size + 1]? = some (.cells #[.pointer none, .pointer (some ⟨w1.heap.size, 0, none⟩)] 25 (0, 0))) := by
    have h := heap_alloc_new (w1.alloc (.cells noCells 56 (0, 0))) (.cells #[.pointer none, .pointer (some ⟨w1.heap.size, 0, none⟩)] 25 (0, 0))
    rw [show (w1.alloc (.cells noCells 56 (0, 0))).heap.size = w1.heap.size + 1 by simp] at h
    rw [hW2]; exact h
  have HB2 : Hid (Below w.heap.size w W2) := by
    rw [hW2]; exact (HB1.out.alloc HB1.out.size _).alloc (by have := HB1.out.size; simp; omega) _
  have HWE := Lib.hid hW2
  clear hW2
  go_loopw [6, 7, 8, 15] (fun _ _ _ kv wr => ∃ k : Nat, k ≤ 2 ∧ kv = .int .i64 k ∧ Below W2.heap.size W2 wr) (fun _ _ _ kv _ => 2 - (intOf kv).toNat)
  case atStart => exact ⟨0, by decide, rfl, by
    have h : Below W2.heap.size W2 W2 := Below.refl _ _
    rw [HWE.out] at h ⊢
    exact h⟩
  case round =>
    obtain ⟨k, hk, rfl, hb⟩ := hrel
    have HB := Lib.hid hb
    clear hb
    by_cases hlt : k < 2
    · obtain ⟨pv, hpc, hno⟩ : ∃ pv, wr.cell? ⟨w1.heap.size + 1, k, none⟩ = some pv ∧ NoP wr pv := by
        have ha : wr.heap[w1.heap.size + 1]? = _ := (HB.out.block _ (Array.getElem?_eq_some_iff.1 HAR.out).1).trans HAR.out
        rcases (by omega : k = 0 ∨ k = 1) with rfl | rfl
        · exact ⟨_, cell_of_row wr _ 0 _ _ _ ha, .inl rfl⟩
        · exact ⟨_, cell_of_row wr _ 1 _ _ _ ha, .inr ⟨w1.heap.size, rfl, (HB.out.block _ (Array.getElem?_eq_some_iff.1 HPR.out).1).trans HPR.out⟩⟩
      have HNO := Lib.hid hno
      have HRS := Lib.hid (no_reserve7 hno c)
      have HTK := Lib.hid (no_take7 hno x)
      have HDR := Lib.hid (no_drop7 hno x)
      have HCL := Lib.hid (no_class7 hno x)
      clear hno
      go_wp2_with fail
      refine HRS.out.mono ?_
      rintro e w2 ⟨rfl, rfl⟩
      go_wp2_with fail
      refine HTK.out.mono ?_
      rintro e w2 ⟨rfl, rfl⟩
      go_wp2_with fail
      refine HDR.out.mono ?_
      rintro e w2 ⟨rfl, rfl⟩
      go_wp2_with fail
      refine HCL.out.mono ?_
      rintro e w3 ⟨rfl, hb3⟩
      have HAL3 := Lib.hid (no_all7 (HNO.out.below hb3))
      have HHE3 := Lib.hid (no_held7 (HNO.out.below hb3))
      have HSH3 := Lib.hid (no_shape7 (HNO.out.below hb3))
      have HB3 := Lib.hid (HB.out.trans (hb3.mono HB.out.size))
      clear hb3
      go_wp2_with fail
      refine HAL3.out.mono ?_
      rintro e w4 ⟨rfl, rfl⟩
      go_wp2_with fail
      refine HHE3.out.mono ?_
      rintro e w4 ⟨rfl, rfl⟩
      go_wp2_with fail
      refine HSH3.out.mono ?_
      rintro e w5 ⟨rfl, hb5⟩
      have HB5 := Lib.hid (HB3.out.trans (hb5.mono HB3.out.size))
      clear hb5
      go_wp2
      go_roundw
      case rel => exact ⟨k + 1, by omega, by go_num, HB5.out⟩
      case measure => simp [intOf]; omega
    · obtain rfl : k = 2 := by omega
      have HBE : Hid (Below w.heap.size w wr) := HB2.out.trans (HB.out.mono HB2.out.size)
      go_wp2
      go_ret
      exact ⟨rfl, HBE.out⟩
end Go.Proofs.YtaceogpdjbikiaaDoor
