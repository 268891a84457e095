
/- Layer 7: Class, Shape, Held. -/
import Derived.Test.YtaceogpdjbikiaaGreatDoorPoD
import Derived.Test.YtaceogpdjbikiaaGreatDoorSl
namespace Go.Proofs.YtaceogpdjbikiaaGreatDoor

open Go.RowKit

section

variable {ws xs : List Nat} {da : Nat} {x : Int} {i b : Nat}

theorem findIs_w (h : Good7 ws xs) : P.FindIs da ws x i b ↔ Stands da ws xs x i b ∧ (S.tkn (ws.getD i 0)).testBit b = true := by
  constructor
  · intro hf
    have hc : S.cls (used ws xs i) = S.cls (ws.getD i 0) := (h.pair i hf.1).cls_w (P.ne_of_bit hf.2.1)
    exact ⟨⟨hf.1, by rw [hc]; exact hf.blk, by rw [hc]; exact hf.2.2⟩, hf.2.1⟩
  · rintro ⟨⟨h1, h2, h3⟩, h4⟩
    have hc : S.cls (used ws xs i) = S.cls (ws.getD i 0) := (h.pair i h1).cls_w (P.ne_of_bit h4)
    exact ⟨h1, h4, by rw [← hc]; exact h3⟩
theorem findIs_x (h : Good7 ws xs) : P.FindIs da xs x i b ↔ Stands da ws xs x i b ∧ (S.tkn (xs.getD i 0)).testBit b = true := by
  constructor
  · intro hf
    have hi : i < ws.length := by rw [← h.len]; exact hf.1
    have hc : S.cls (used ws xs i) = S.cls (xs.getD i 0) := (h.pair i hi).cls_x (P.ne_of_bit hf.2.1)
    exact ⟨⟨hi, by rw [hc]; exact hf.blk, by rw [hc]; exact hf.2.2⟩, hf.2.1⟩
  · rintro ⟨⟨h1, h2, h3⟩, h4⟩
    have hc : S.cls (used ws xs i) = S.cls (xs.getD i 0) := (h.pair i h1).cls_x (P.ne_of_bit h4)
    exact ⟨by rw [h.len]; exact h1, h4, by rw [← hc]; exact h3⟩
end

/-- The class of the block that a place is, of those that some words have. -/
noncomputable def clsOf (da : Nat) (ws : List Nat) (x : Int) : Nat := match P.find da ws x with
  | some (i, _) => S.cls (ws.getD i 0)
  | none => 0
section

variable {w : World} {y : Lay} {sh : V.Sh} {ws xs : List Nat} {a : Addr} {da : Nat}

set_option maxRecDepth 100000 in
theorem po_class (h : PoAt w y (.pointer (some a)) sh ws xs) (hs : ShOk sh da) (hg : Good7 ws xs) (x : Int) (hx : I64 x) :
    Calls Tryz.prog 28 #[.pointer (some ⟨y.P, 0, none⟩), .int .i64 x] w fun e w' => e = .returned (.int .i64 (clsOf da ws x : Nat)) ∧ Below w.heap.size w w' := by
  have HF := Lib.hid (po_find h hs hg x hx)
  have H0 := Lib.hid h
  have HG := Lib.hid hg
  clear h hs hg hx
  generalize hp : y.P = p at *
  clear hp
  generalize hcl : clsOf da ws x = rr at *
  have HCL := Lib.hid hcl
  clear hcl
  go_enter Tryz.func28, Tryz.ntmps28
  go_wp2_with fail
  refine HF.out.mono ?_
  rintro e w1 (⟨i, b, hst, rfl, m, rfl⟩ | ⟨hno, g, rfl, hst, hgl, hb⟩)
  · have hs := H0.out.stock i hst.1
    have h1 := hs.c1
    have HH : Hid (∀ W : World, Calls Tryz.prog 48 #[.int .u64 (ws.getD i 0 : Nat), .int .i64 (b : Int)] W fun e w' => e = .returned (.bool ((S.tkn (ws.getD i 0)).testBit b)) ∧ ∃ m, w' = W.drewN m) := fun W => by
      have := sl_has (ws.getD i 0) (b : Int) W (HG.out.w64 hst.1)
      rwa [P.has_nat] at this
    have HC : Hid (∀ m, Calls Tryz.prog 50 #[.pointer (some ⟨y.S i, 0, none⟩)] (w.drewN m) fun e w' => e = .returned (.int .i64 (S.cls (used ws xs i) : Nat)) ∧ ∃ k, w' = (w.drewN m).drewN k) := fun m => st_class (hs.drewN m) (HG.out.w64 hst.1) (HG.out.x64 hst.1)
    cases hbit : (S.tkn (ws.getD i 0)).testBit b with
    | false =>
      have HR : Hid (rr = 0) := by
        rw [← HCL.out]
        show _ = _
        unfold clsOf
        rw [P.find_none (fun i' b' hf => by
          obtain ⟨h3, h4⟩ := (findIs_w HG.out).1 hf
          obtain ⟨rfl, rfl⟩ := hst.one h3
          rw [hbit] at h4; cases h4)]
      rw [hbit] at HH
      clear hs hst hbit
      unfold sptr
      generalize ws.getD i 0 = t at *
      generalize y.S i = sk at *
      go_wp2_with fail
      refine (HH.out _).mono ?_
      rintro e w2 ⟨rfl, m2, rfl⟩
      go_wp2
      go_ret
      exact ⟨by rw [HR.out]; rfl, by first | exact below_drewN' (Below.refl _ _) _ | exact below_drewN' (below_drewN' (Below.refl _ _) _) _⟩
    | true =>
      have HR : Hid (rr = S.cls (used ws xs i)) := by
        rw [← HCL.out]
        show _ = _
        unfold clsOf
        rw [P.find_some ((findIs_w HG.out).2 ⟨hst, hbit⟩)]
        exact ((HG.out.pair i hst.1).cls_w (P.ne_of_bit hbit)).symm
      rw [hbit] at HH
      clear hs hst hbit
      unfold sptr
      generalize S.cls (used ws xs i) = c at *
      generalize ws.getD i 0 = t at *
      generalize y.S i = sk at *
      go_wp2_with fail
      refine (HH.out _).mono ?_
      rintro e w2 ⟨rfl, m2, hw2⟩
      rw [World.drewN_drewN] at hw2
      subst hw2
      go_wp2_with fail
      refine (HC.out _).mono ?_
      rintro e w3 ⟨rfl, m3, rfl⟩
      go_wp2
      go_ret
      exact ⟨by rw [HR.out]; rfl, by first | exact below_drewN' (Below.refl _ _) _ | exact below_drewN' (below_drewN' (Below.refl _ _) _) _⟩
  · have HR : Hid (rr = 0) := by
      rw [← HCL.out]
      show _ = _
      unfold clsOf
      rw [P.find_none (fun i' b' hf => hno i' b' ((findIs_w HG.out).1 hf).1)]
    have h1 := hst.c1
    have HH : Hid (∀ W : World, Calls Tryz.prog 48 #[.int .u64 ((0 : Nat) : Int), .int .i64 ((0 : Nat) : Int)] W fun e w' => e = .returned (.bool false) ∧ ∃ m, w' = W.drewN m) := fun W => by
      have := sl_has 0 ((0 : Nat) : Int) W (by decide)
      rwa [P.has_nat, show S.tkn 0 = 0 from rfl, Nat.zero_testBit] at this
    have HB := Lib.hid hb
    clear hst hno hb hgl
    go_wp2_with fail
    refine (HH.out _).mono ?_
    rintro e w2 ⟨rfl, m2, rfl⟩
    go_wp2
    go_ret
    exact ⟨by rw [HR.out]; rfl, below_drewN' HB.out _⟩
theorem po_shape (h : PoAt w y (.pointer (some a)) sh ws xs) :
    Calls Tryz.prog 24 #[.pointer (some ⟨y.P, 0, none⟩)] w fun e w' => e = .returned (shV sh) ∧ Below w.heap.size w w' := by
  have hlt := (Array.getElem?_eq_some_iff.1 h.row).1
  have HM : Hid (∀ o, Calls Tryz.prog 31 #[.pointer (some ⟨y.P, 0, none⟩)] (w.alloc o) fun e w' => e = .returned (.bool true) ∧ w.alloc o = w') := fun o => po_made (h.below ((Below.refl _ _).alloc (Nat.le_refl _) o))
  have hc := fun o : Obj => h.below ((Below.refl _ _).alloc (Nat.le_refl _) o)
  have d1 := fun o => (hc o).c1
  have d2 := fun o => (hc o).c2
  have d3 := fun o => (hc o).c3
  have d4 := fun o => (hc o).c4
  have HX : Hid (∀ o, (w.alloc o).heap[w.heap.size]? = some o) := fun o => heap_alloc_new w o
  have z0 := (four' (HX.out (.cells #[.int .i64 0, .int .i64 0, .int .i64 0, .int .i64 0] 60 (0, 0)))).1.1
  have z1 := (four' (HX.out (.cells #[.int .i64 0, .int .i64 0, .int .i64 0, .int .i64 0] 60 (0, 0)))).1.2.1
  have z2 := (four' (HX.out (.cells #[.int .i64 0, .int .i64 0, .int .i64 0, .int .i64 0] 60 (0, 0)))).1.2.2.1
  have z3 := (four' (HX.out (.cells #[.int .i64 0, .int .i64 0, .int .i64 0, .int .i64 0] 60 (0, 0)))).1.2.2.2
  have f0 := (four' (HX.out (.cells #[.int .i64 0, .int .i64 0, .int .i64 0, .int .i64 0] 60 (0, 0)))).2.1
  have f1 := (four' (HX.out (.cells #[.int .i64 0, .int .i64 0, .int .i64 0, .int .i64 0] 60 (0, 0)))).2.2.1
  have f2 := (four' (HX.out (.cells #[.int .i64 0, .int .i64 0, .int .i64 0, .int .i64 0] 60 (0, 0)))).2.2.2.1
  have f3 := (four' (HX.out (.cells #[.int .i64 0, .int .i64 0, .int .i64 0, .int .i64 0] 60 (0, 0)))).2.2.2.2
  have HB0 : Hid (∀ (v0 v1 v2 v3 : Value) o, Below w.heap.size w (((((w.alloc o).setCell ⟨w.heap.size, 0, none⟩ v0).setCell ⟨w.heap.size, 1, none⟩ v1).setCell ⟨w.heap.size, 2, none⟩ v2).setCell ⟨w.heap.size, 3, none⟩ v3)) := fun v0 v1 v2 v3 o => sets_below' ((Below.refl _ _).alloc (Nat.le_refl _) o) (Nat.le_refl _) v0 v1 v2 v3
  clear h hc
  obtain ⟨sa, sb, sc, sd⟩ := sh
  unfold shV
  dsimp only at *
  generalize y.P = p at *
  go_enter Tryz.func24, Tryz.ntmps24
  go_wp2_with fail
  refine (HM.out _).mono ?_
  rintro e w1 ⟨rfl, rfl⟩
  go_wp2
  exact bodyPost_ret (v := .agg #[.int .i64 sa, .int .i64 sb, .int .i64 sc, .int .i64 sd]) (by simp [results, Tryz.results24, go_sem]) rfl ⟨rfl, by first | exact HB0.out _ _ _ _ _ | exact (Below.refl _ _).alloc (Nat.le_refl _) _⟩
end

end Go.Proofs.YtaceogpdjbikiaaGreatDoor
