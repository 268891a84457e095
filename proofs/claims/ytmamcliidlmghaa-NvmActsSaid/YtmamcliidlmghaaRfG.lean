/- The reference of layer 3: the contract of Fence. -/
import Derived.Test.YtmamcliidlmghaaRfF
namespace Go.Proofs.Ytmamcliidlmghaa
open Go.RowKit

/-- Lines, of which the first ones are done with. -/
def upto (f : V.Ln → V.Ln) (ls : List V.Ln) (j : Nat) : List V.Ln := (ls.take j).map f ++ ls.drop j
theorem upto_zero (f : V.Ln → V.Ln) (ls : List V.Ln) : upto f ls 0 = ls := by simp [upto]
theorem upto_all (f : V.Ln → V.Ln) (ls : List V.Ln) : upto f ls ls.length = ls.map f := by simp [upto]
theorem upto_length (f : V.Ln → V.Ln) (ls : List V.Ln) (j : Nat) : (upto f ls j).length = ls.length := by simp [upto]; omega
theorem upto_get (f : V.Ln → V.Ln) (ls : List V.Ln) (j : Nat) (l : V.Ln) (h : ls[j]? = some l) : (upto f ls j)[j]? = some l := by
  have hj := (List.getElem?_eq_some_iff.1 h).1
  unfold upto
  rw [List.getElem?_append_right (by simp; omega), List.getElem?_drop, List.length_map, List.length_take, show j + (j - min j ls.length) = j by omega, h]
theorem upto_succ (f : V.Ln → V.Ln) (ls : List V.Ln) (j : Nat) (l : V.Ln) (h : ls[j]? = some l) : upto f ls (j + 1) = (upto f ls j).set j (f l) := by
  have hj := (List.getElem?_eq_some_iff.1 h).1
  have hx := (List.getElem?_eq_some_iff.1 h).2
  unfold upto
  rw [List.set_append_right _ _ (by simp; omega), List.length_map, List.length_take, show j - min j ls.length = 0 by omega, List.take_succ_eq_append_getElem hj, hx, List.map_append, List.drop_eq_getElem_cons hj, hx, List.set_cons_zero, List.append_assoc]
  rfl
/-- A line's cell that tells of another line. -/
theorem RowAt.retell {w : World} {F : List Nat} {C j : Nat} {cs : List (Value × Value)} {ls : List V.Ln} {p : Value × Value} {l' : V.Ln} (h : RowAt w F C cs ls) (hj : cs[j]? = some p) (hp : CellAt w F p l') : RowAt w F C cs (ls.set j l') := by
  refine ⟨by rw [List.length_set]; exact h.len, h.off, h.lt, h.cell, fun i q l hq hl => ?_⟩
  by_cases e : j = i
  · subst e
    rw [hj] at hq
    obtain rfl := Option.some.inj hq
    rw [List.getElem?_set_self (by have := (List.getElem?_eq_some_iff.1 hj).1; rw [← h.len]; exact this)] at hl
    obtain rfl := Option.some.inj hl
    exact hp
  · rw [List.getElem?_set_ne e] at hl
    exact h.line i q l hq hl
theorem Tells.settled {l : V.Ln} {L : List (List Int)} {mark : Int} (h : V.Tells l L mark) (hl : l.Good) : (mark = -1 ∧ V.Tells l.settle L (-1)) ∨ ∃ mk : Nat, mark = (mk : Int) ∧ mk < L.length ∧ V.Tells l.settle (L.drop mk) (-1) := by
  have h1 := h.fence hl
  have h2 := h.may
  have h3 := hl.mark
  rcases h.2 with e | ⟨e, e0⟩
  · refine .inr ⟨l.mark, e, by omega, ?_⟩
    rw [if_pos (by omega), e, Int.toNat_natCast] at h1
    exact h1
  · refine .inl ⟨e, ?_⟩
    rw [if_neg (by omega)] at h1
    exact h1
theorem sets_same {W : World} {b : Nat} {t : TypeId} {x0 x1 x2 x3 : Value} (h : W.heap[b]? = some (.cells #[x0, x1, x2, x3] t (0, 0))) (v0 v1 v2 v3 : Value) :
    ((((W.setCell ⟨b, 0, none⟩ v0).setCell ⟨b, 1, none⟩ v1).setCell ⟨b, 2, none⟩ v2).setCell ⟨b, 3, none⟩ v3).heap[b]? = some (.cells #[v0, v1, v2, v3] t (0, 0)) := by
  have h1 := heap_setCell_same W b 0 _ t v0 h
  have h2 := heap_setCell_same _ b 1 _ t v1 h1
  have h3 := heap_setCell_same _ b 2 _ t v2 h2
  have h4 := heap_setCell_same _ b 3 _ t v3 h3
  rw [h4]; simp
/-- Where a loop over the lines of a boxed device has come. -/
def Looped (w : World) (F : List Nat) (n : Nat) (left st : Int) (x : Value) (ls : List V.Ln) (wr : World) : Prop :=
  ∃ C cap cs, wr.heap[w.heap.size]? = some (.cells #[.slice (some ⟨C, 0, none⟩) n cap, .bool false, .int .i64 left, .int .i64 st] 31 (0, 0)) ∧ wr.heap[w.heap.size + 1]? = some (.cells #[.slice none 0 0, .bool false, .int .i64 0, .int .i64 0] 31 (0, 0)) ∧ Below w.heap.size w wr ∧ n ≤ cap ∧ cap ≤ maxLen ∧ RowAt wr (w.heap.size :: (w.heap.size + 1) :: F) C cs ls
section
variable {w : World} {F : List Nat}
set_option maxHeartbeats 4000000 in
set_option maxRecDepth 100000 in
theorem rf_fence {m : Value} {d : V.Dv} (h : RefAt w F m d) (hF : ∀ k ∈ F, k < w.heap.size) (hg : d.Good) (hs : d.steps ≤ 1000000) :
    Calls Try.prog 12 #[m] w (RetRefE w F d.fence d.state) := by
  have HSAME := Lib.hid h.same2
  obtain ⟨C, cap, cs, down, left, rfl, hc1, hc2, hrow, hst, hCF, hCw, hop⟩ := h.open
  have hst' := hst
  obtain ⟨hdn, hlf⟩ := hst'
  have hnn := hg.most
  have hnn1 := hg.some
  have hc2' : cap ≤ 2 ^ 63 - 1 := hc2
  by_cases hd : d.left = 0
  · have HE : Hid (d.state = 12 ∧ d.fence = d) := ⟨by unfold V.Dv.state; rw [if_pos hd], by unfold V.Dv.fence; rw [if_pos hd]⟩
    have hdt : down = true := by rw [hdn]; simp [hd]
    subst hdt
    clear hop hdn hlf hst h hrow
    rw [HE.out.1, HE.out.2]
    go_enter Try.func12, Try.ntmps12
    go_wp2
    exact bodyPost_ret (v := .tuple #[.agg #[.slice (some ⟨C, 0, none⟩) d.lines.length cap, .bool true, .int .i64 left, .int .i64 (d.steps : Int)], .int .i64 12]) (by simp [results, Try.results12, go_sem]) rfl ⟨_, rfl, (HSAME.out _ _).1, (HSAME.out _ _).2⟩
  · have hdt : down = false := by rw [hdn]; simp [hd]
    subst hdt
    have HE : Hid (d.state = 0 ∧ d.fence = d.settle.done) := ⟨by unfold V.Dv.state; rw [if_neg hd], by unfold V.Dv.fence; rw [if_neg hd]⟩
    rw [HE.out.1, HE.out.2]
    have hl9 : -1 ≤ d.left ∧ d.left ≤ 1000000000 := hg.left
    have HDN := Lib.hid (fun W C' cap' => rf_done W C' d.lines.length cap' d.settle false left (d.steps : Int) hst hd hl9 ⟨by omega, by omega⟩)
    have hF0 : ∀ k ∈ w.heap.size :: (w.heap.size + 1) :: F, k ∈ F ∨ w.heap.size ≤ k := fun k hk => by
      rcases List.mem_cons.1 hk with e | hk
      · exact .inr (by omega)
      · rcases List.mem_cons.1 hk with e | e
        · exact .inr (by omega)
        · exact .inl e
    have hF1 : ∀ (N : Nat), w.heap.size + 1 < N → ∀ k ∈ w.heap.size :: (w.heap.size + 1) :: F, k < N := fun N hN k hk => by
      rcases List.mem_cons.1 hk with e | hk
      · omega
      · rcases List.mem_cons.1 hk with e | e
        · omega
        · have := hF k e; have := e; omega
    have HL0 : Hid (∀ (a b : Obj), a = .cells #[.slice (some ⟨C, 0, none⟩) d.lines.length cap, .bool false, .int .i64 left, .int .i64 (d.steps : Int)] 31 (0, 0) → b = .cells #[.slice none 0 0, .bool false, .int .i64 0, .int .i64 0] 31 (0, 0) → Looped w F d.lines.length left (d.steps : Int) (.int .i64 0) (upto V.Ln.settle d.lines 0) ((w.alloc a).alloc b)) := by
      intro a b ha hb
      subst ha hb
      obtain ⟨z0, z1, hbw⟩ := two_new w _ _ _ (Below.refl _ _)
      refine ⟨C, cap, cs, z0, z1, hbw, hc1, hc2, ?_⟩
      rw [upto_zero]
      exact hrow.step (Only.of_below hbw) hF0
    have HU := Lib.hid (fun j l h => upto_succ V.Ln.settle d.lines j l h)
    have HUG := Lib.hid (fun j l h => upto_get V.Ln.settle d.lines j l h)
    have HUA := Lib.hid (upto_all V.Ln.settle d.lines)
    have HUL := Lib.hid (fun j => upto_length V.Ln.settle d.lines j)
    have HAT : Hid (∀ j, j < d.lines.length → d.lines[j]? = some (d.at j)) := fun j hj => at_get hj
    have HGL := Lib.hid (fun j => hg.at j)
    have HOV : Hid (∀ j, j < d.lines.length → (d.at j).over.length ≤ 1000000) := fun j hj => Nat.le_trans (hg.over _ (List.mem_of_getElem? (at_get hj))) hs
    have HF1 := Lib.hid hF1
    clear hop hdn hlf hst h hrow hF0 hF1 hF hl9
    go_enter Try.func12, Try.ntmps12
    go_wp2_with fail
    go_loopw [4] (fun x wr => ∃ j : Nat, j ≤ d.lines.length ∧ x = .int .i64 j ∧ Hid (Looped w F d.lines.length left (d.steps : Int) (.int .i64 0) (upto V.Ln.settle d.lines j) wr)) (fun x _ => d.lines.length - (intOf x).toNat)
    case atStart => exact ⟨0, by omega, rfl, HL0.out _ _ rfl rfl⟩
    case round =>
      obtain ⟨j, hj, rfl, hlo⟩ := hrel
      obtain ⟨C', cap', cs', z0, z1, hbw, i1, i2, i3⟩ := hlo.out
      obtain ⟨⟨x0, x1, x2, x3⟩, ⟨e0, e1, e2, e3⟩⟩ := four z0
      have i2' : cap' ≤ 2 ^ 63 - 1 := i2
      by_cases hlt : j < d.lines.length
      · have hjl := HAT.out j hlt
        have hcs : cs'[j]? = some (cs'[j]'(by rw [i3.len, HUL.out]; exact hlt)) := List.getElem?_eq_getElem _
        have hce := i3.line j _ _ hcs (HUG.out j _ hjl)
        obtain ⟨c1, c2⟩ := i3.cell j _ hcs
        obtain ⟨L, mark, b, o, c, us, m1, m2, m4, m5, m6, m7, m8, m9⟩ := hce.vals
        rw [m2] at c1 c2 hcs hce
        rw [Nat.mul_comm 2 j] at c1 c2
        have hmay := m1.may
        have hov := HOV.out j hlt
        have hL0 : 0 < L.length := by omega
        have hw1 : w.heap.size + 1 < wr.heap.size := (Array.getElem?_eq_some_iff.1 z1).1
        have hll9 : L.length ≤ 1000001 := by omega
        have z0a : ∀ ob : Obj, (wr.alloc ob).heap[w.heap.size]? = _ := fun ob => (Below.heap_alloc _ _ _ (by omega)).trans z0
        have q0 := fun ob => (four (z0a ob)).1.1
        have q1 := fun ob => (four (z0a ob)).1.2.1
        have q2 := fun ob => (four (z0a ob)).1.2.2.1
        have q3 := fun ob => (four (z0a ob)).1.2.2.2
        clear z0a hmay hov
        have HUJ := Lib.hid (HU.out j _ hjl)
        rcases Tells.settled m1 (HGL.out j) with ⟨rfl, hT⟩ | ⟨mk, rfl, hmk, hT⟩
        · have hcell : CellAt wr (w.heap.size :: (w.heap.size + 1) :: F) (.slice (some ⟨b, o, none⟩) L.length c, .int .i64 (-1)) (d.at j).settle :=
            ⟨L, -1, b, o, c, hT, rfl, rfl, m4, m5, m6, m7, fun i z hz => by
              have hu : us[i]? = some (us[i]'(by have := (List.getElem?_eq_some_iff.1 hz).1; omega)) := List.getElem?_eq_getElem _
              exact ⟨_, (m9 i _ hu).1, (m9 i _ hu).2 z hz⟩⟩
          have HNX : Hid (∀ ob : Obj, Looped w F d.lines.length left (d.steps : Int) (.int .i64 0) (upto V.Ln.settle d.lines (j + 1)) (wr.alloc ob)) := by
            intro ob
            refine ⟨C', cap', cs', (Below.heap_alloc _ _ _ (by omega)).trans z0, (Below.heap_alloc _ _ _ (by omega)).trans z1, hbw.alloc hbw.size _, i1, i2, ?_⟩
            rw [HUJ.out]
            exact (i3.retell hcs hcell).below ((Below.refl _ _).alloc (Nat.le_refl _) _)
          clear z0 z1 hbw i1 i2 i3 hlo hcs hce m1 m2 m4 m5 m6 m7 m8 m9 hT hcell hjl e0 e1 e2 e3
          generalize L.length = ll at *
          go_wp2
          go_roundw
          case rel => exact ⟨j + 1, by omega, by go_num, HNX.out _⟩
          case measure => simp [intOf]; omega
        · have hcell : CellAt wr (w.heap.size :: (w.heap.size + 1) :: F) (.slice (some ⟨b, o + mk, none⟩) (L.length - mk) (c - mk), .int .i64 (-1)) (d.at j).settle :=
            ⟨L.drop mk, -1, b, o + mk, c - mk, hT, rfl, by rw [List.length_drop], by rw [List.length_drop]; omega, by omega, m6, m7, fun i z hz => by
              rw [List.getElem?_drop] at hz
              have hu : us[mk + i]? = some (us[mk + i]'(by have := (List.getElem?_eq_some_iff.1 hz).1; omega)) := List.getElem?_eq_getElem _
              rw [Nat.add_assoc]
              exact ⟨_, (m9 _ _ hu).1, (m9 _ _ hu).2 z hz⟩⟩
          have m5' : c ≤ 2 ^ 63 - 1 := m5
          have hal : ∀ ob : Obj, Below wr.heap.size wr (wr.alloc ob) := fun ob => (Below.refl _ _).alloc (Nat.le_refl _) _
          have HWI := Lib.hid (fun ob => rf_with (w := wr.alloc ob) (F := w.heap.size :: (w.heap.size + 1) :: F) (i3.below (hal ob)) (HF1.out _ (by simp; omega)) d.lines.length cap' (by rw [HUL.out]) i1 i2 hnn false left (d.steps : Int) j hlt _ (d.at j).settle (hcell.below (hal ob)))
          have HZ0 := Lib.hid z0; have HZ1 := Lib.hid z1; have HBW := Lib.hid hbw
          clear z0 z1 hbw i1 i2 i3 hlo hcs hce m1 m2 m6 m7 m8 m9 hT hcell hjl hal m5
          generalize L.length = ll at *
          go_wp2_with fail
          refine (HWI.out _).mono ?_
          rintro e w5 ⟨C2, cap2, rfl, k1, k2, k3, k4, k5⟩
          have hz0 := (k4.block w.heap.size (by simp; omega)).trans ((Below.heap_alloc _ _ _ (by omega)).trans HZ0.out)
          have hz1 := (k4.block (w.heap.size + 1) (by simp; omega)).trans ((Below.heap_alloc _ _ _ (by omega)).trans HZ1.out)
          have hbw5 : Below w.heap.size w w5 := (HBW.out.alloc HBW.out.size _).trans (k4.mono (HBW.out.alloc HBW.out.size _).size)
          obtain ⟨⟨x0, x1, x2, x3⟩, ⟨e0, e1, e2, e3⟩⟩ := four hz0
          have HNX : Hid (Looped w F d.lines.length left (d.steps : Int) (.int .i64 0) (upto V.Ln.settle d.lines (j + 1)) ((((w5.setCell ⟨w.heap.size, 0, none⟩ (.slice (some ⟨C2, 0, none⟩) d.lines.length cap2)).setCell ⟨w.heap.size, 1, none⟩ (.bool false)).setCell ⟨w.heap.size, 2, none⟩ (.int .i64 left)).setCell ⟨w.heap.size, 3, none⟩ (.int .i64 (d.steps : Int)))) := by
            refine ⟨C2, cap2, cs'.set j (.slice (some ⟨b, o + mk, none⟩) (ll - mk) (c - mk), .int .i64 (-1)), sets_same hz0 _ _ _ _, (sets_other w5 w.heap.size (w.heap.size + 1) (by omega) _ _ _ _).trans hz1, sets_below hbw5 (Nat.le_refl _) _ _ _ _, k1, k2, ?_⟩
            rw [HUJ.out]
            exact k3.sets (by simp) _ _ _ _
          clear hz0 hz1 hbw5 k1 k2 k3 k4 k5
          go_wp2
          go_roundw
          case rel => exact ⟨j + 1, by omega, by go_num, HNX⟩
          case measure => simp [intOf]; omega
      · obtain rfl : j = d.lines.length := by omega
        rw [HUA.out] at i3
        have HFI : Hid (∀ (W : World) (down' : Bool) (left' : Int), Below wr.heap.size wr W → Stt d.settle.done down' left' → RefAt W (w.heap.size :: (w.heap.size + 1) :: F) (.agg #[.slice (some ⟨C', 0, none⟩) d.lines.length cap', .bool down', .int .i64 left', .int .i64 ((d.steps : Int) + 1)]) d.settle.done) := by
          intro W down' left' hb hs
          have hl : d.settle.done.lines = d.lines.map V.Ln.settle := rfl
          exact ⟨C', cap', cs', down', left', by rw [hl, List.length_map]; rfl, by rw [hl, List.length_map]; exact i1, i2, by rw [hl]; exact i3.below hb, hs⟩
        have HZ1 := Lib.hid z1; have HBW := Lib.hid hbw
        clear z0 z1 hbw i1 i2 i3 hlo e0 e1 e2 e3
        go_wp2_with fail
        refine (HDN.out _ C' cap').mono ?_
        rintro e w5 ⟨down', left', rfl, hst5, hb5⟩
        have z1 := (hb5.block (w.heap.size + 1) (Array.getElem?_eq_some_iff.1 HZ1.out).1).trans HZ1.out
        obtain ⟨⟨y0, y1, y2, y3⟩, ⟨u0, u1, u2, u3⟩⟩ := four z1
        have HRF := Lib.hid (HFI.out w5 _ _ hb5 hst5)
        have HBB : Hid (Below w.heap.size w w5) := HBW.out.trans (hb5.mono HBW.out.size)
        clear z1 hb5 hst5 x0 x1 x2 x3
        go_wp2
        exact bodyPost_ret (v := .tuple #[.agg #[.slice (some ⟨C', 0, none⟩) d.lines.length cap', .bool down', .int .i64 left', .int .i64 ((d.steps : Int) + 1)], .int .i64 0]) (by simp [results, Try.results12, go_sem, y0, y1, y2, y3]) rfl ⟨_, rfl, HRF.out.sets' (by simp) (fun k hk => by simp [hk]) _ _ _ _, sets_below HBB.out (by omega) _ _ _ _⟩
end
end Go.Proofs.Ytmamcliidlmghaa
