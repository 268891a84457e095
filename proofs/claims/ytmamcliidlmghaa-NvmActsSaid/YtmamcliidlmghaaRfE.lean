/- The reference of layer 3: the contracts of Flush and Store. -/
import Derived.Test.YtmamcliidlmghaaRfD
namespace Go.Proofs.Ytmamcliidlmghaa
open Go.RowKit

/-- A block of four cells, or of two. -/
theorem four {W : World} {b : Nat} {t : TypeId} {x0 x1 x2 x3 : Value} (h : W.heap[b]? = some (.cells #[x0, x1, x2, x3] t (0, 0))) :
    (W.cell? ⟨b, 0, none⟩ = some x0 ∧ W.cell? ⟨b, 1, none⟩ = some x1 ∧ W.cell? ⟨b, 2, none⟩ = some x2 ∧ W.cell? ⟨b, 3, none⟩ = some x3) ∧ (W.frozen? ⟨b, 0, none⟩ = false ∧ W.frozen? ⟨b, 1, none⟩ = false ∧ W.frozen? ⟨b, 2, none⟩ = false ∧ W.frozen? ⟨b, 3, none⟩ = false) :=
  ⟨⟨cell_of_row W b 0 _ _ _ h, cell_of_row W b 1 _ _ _ h, cell_of_row W b 2 _ _ _ h, cell_of_row W b 3 _ _ _ h⟩, frozen_of_row W b 0 _ _ h, frozen_of_row W b 1 _ _ h, frozen_of_row W b 2 _ _ h, frozen_of_row W b 3 _ _ h⟩
theorem RefAt.sets {W : World} {b : Nat} {F : List Nat} {m : Value} {d : V.Dv} (h : RefAt W (b :: F) m d) (v0 v1 v2 v3 : Value) :
    RefAt ((((W.setCell ⟨b, 0, none⟩ v0).setCell ⟨b, 1, none⟩ v1).setCell ⟨b, 2, none⟩ v2).setCell ⟨b, 3, none⟩ v3) F m d := by
  refine h.step ?_ (fun k hk => .inl (List.mem_cons_of_mem _ hk))
  have h1 : ∀ (W : World) i v, Only (b :: F) W (W.setCell ⟨b, i, none⟩ v) := fun W i v => (Only.setCell W ⟨b, i, none⟩ v).mono (fun k hk => by rw [List.mem_singleton.1 hk]; simp)
  exact (((h1 _ _ _).trans' (h1 _ _ _)).trans' (h1 _ _ _)).trans' (h1 _ _ _)
theorem sets_below {w W : World} {b : Nat} (h : Below w.heap.size w W) (hb : w.heap.size ≤ b) (v0 v1 v2 v3 : Value) : Below w.heap.size w ((((W.setCell ⟨b, 0, none⟩ v0).setCell ⟨b, 1, none⟩ v1).setCell ⟨b, 2, none⟩ v2).setCell ⟨b, 3, none⟩ v3) :=
  (((h.setCell hb _).setCell hb _).setCell hb _).setCell hb _
/-- What a call leaves that hands a device back, and an error. -/
def RetRefE (w : World) (F : List Nat) (d : V.Dv) (er : Int) (e : Ending) (w' : World) : Prop := ∃ m, e = .returned (.tuple #[m, .int .i64 er]) ∧ RefAt w' F m d ∧ Below w.heap.size w w'
/-- Three new blocks. -/
theorem three (w : World) : ∀ a b c W, Below (((w.alloc a).alloc b).alloc c).heap.size (((w.alloc a).alloc b).alloc c) W → W.heap[w.heap.size]? = some a ∧ W.heap[w.heap.size + 1]? = some b ∧ W.heap[w.heap.size + 1 + 1]? = some c ∧ Below w.heap.size w W := by
  intro a b c W hb
  have h0 : Below w.heap.size w (((w.alloc a).alloc b).alloc c) := ((((Below.refl _ _).alloc (Nat.le_refl _) a).alloc (by simp) b).alloc (by simp; omega) c)
  refine ⟨?_, ?_, ?_, h0.trans (hb.mono h0.size)⟩
  · rw [hb.block _ (by simp; omega), Below.heap_alloc _ _ _ (by simp; omega), Below.heap_alloc _ _ _ (by simp), heap_alloc_new]
  · rw [hb.block _ (by simp), Below.heap_alloc _ _ _ (by simp), show w.heap.size + 1 = (w.alloc a).heap.size by simp, heap_alloc_new]
  · rw [hb.block _ (by simp), show w.heap.size + 1 + 1 = ((w.alloc a).alloc b).heap.size by simp, heap_alloc_new]
theorem modify_set {ls : List V.Ln} {j : Nat} {l : V.Ln} (f : V.Ln → V.Ln) (h : ls[j]? = some l) : ls.modify j f = ls.set j (f l) := by
  have hj := (List.getElem?_eq_some_iff.1 h).1
  apply List.ext_getElem?
  intro i
  rw [List.getElem?_modify, List.getElem?_set]
  by_cases e : j = i
  · subst e
    rw [if_pos rfl, if_pos hj, h]; simp
  · rw [if_neg e]
    cases ls[i]? <;> simp [e]
theorem at_get {d : V.Dv} {j : Nat} (hj : j < d.lines.length) : d.lines[j]? = some (d.at j) := by
  unfold V.Dv.at
  rw [List.getElem?_eq_getElem hj]; rfl
section
variable {w : World} {F : List Nat}
theorem RefAt.same2 {m : Value} {d : V.Dv} (h : RefAt w F m d) (a b : Obj) : RefAt ((w.alloc a).alloc b) F m d ∧ Below w.heap.size w ((w.alloc a).alloc b) := by
  have hb : Below w.heap.size w ((w.alloc a).alloc b) := (((Below.refl _ _).alloc (Nat.le_refl _) a).alloc (by simp) b)
  exact ⟨h.below hb, hb⟩
set_option maxHeartbeats 1000000 in
set_option maxRecDepth 100000 in
theorem rf_flush {m : Value} {d : V.Dv} (h : RefAt w F m d) (hF : ∀ k ∈ F, k < w.heap.size) (hg : d.Good) (hs : d.steps ≤ 1000000) (off : Int) (hoff : I64 off) :
    Calls Try.prog 10 #[m, .int .i64 off] w (RetRefE w F (d.flush off) (d.err off 1)) := by
  have HSAME := Lib.hid h.same2
  obtain ⟨C, cap, cs, down, left, rfl, hc1, hc2, hrow, hst, hCF, hCw, hop⟩ := h.open
  have hst' := hst
  obtain ⟨hdn, hlf⟩ := hst'
  have hn := hg.most
  have hn1 := hg.some
  have hc2' : cap ≤ 2 ^ 63 - 1 := hc2
  have hoff' : -9223372036854775808 ≤ off ∧ off ≤ 9223372036854775807 := hoff
  by_cases hd : d.left = 0
  · have HE : Hid (d.err off 1 = 12 ∧ d.flush off = d) := by
      have e : d.err off 1 = 12 := by unfold V.Dv.err; rw [if_pos hd]
      exact ⟨e, V.Dv.flush_no (by rw [e]; decide)⟩
    have hdt : down = true := by rw [hdn]; simp [hd]
    subst hdt
    clear hop hdn hlf hst h hrow
    rw [HE.out.1, HE.out.2]
    go_enter Try.func10, Try.ntmps10
    go_wp2
    exact bodyPost_ret (v := .tuple #[.agg #[.slice (some ⟨C, 0, none⟩) d.lines.length cap, .bool true, .int .i64 left, .int .i64 (d.steps : Int)], .int .i64 12]) (by simp [results, Try.results10, go_sem]) rfl ⟨_, rfl, (HSAME.out _ _).1, (HSAME.out _ _).2⟩
  · have hdt : down = false := by rw [hdn]; simp [hd]
    subst hdt
    by_cases hx : 0 ≤ off ∧ off < 64 * (d.lines.length : Int)
    · have he : d.err off 1 = 0 := by unfold V.Dv.err; rw [if_neg hd, if_pos ⟨hx.1, hx.2, Int.emod_one _⟩]
      obtain ⟨hx0, hx1⟩ := hx
      obtain ⟨t, rfl⟩ := Int.eq_ofNat_of_zero_le hx0
      have hjn : t / 64 < d.lines.length := by omega
      obtain ⟨p, hpc, hp⟩ := hop (t / 64) hjn
      have hfl : d.flush (t : Int) = (d.line (t / 64) V.Ln.flush).done := by rw [V.Dv.flush_ok he, Int.toNat_natCast]
      have hls : (d.line (t / 64) V.Ln.flush).lines = d.lines.set (t / 64) (d.at (t / 64)).flush := modify_set _ (at_get hjn)
      obtain ⟨_, _, L, mark, b, o, c, m1, m2, m3, m4, m5, m6, m7, m8⟩ := hp w (Below.refl _ _)
      have hll := m1.may
      obtain ⟨p1, p2⟩ := p
      obtain rfl : p2 = _ := m2
      obtain rfl : p1 = _ := m3
      have hmk : ((L.length : Int) - 1) = ((d.at (t / 64)).over.length : Int) := by omega
      have hov : (d.at (t / 64)).over.length ≤ 1000000 := Nat.le_trans (hg.over _ (List.mem_of_getElem? (at_get hjn))) hs
      have hcell : CellAt w F (.slice (some ⟨b, o, none⟩) L.length c, .int .i64 ((d.at (t / 64)).over.length : Int)) (d.at (t / 64)).flush := ⟨L, _, b, o, c, by have h := m1.flush; rw [hmk] at h; exact h, rfl, rfl, m4, m5, m6, m7, m8⟩
      have HP := Lib.hid hp
      have hq : ((t : Int) / 64) = ((t / 64 : Nat) : Int) := rfl
      have hl9 : -1 ≤ d.left ∧ d.left ≤ 1000000000 := hg.left
      rw [he, hfl]
      have HDN := Lib.hid (fun W C' cap' => rf_done W C' d.lines.length cap' (d.line (t / 64) V.Ln.flush) false left (d.steps : Int) hst hd hl9 ⟨by omega, by omega⟩)
      have HWI := Lib.hid (fun W (hb : Below w.heap.size w W) (hb1 : w.heap.size + 1 < W.heap.size) => rf_with (w := W) (F := (w.heap.size + 1) :: F) (hrow.step (Only.of_below hb) (fun k hk => by rcases List.mem_cons.1 hk with e | e; exact .inr (by omega); exact .inl e)) (fun k hk => by rcases List.mem_cons.1 hk with e | e; omega; exact Nat.lt_of_lt_of_le (hF k e) hb.size) d.lines.length cap rfl hc1 hc2 hn false left (d.steps : Int) (t / 64) hjn _ _ (hcell.step (Only.of_below hb) (fun k hk => by rcases List.mem_cons.1 hk with e | e; exact .inr (by omega); exact .inl e)))
      have HFI : Hid (∀ W C' cap' cs' down' left', d.lines.length ≤ cap' → cap' ≤ maxLen → RowAt W ((w.heap.size + 1) :: F) C' cs' (d.lines.set (t / 64) (d.at (t / 64)).flush) → Stt (d.line (t / 64) V.Ln.flush).done down' left' → RefAt W ((w.heap.size + 1) :: F) (.agg #[.slice (some ⟨C', 0, none⟩) d.lines.length cap', .bool down', .int .i64 left', .int .i64 ((d.steps : Int) + 1)]) (d.line (t / 64) V.Ln.flush).done) := by
        intro W C' cap' cs' down' left' i1 i2 i3 i4
        have hl : (d.line (t / 64) V.Ln.flush).done.lines = d.lines.set (t / 64) (d.at (t / 64)).flush := hls
        exact ⟨C', cap', cs', down', left', by rw [hl, List.length_set]; rfl, by rw [hl, List.length_set]; exact i1, i2, by rw [hl]; exact i3, i4⟩
      have hcw : ∀ a b' c' : Obj, (((w.alloc a).alloc b').alloc c').heap.size = w.heap.size + 3 := fun a b' c' => by simp
      have hpre : ∀ a : Obj, (w.alloc a).cell? ⟨C, t / 64 * 2, none⟩ = some (.slice (some ⟨b, o, none⟩) L.length c) ∧ (w.alloc a).cell? ⟨C, t / 64 * 2 + 1, none⟩ = some (.int .i64 mark) := fun a => ⟨(hp _ ((Below.refl _ _).alloc (Nat.le_refl _) a)).1, (hp _ ((Below.refl _ _).alloc (Nat.le_refl _) a)).2.1⟩
      have hpre2 : ∀ a a' : Obj, ((w.alloc a).alloc a').cell? ⟨C, t / 64 * 2, none⟩ = some (.slice (some ⟨b, o, none⟩) L.length c) ∧ ((w.alloc a).alloc a').cell? ⟨C, t / 64 * 2 + 1, none⟩ = some (.int .i64 mark) := fun a a' => ⟨(hp _ (((Below.refl _ _).alloc (Nat.le_refl _) a).alloc (by simp) a')).1, (hp _ (((Below.refl _ _).alloc (Nat.le_refl _) a).alloc (by simp) a')).2.1⟩
      have q1 := fun a a' => (hpre2 a a').1
      have q2 := fun a a' => (hpre2 a a').2
      clear hop hdn hlf hst h hrow he hfl hls m1 m4 m6 m7 m8 hp hpre hpre2 hcell hpc hx0 hl9
      clear hmk
      generalize L.length = ll at *
      generalize hoo : (d.at (t / 64)).over.length = ov at *
      subst hll
      have HOO := Lib.hid hoo
      clear hoo
      generalize t / 64 = j at *
      go_enter Try.func10, Try.ntmps10
      go_wp2_with fail
      refine (HWI.out _ (((((Below.refl _ _).alloc (Nat.le_refl _) _).alloc (by simp) _).alloc (by simp; omega) _)) (by simp)).mono ?_
      rintro e w2 ⟨C', cap', rfl, i1, i2, i3, i4, i5⟩
      obtain ⟨z0, z1, z2, z3⟩ := three w _ _ _ w2 i4
      have I1 := Lib.hid i1; have I2 := Lib.hid i2; have I3 := Lib.hid i3; have Z1 := Lib.hid z1; have Z3 := Lib.hid z3
      clear i1 i2 i3 i4 i5 z0 z1 z2 z3
      go_wp2_with fail
      refine (HDN.out w2 C' cap').mono ?_
      rintro e w3 ⟨down', left', rfl, hst3, hb3⟩
      have hz := (hb3.block (w.heap.size + 1) (Array.getElem?_eq_some_iff.1 Z1.out).1).trans Z1.out
      obtain ⟨⟨y0, y1, y2, y3⟩, ⟨u0, u1, u2, u3⟩⟩ := four hz
      have HRF := Lib.hid (HFI.out w3 C' cap' _ _ _ I1.out I2.out (I3.out.below hb3) hst3)
      have HBB : Hid (Below w.heap.size w w3) := Z3.out.trans (hb3.mono Z3.out.size)
      clear hz hst3 hb3
      go_wp2
      exact bodyPost_ret (v := .tuple #[.agg #[.slice (some ⟨C', 0, none⟩) d.lines.length cap', .bool down', .int .i64 left', .int .i64 ((d.steps : Int) + 1)], .int .i64 0]) (by simp [results, Try.results10, go_sem, y0, y1, y2, y3]) rfl ⟨_, rfl, HRF.out.sets _ _ _ _, sets_below HBB.out (by omega) _ _ _ _⟩
    · have HE : Hid (d.err off 1 = 4 ∧ d.flush off = d) := by
        have e : d.err off 1 = 4 := by unfold V.Dv.err; rw [if_neg hd, if_neg (fun h => hx ⟨h.1, h.2.1⟩)]
        exact ⟨e, V.Dv.flush_no (by rw [e]; decide)⟩
      rw [HE.out.1, HE.out.2]
      obtain ⟨kk, hk⟩ : ∃ kk : Int, kk = 64 * (d.lines.length : Int) := ⟨_, rfl⟩
      have hk2 : 64 * (d.lines.length : Int) = kk := hk.symm
      have hx2 : off < 0 ∨ (0 ≤ off ∧ kk ≤ off) := by omega
      have hk3 : 64 ≤ kk ∧ kk ≤ 65536 := by omega
      clear hop hdn hlf hst h hrow hx hk
      rcases hx2 with hx | ⟨hx, hy⟩
      · go_enter Try.func10, Try.ntmps10
        go_wp2
        exact bodyPost_ret (v := .tuple #[.agg #[.slice (some ⟨C, 0, none⟩) d.lines.length cap, .bool false, .int .i64 left, .int .i64 (d.steps : Int)], .int .i64 4]) (by simp [results, Try.results10, go_sem]) rfl ⟨_, rfl, (HSAME.out _ _).1, (HSAME.out _ _).2⟩
      · go_enter Try.func10, Try.ntmps10
        go_wp2
        exact bodyPost_ret (v := .tuple #[.agg #[.slice (some ⟨C, 0, none⟩) d.lines.length cap, .bool false, .int .i64 left, .int .i64 (d.steps : Int)], .int .i64 4]) (by simp [results, Try.results10, go_sem]) rfl ⟨_, rfl, (HSAME.out _ _).1, (HSAME.out _ _).2⟩
end
end Go.Proofs.Ytmamcliidlmghaa
