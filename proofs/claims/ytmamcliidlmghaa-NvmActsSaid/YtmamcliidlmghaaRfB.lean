/- The reference of layer 3: the contracts of in, now, May, Load, Stop. -/
import Derived.Test.YtmamcliidlmghaaRfA
import Derived.Deep.QuietTactic
import Derived.BigQuiet
namespace Go.Proofs.Ytmamcliidlmghaa
open Go.RowKit

section
variable {w : World} {F : List Nat}
set_option maxRecDepth 100000 in
theorem rf_in (w : World) (C n cap : Nat) (x y z : Value) (hx : ∃ b, x = .bool b) (hy : ∃ i, y = .int .i64 i) (hz : ∃ i, z = .int .i64 i) (off : Int) (hoff : I64 off) (hn : n ≤ 1024) (hn1 : 1 ≤ n) :
    Calls Try.prog 37 #[.agg #[.slice (some ⟨C, 0, none⟩) n cap, x, y, z], .int .i64 off] w fun e w' => e = .returned (.bool (decide (0 ≤ off ∧ off < 64 * (n : Int) ∧ off % 8 = 0))) ∧ Below w.heap.size w w' := by
  obtain ⟨b, rfl⟩ := hx
  obtain ⟨i, rfl⟩ := hy
  obtain ⟨j, rfl⟩ := hz
  have hoff' : -9223372036854775808 ≤ off ∧ off ≤ 9223372036854775807 := hoff
  have HB : Hid (∀ a : Obj, Below w.heap.size w (w.alloc a)) := fun a => (Below.refl _ _).alloc (Nat.le_refl _) a
  obtain ⟨k, hk⟩ : ∃ k : Int, k = 64 * (n : Int) := ⟨_, rfl⟩
  have hk2 : 64 * (n : Int) = k := hk.symm
  have hk3 : 64 ≤ k ∧ k ≤ 65536 := by omega
  rw [hk2]
  have HK := Lib.hid hk
  have hk8 : k % 8 = 0 := by omega
  clear hk hoff
  by_cases h0 : 0 ≤ off
  · by_cases h8 : off % 8 = 0
    · have hb : (off % 8 == 0) = true := by simpa using h8
      by_cases hl : off ≤ k - 8
      · rw [decide_eq_true (show 0 ≤ off ∧ off < k ∧ off % 8 = 0 from ⟨h0, by omega, h8⟩)]
        clear h8 hk8
        go_enter Try.func37, Try.ntmps37
        go_wp2
        go_ret
        exact ⟨rfl, HB.out _⟩
      · rw [decide_eq_false (show ¬ (0 ≤ off ∧ off < k ∧ off % 8 = 0) by omega)]
        have hl2 : k - 8 < off := by omega
        have hl3 : decide (off ≤ k - 8) = false := by simp; omega
        clear h8 hk8 hl hl2
        go_enter Try.func37, Try.ntmps37
        go_wp2
        go_ret
        exact ⟨rfl, HB.out _⟩
    · have hb : (off % 8 == 0) = false := by simpa using h8
      rw [decide_eq_false (show ¬ (0 ≤ off ∧ off < k ∧ off % 8 = 0) by omega)]
      clear h8 hk8
      go_enter Try.func37, Try.ntmps37
      go_wp2
      go_ret
      exact ⟨rfl, HB.out _⟩
  · rw [decide_eq_false (show ¬ (0 ≤ off ∧ off < k ∧ off % 8 = 0) by omega)]
    clear hk8
    go_enter Try.func37, Try.ntmps37
    go_wp2
    go_ret
    exact ⟨rfl, HB.out _⟩
set_option maxRecDepth 100000 in
theorem rf_now {p : Value × Value} {l : V.Ln} (h : CellAt w F p l) :
    Calls Try.prog 39 #[.agg #[p.1, p.2]] w fun e w' => ∃ u, e = .returned u ∧ ContAt w' F u l.now ∧ Below w.heap.size w w' := by
  obtain ⟨L, mark, b, o, c, h1, h2, h3, h4, h5, h6, h7, h8⟩ := h
  obtain ⟨u, hu, hc⟩ := h8 _ _ h1.now
  have hl := h1.may
  obtain ⟨p1, p2⟩ := p
  obtain rfl : p2 = _ := h2
  obtain rfl : p1 = _ := h3
  have HB : Hid (∀ a : Obj, Below w.heap.size w (w.alloc a)) := fun a => (Below.refl _ _).alloc (Nat.le_refl _) a
  have HC : Hid (∀ a : Obj, ContAt (w.alloc a) F u l.now) := fun a => hc.below ((Below.refl _ _).alloc (Nat.le_refl _) a)
  have hcell : ∀ a : Obj, (w.alloc a).cell? ⟨b, o + (L.length - 1), none⟩ = some u := fun a => (World.cell?_of_block (w := w) (a := ⟨b, o + (L.length - 1), none⟩) (Below.heap_alloc _ _ _ h7)).trans hu
  unfold maxLen at h5
  obtain ⟨k, hk⟩ : ∃ k, L.length = k + 1 := ⟨L.length - 1, by omega⟩
  rw [hk] at hcell h4 ⊢
  rw [Nat.add_sub_cancel] at hcell
  have hki : ((k + 1 : Nat) : Int) - 1 = (k : Int) := by omega
  clear h1 h6 h8 hu hc hl hk
  go_enter Try.func39, Try.ntmps39
  go_wp2
  go_ret
  exact ⟨u, rfl, HC.out _, HB.out _⟩

/-- A place of a word of it, opened: its line, wherever the call has come. -/
theorem RefAt.open {m : Value} {d : V.Dv} {w : World} {F : List Nat} (h : RefAt w F m d) :
    ∃ C cap cs down left, m = .agg #[.slice (some ⟨C, 0, none⟩) d.lines.length cap, .bool down, .int .i64 left, .int .i64 (d.steps : Int)] ∧ d.lines.length ≤ cap ∧ cap ≤ maxLen ∧ RowAt w F C cs d.lines ∧ Stt d down left ∧ C ∉ F ∧ C < w.heap.size ∧
      ∀ j, j < d.lines.length → ∃ p, cs[j]? = some p ∧ ∀ W, Below w.heap.size w W → W.cell? ⟨C, j * 2, none⟩ = some p.1 ∧ W.cell? ⟨C, j * 2 + 1, none⟩ = some p.2 ∧ CellAt W F p (d.at j) := by
  obtain ⟨C, cap, cs, down, left, h1, h2, h3, h4, h5⟩ := h
  refine ⟨C, cap, cs, down, left, h1, h2, h3, h4, h5, h4.off, h4.lt, fun j hj => ?_⟩
  have hcs : cs[j]? = some (cs[j]'(by rw [h4.len]; exact hj)) := List.getElem?_eq_getElem _
  have hls : d.lines[j]? = some (d.at j) := by
    unfold V.Dv.at
    rw [List.getElem?_eq_getElem hj]; rfl
  refine ⟨_, hcs, fun W hb => ?_⟩
  have h6 := h4.below hb
  obtain ⟨c1, c2⟩ := h6.cell j _ hcs
  rw [Nat.mul_comm]
  exact ⟨c1, c2, h6.line j _ _ hcs hls⟩
theorem boxed (w : World) : ∀ ob W, Below (w.alloc ob).heap.size (w.alloc ob) W → W.heap[w.heap.size]? = some ob ∧ Below w.heap.size w W := fun ob _ hb =>
  ⟨(hb.block w.heap.size (by simp)).trans (heap_alloc_new w ob), ((Below.refl _ _).alloc (Nat.le_refl _) ob).trans (hb.mono (by simp))⟩
set_option maxHeartbeats 1000000 in
set_option maxRecDepth 100000 in
theorem rf_load {m : Value} {d : V.Dv} (h : RefAt w F m d) (hg : d.Good) (off : Int) (hoff : I64 off) :
    Calls Try.prog 14 #[m, .int .i64 off] w fun e w' => e = .returned (.tuple #[.int .u64 (d.load off : Nat), .int .i64 (d.err off 8)]) ∧ Below w.heap.size w w' := by
  obtain ⟨C, cap, cs, down, left, rfl, hc1, hc2, hrow, ⟨hdn, hlf⟩, hCF, hCw, hop⟩ := h.open
  clear h hrow
  have HB : Hid (∀ a : Obj, Below w.heap.size w (w.alloc a)) := fun a => (Below.refl _ _).alloc (Nat.le_refl _) a
  have hn := hg.most
  have hn1 := hg.some
  unfold maxLen at hc2
  by_cases hd : d.left = 0
  · have HE : Hid (d.err off 8 = 12 ∧ d.load off = 0) := by
      have e : d.err off 8 = 12 := by unfold V.Dv.err; rw [if_pos hd]
      exact ⟨e, by unfold V.Dv.load; rw [if_neg (by rw [e]; decide)]⟩
    have hdt : down = true := by rw [hdn]; simp [hd]
    subst hdt
    clear hop hdn hlf
    go_enter Try.func14, Try.ntmps14
    go_wp2
    go_ret2
    exact ⟨by rw [HE.out.1, HE.out.2]; rfl, HB.out _⟩
  · have hdt : down = false := by rw [hdn]; simp [hd]
    subst hdt
    have HIN := Lib.hid (fun W => rf_in W C d.lines.length cap (.bool false) (.int .i64 left) (.int .i64 (d.steps : Int)) ⟨_, rfl⟩ ⟨_, rfl⟩ ⟨_, rfl⟩ off hoff hn hn1)
    by_cases hx : 0 ≤ off ∧ off < 64 * (d.lines.length : Int) ∧ off % 8 = 0
    · have e : d.err off 8 = 0 := by unfold V.Dv.err; rw [if_neg hd, if_pos hx]
      rw [decide_eq_true hx] at HIN
      obtain ⟨hx0, hx1, hx2⟩ := hx
      obtain ⟨t, rfl⟩ := Int.eq_ofNat_of_zero_le hx0
      obtain ⟨p, _, hp⟩ := hop (t / 64) (by omega)
      have HP := Lib.hid hp
      have hgl := hg.at (t / 64)
      have HE : Hid (d.load (t : Int) = M.getW (d.at (t / 64)).now ((t : Int) % 64)) := by
        show _ = _
        have hst : M.stands (d.at (t / 64)).now.length ((t : Int) % 64) = true := by simp only [M.stands, hgl.len, decide_eq_true_eq]; omega
        unfold V.Dv.load
        rw [if_pos e, V.Ln.get_eq]
        simp only [M.getW, hst, if_true]
        congr 1
      have hm : ((t : Int) % 64) = ((t % 64 : Nat) : Int) := rfl
      have hq : ((t : Int) / 64) = ((t / 64 : Nat) : Int) := rfl
      have hqn : t / 64 < d.lines.length := by omega
      have hr : t % 64 < 64 := Nat.mod_lt _ (by decide)
      have hB64 : (d.at (t / 64)).now.length = 64 := hgl.len
      rw [e]
      clear hop hp hdn hlf hg hx0 hx1 hx2 e hgl hoff
      rw [hm] at HE
      generalize d.at (t / 64) = ln at *
      generalize t / 64 = j at *
      generalize t % 64 = r at *
      generalize d.load (t : Int) = res at *
      have HB64 := Lib.hid hB64
      clear hB64
      go_enter Try.func14, Try.ntmps14
      go_wp2_with fail
      refine (HIN.out _).mono ?_
      rintro e w1 ⟨rfl, hb1⟩
      obtain ⟨hbx, hb2⟩ := boxed w _ w1 hb1
      have k0 : w1.cell? ⟨w.heap.size, 0, none⟩ = some (.slice (some ⟨C, 0, none⟩) d.lines.length cap) := cell_of_row w1 _ 0 _ _ _ hbx
      have HB1 := Lib.hid hb2
      obtain ⟨q1, q2, q3⟩ := HP.out w1 HB1.out
      have HN := Lib.hid (rf_now q3)
      clear q3 hb1 hb2 hbx
      go_wp2_with fail
      refine HN.out.mono ?_
      rintro e w2 ⟨u, rfl, hu, hb2⟩
      have HB2 : Hid (Below w.heap.size w w2) := HB1.out.trans (hb2.mono HB1.out.size)
      have HG : Hid (Calls Try.prog 38 #[u, .int .i64 ((r : Nat) : Int)] w2 fun e w' => e = .returned (.tuple #[.int .u64 (res : Int), .bool (M.stands ln.now.length ((r : Nat) : Int))]) ∧ ∃ m, w' = w2.drewN m) := by
        have hz : IsBytes w2 u ln.now := by obtain ⟨_, _, _, _, _, _, h⟩ := hu; exact h
        have h := rget_any u ln.now ((r : Nat) : Int) w2 hz (by omega)
        rw [← HE.out] at h
        exact h
      clear hu hb2 k0 q1 q2
      go_wp2_with fail
      refine HG.out.mono ?_
      rintro e w3 ⟨rfl, n3, rfl⟩
      go_wp2
      go_ret2
      exact ⟨rfl, below_drewN' HB2.out _⟩
    · have HE : Hid (d.err off 8 = 4 ∧ d.load off = 0) := by
        have e : d.err off 8 = 4 := by unfold V.Dv.err; rw [if_neg hd, if_neg hx]
        exact ⟨e, by unfold V.Dv.load; rw [if_neg (by rw [e]; decide)]⟩
      rw [decide_eq_false hx] at HIN
      clear hop hdn hlf hx
      go_enter Try.func14, Try.ntmps14
      go_wp2_with fail
      refine (HIN.out _).mono ?_
      rintro e w1 ⟨rfl, hb1⟩
      have HB1 := Lib.hid (boxed w _ w1 hb1).2
      clear hb1
      go_wp2
      go_ret2
      exact ⟨by rw [HE.out.1, HE.out.2]; rfl, HB1.out⟩

set_option maxRecDepth 100000 in
theorem rf_may {m : Value} {d : V.Dv} (h : RefAt w F m d) (hg : d.Good) (i : Int) (hi : I64 i) :
    Calls Try.prog 20 #[m, .int .i64 i] w fun e w' => e = .returned (.int .i64 (d.may i : Nat)) ∧ Below w.heap.size w w' := by
  obtain ⟨C, cap, cs, down, left, rfl, hc1, hc2, hrow, _, hCF, hCw, hop⟩ := h.open
  clear h hrow
  have HB : Hid (∀ a : Obj, Below w.heap.size w (w.alloc a)) := fun a => (Below.refl _ _).alloc (Nat.le_refl _) a
  have hn := hg.most
  unfold maxLen at hc2
  by_cases hx : 0 ≤ i ∧ i < (d.lines.length : Int)
  · obtain ⟨hx0, hx1⟩ := hx
    obtain ⟨j, rfl⟩ := Int.eq_ofNat_of_zero_le hx0
    obtain ⟨p, _, hp⟩ := hop j (by omega)
    have HE : Hid (d.may (j : Int) = (d.at j).over.length + 1) := by
      show _ = _
      unfold V.Dv.may
      rw [if_pos ⟨hx0, hx1⟩, Int.toNat_natCast]
    obtain ⟨_, _, L, mark, b, o, c, h1, h2, h3, _⟩ := hp w (Below.refl _ _)
    have h4 := h1.may
    rw [h4] at h3
    have HP : Hid (∀ a : Obj, (w.alloc a).cell? ⟨C, j * 2, none⟩ = some (.slice (some ⟨b, o, none⟩) ((d.at j).over.length + 1) c)) := fun a => by rw [← h3]; exact (hp _ (HB.out a)).1
    have hq := fun a => HP.out a
    clear hop hp h1 h2 h3 h4 hx0
    generalize (d.at j).over.length = k at *
    go_enter Try.func20, Try.ntmps20
    go_wp2
    go_ret
    exact ⟨by rw [HE.out]; rfl, HB.out _⟩
  · have HE : Hid (d.may i = 0) := by
      show _ = _
      unfold V.Dv.may
      rw [if_neg hx]
    clear hop
    have hx2 : i < 0 ∨ (0 ≤ i ∧ (d.lines.length : Int) ≤ i) := by omega
    clear hx
    rcases hx2 with hx | ⟨hx, hy⟩
    · go_enter Try.func20, Try.ntmps20
      go_wp2
      go_ret
      exact ⟨by rw [HE.out]; rfl, HB.out _⟩
    · go_enter Try.func20, Try.ntmps20
      go_wp2
      go_ret
      exact ⟨by rw [HE.out]; rfl, HB.out _⟩
end
end Go.Proofs.Ytmamcliidlmghaa
