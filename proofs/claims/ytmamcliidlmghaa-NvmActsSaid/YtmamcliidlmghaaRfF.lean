/- The reference of layer 3: the contract of Store. -/
import Derived.Test.YtmamcliidlmghaaRfE
import Derived.Test.YtmamcliidlmghaaRfP
namespace Go.Proofs.Ytmamcliidlmghaa
open Go.RowKit

/-- The contents of a line, as they lie. -/
theorem CellAt.vals {w : World} {F : List Nat} {p : Value × Value} {l : V.Ln} (h : CellAt w F p l) :
    ∃ L mark b o c, ∃ us : List Value, V.Tells l L mark ∧ p = (.slice (some ⟨b, o, none⟩) L.length c, .int .i64 mark) ∧ L.length ≤ c ∧ c ≤ maxLen ∧ b ∉ F ∧ b < w.heap.size ∧ us.length = L.length ∧
      ∀ (i : Nat) (u : Value), us[i]? = some u → w.cell? ⟨b, o + i, none⟩ = some u ∧ ∀ z, L[i]? = some z → ContAt w F u z := by
  obtain ⟨L, mark, b, o, c, h1, h2, h3, h4, h5, h6, h7, h8⟩ := h
  have each : ∀ i : Nat, ∃ u : Value, i < L.length → w.cell? ⟨b, o + i, none⟩ = some u ∧ ∀ z, L[i]? = some z → ContAt w F u z := by
    intro i
    by_cases hi : i < L.length
    · obtain ⟨u, hu, hc⟩ := h8 i _ (List.getElem?_eq_getElem hi)
      refine ⟨u, fun _ => ⟨hu, fun z hz => ?_⟩⟩
      rw [List.getElem?_eq_getElem hi] at hz
      obtain rfl := Option.some.inj hz
      exact hc
    · exact ⟨.int .u8 0, fun h => absurd h hi⟩
  refine ⟨L, mark, b, o, c, (List.range L.length).map fun i => Classical.choose (each i), h1, ?_, h4, h5, h6, h7, by simp, fun i u hu => ?_⟩
  · obtain ⟨p1, p2⟩ := p
    have e2 : p2 = _ := h2
    have e1 : p1 = _ := h3
    rw [e1, e2]
  · have hi : i < L.length := by
      have := (List.getElem?_eq_some_iff.1 hu).1
      simpa using this
    rw [List.getElem?_map, List.getElem?_range hi] at hu
    obtain rfl : Classical.choose (each i) = u := by simpa using hu
    exact Classical.choose_spec (each i) hi
theorem ContAt.one {w : World} {F : List Nat} {u : Value} {zs : List Int} (h : ContAt w F u zs) : u.oneCell' = true := by
  obtain ⟨g, o, c, rfl, _⟩ := h; rfl
theorem two_new (w : World) : ∀ a b W, Below ((w.alloc a).alloc b).heap.size ((w.alloc a).alloc b) W → W.heap[w.heap.size]? = some a ∧ W.heap[w.heap.size + 1]? = some b ∧ Below w.heap.size w W := by
  intro a b W hb
  have h0 : Below w.heap.size w ((w.alloc a).alloc b) := (((Below.refl _ _).alloc (Nat.le_refl _) a).alloc (by simp) b)
  refine ⟨?_, ?_, h0.trans (hb.mono h0.size)⟩
  · rw [hb.block _ (by simp; omega), Below.heap_alloc _ _ _ (by simp), heap_alloc_new]
  · rw [hb.block _ (by simp), show w.heap.size + 1 = (w.alloc a).heap.size by simp, heap_alloc_new]
theorem info_conts : (Try.prog.info? 22).map (fun i => (i.zero, i.size, i.bytes)) = some (some (.slice none 0 0), 1, 24) := by kernel_rfl
/-- Another content behind a line's. -/
theorem CellAt.more {w W : World} {F F0 : List Nat} {B b o ll : Nat} {mark : Int} {us : List Value} {L : List (List Int)} {g : Nat} {cap : Nat} {bv : Value} {zs : List Int} {l' : V.Ln}
    (hL : L.length = ll) (hul : us.length = ll) (hus : ∀ (i : Nat) (u : Value), us[i]? = some u → w.cell? ⟨b, o + i, none⟩ = some u ∧ ∀ z, L[i]? = some z → ContAt w F u z)
    (hb : Below w.heap.size w W) (hF0 : ∀ k ∈ F0, k ∈ F ∨ w.heap.size ≤ k) (hF1 : ∀ k ∈ F0, k < B) (hT : V.Tells l' (L ++ [zs]) mark)
    (hown : W.ownsRow B 22 1 (.slice (some ⟨g, 0, none⟩) (ll + 1) cap) (ll + 1) (us ++ [bv])) (hbv : ContAt W F0 bv zs) : CellAt W F0 (.slice (some ⟨g, 0, none⟩) (ll + 1) cap, .int .i64 mark) l' := by
  obtain ⟨cur, h1, h2, h3, h4, h5⟩ := own_row hown
  have hgB := owns_block hown g rfl
  refine ⟨L ++ [zs], mark, g, 0, cap, hT, rfl, by rw [List.length_append, hL]; rfl, by rw [List.length_append, hL]; exact h2, h3, fun hf => by have := hF1 g hf; omega, (Array.getElem?_eq_some_iff.1 h1).1, fun i z hz => ?_⟩
  have hi := (List.getElem?_eq_some_iff.1 hz).1
  rw [List.length_append, hL] at hi
  simp only [List.length_singleton] at hi
  rw [Nat.zero_add, hown.cellAt i (by omega)]
  by_cases hlt : i < ll
  · rw [List.getElem?_append_left (by omega)] at hz
    have hu : us[i]? = some (us[i]'(by omega)) := List.getElem?_eq_getElem (by omega)
    refine ⟨_, by rw [List.getElem?_append_left (by omega)]; exact hu, ?_⟩
    exact ((hus i _ hu).2 z hz).step (Only.of_below hb) hF0
  · obtain rfl : i = ll := by omega
    rw [List.getElem?_append_right (by omega), show i - L.length = 0 by omega] at hz
    obtain rfl : zs = z := by simpa using hz
    exact ⟨bv, by rw [List.getElem?_append_right (by omega), show i - us.length = 0 by omega]; rfl, hbv⟩

theorem RowAt.sets {W : World} {b C : Nat} {F : List Nat} {cs : List (Value × Value)} {ls : List V.Ln} (h : RowAt W F C cs ls) (hb : b ∈ F) (v0 v1 v2 v3 : Value) :
    RowAt ((((W.setCell ⟨b, 0, none⟩ v0).setCell ⟨b, 1, none⟩ v1).setCell ⟨b, 2, none⟩ v2).setCell ⟨b, 3, none⟩ v3) F C cs ls := by
  have h1 : ∀ (W : World) i v, Only F W (W.setCell ⟨b, i, none⟩ v) := fun W i v => (Only.setCell W ⟨b, i, none⟩ v).mono (fun k hk => by rw [List.mem_singleton.1 hk]; exact hb)
  exact h.step ((((h1 _ _ _).trans' (h1 _ _ _)).trans' (h1 _ _ _)).trans' (h1 _ _ _)) (fun k hk => .inl hk)
theorem sets_size (W : World) (b : Nat) (v0 v1 v2 v3 : Value) : ((((W.setCell ⟨b, 0, none⟩ v0).setCell ⟨b, 1, none⟩ v1).setCell ⟨b, 2, none⟩ v2).setCell ⟨b, 3, none⟩ v3).heap.size = W.heap.size := by simp [World.setCell]
theorem sets_other (W : World) (b k : Nat) (hk : k ≠ b) (v0 v1 v2 v3 : Value) : ((((W.setCell ⟨b, 0, none⟩ v0).setCell ⟨b, 1, none⟩ v1).setCell ⟨b, 2, none⟩ v2).setCell ⟨b, 3, none⟩ v3).heap[k]? = W.heap[k]? := by
  rw [Below.heap_setCell _ _ _ _ hk, Below.heap_setCell _ _ _ _ hk, Below.heap_setCell _ _ _ _ hk, Below.heap_setCell _ _ _ _ hk]
theorem RefAt.weaken {W : World} {F F' : List Nat} {m : Value} {d : V.Dv} (h : RefAt W F m d) (hF : ∀ k ∈ F', k ∈ F) : RefAt W F' m d := h.step (Only.refl F W) (fun k hk => .inl (hF k hk))
theorem RefAt.sets' {W : World} {b : Nat} {F F' : List Nat} {m : Value} {d : V.Dv} (h : RefAt W F m d) (hb : b ∈ F) (hF : ∀ k ∈ F', k ∈ F) (v0 v1 v2 v3 : Value) :
    RefAt ((((W.setCell ⟨b, 0, none⟩ v0).setCell ⟨b, 1, none⟩ v1).setCell ⟨b, 2, none⟩ v2).setCell ⟨b, 3, none⟩ v3) F' m d := by
  refine h.step ?_ (fun k hk => .inl (hF k hk))
  have h1 : ∀ (W : World) i v, Only F W (W.setCell ⟨b, i, none⟩ v) := fun W i v => (Only.setCell W ⟨b, i, none⟩ v).mono (fun k hk => by rw [List.mem_singleton.1 hk]; exact hb)
  exact (((h1 _ _ _).trans' (h1 _ _ _)).trans' (h1 _ _ _)).trans' (h1 _ _ _)
section
variable {w : World} {F : List Nat}
/-- The two calls of layer 1 on a content. -/
theorem cont_get {u : Value} {l : V.Ln} (h : ContAt w F u l.now) (hl : l.now.length = 64) (r : Nat) (hr : r % 8 = 0) (hr2 : r + 8 ≤ 64) :
    Calls Try.prog 38 #[u, .int .i64 (r : Int)] w fun e w' => e = .returned (.tuple #[.int .u64 (l.get r : Nat), .bool true]) ∧ ∃ m, w' = w.drewN m := by
  obtain ⟨_, _, _, _, _, _, hz⟩ := h
  have h1 := rget_any u l.now (r : Int) w hz (by omega)
  have hst : M.stands l.now.length (r : Int) = true := by simp only [M.stands, hl, decide_eq_true_eq]; omega
  rw [hst] at h1
  have e : M.getW l.now (r : Int) = l.get r := by
    rw [V.Ln.get_eq]
    simp only [M.getW, hst, if_true]
    congr 1
  rw [e] at h1
  exact h1
theorem cont_put {u : Value} {l : V.Ln} (h : ContAt w F u l.now) (hl : l.now.length = 64) (r n : Nat) (hr : r % 8 = 0) (hr2 : r + 8 ≤ 64) (hn : n < 2 ^ 64) :
    Calls Try.prog 43 #[u, .int .i64 (r : Int), .int .u64 (n : Int)] w (PutNew w (M.pv l.now r n 8)) := by
  obtain ⟨g, o, c, rfl, _, _, hz⟩ := h
  obtain ⟨a', c', e, h1, h2, h3, h4⟩ := hz
  simp only [Value.slice.injEq] at e
  obtain ⟨rfl, _, rfl⟩ := e
  rcases h3 with h3 | ⟨b', o', e, hc⟩
  · rw [h3] at hl; simp at hl
  · simp only [Option.some.injEq, Addr.mk.injEq, and_true] at e
    obtain ⟨rfl, rfl⟩ := e
    exact rput_new g o l.now r n c w (by omega) hr (by omega) hc h4 hn
set_option maxHeartbeats 4000000 in
set_option maxRecDepth 100000 in
theorem rf_store {m : Value} {d : V.Dv} (h : RefAt w F m d) (hF : ∀ k ∈ F, k < w.heap.size) (hg : d.Good) (hs : d.steps ≤ 1000000) (off : Int) (hoff : I64 off) (n : Nat) (hn : n < 2 ^ 64) :
    Calls Try.prog 22 #[m, .int .i64 off, .int .u64 (n : Int)] w (RetRefE w F (d.store off n) (d.err off 8)) := by
  have HSAME := Lib.hid h.same2
  obtain ⟨C, cap, cs, down, left, rfl, hc1, hc2, hrow, hst, hCF, hCw, hop⟩ := h.open
  have hst' := hst
  obtain ⟨hdn, hlf⟩ := hst'
  have hnn := hg.most
  have hnn1 := hg.some
  have hc2' : cap ≤ 2 ^ 63 - 1 := hc2
  by_cases hd : d.left = 0
  · have HE : Hid (d.err off 8 = 12 ∧ d.store off n = d) := by
      have e : d.err off 8 = 12 := by unfold V.Dv.err; rw [if_pos hd]
      exact ⟨e, V.Dv.store_no n (by rw [e]; decide)⟩
    have hdt : down = true := by rw [hdn]; simp [hd]
    subst hdt
    clear hop hdn hlf hst h hrow
    rw [HE.out.1, HE.out.2]
    go_enter Try.func22, Try.ntmps22
    go_wp2
    exact bodyPost_ret (v := .tuple #[.agg #[.slice (some ⟨C, 0, none⟩) d.lines.length cap, .bool true, .int .i64 left, .int .i64 (d.steps : Int)], .int .i64 12]) (by simp [results, Try.results22, go_sem]) rfl ⟨_, rfl, (HSAME.out _ _).1, (HSAME.out _ _).2⟩
  · have hdt : down = false := by rw [hdn]; simp [hd]
    subst hdt
    have HIN := Lib.hid (fun W => rf_in W C d.lines.length cap (.bool false) (.int .i64 left) (.int .i64 (d.steps : Int)) ⟨_, rfl⟩ ⟨_, rfl⟩ ⟨_, rfl⟩ off hoff hnn hnn1)
    by_cases hx : 0 ≤ off ∧ off < 64 * (d.lines.length : Int) ∧ off % 8 = 0
    · have he : d.err off 8 = 0 := by unfold V.Dv.err; rw [if_neg hd, if_pos hx]
      rw [decide_eq_true hx] at HIN
      obtain ⟨hx0, hx1, hx2⟩ := hx
      obtain ⟨t, rfl⟩ := Int.eq_ofNat_of_zero_le hx0
      have hjn : t / 64 < d.lines.length := by omega
      obtain ⟨p, hpc, hp⟩ := hop (t / 64) hjn
      have hgl := hg.at (t / 64)
      have hso : d.store (t : Int) n = (d.line (t / 64) (·.store (t % 64) n)).done := by rw [V.Dv.store_ok n he, Int.toNat_natCast]
      have hls : (d.line (t / 64) (·.store (t % 64) n)).lines = d.lines.set (t / 64) ((d.at (t / 64)).store (t % 64) n) := modify_set _ (at_get hjn)
      obtain ⟨L, mark, b, o, c, us, m1, rfl, m4, m5, m6, m7, m8, m9⟩ := (hp w (Below.refl _ _)).2.2.vals
      have hll := m1.may
      have hov : (d.at (t / 64)).over.length ≤ 1000000 := Nat.le_trans (hg.over _ (List.mem_of_getElem? (at_get hjn))) hs
      have hr8 : t % 64 % 8 = 0 := by omega
      have hr9 : t % 64 + 8 ≤ 64 := by omega
      have hq : ((t : Int) / 64) = ((t / 64 : Nat) : Int) := rfl
      have hm : ((t : Int) % 64) = ((t % 64 : Nat) : Int) := rfl
      have hl9 : -1 ≤ d.left ∧ d.left ≤ 1000000000 := hg.left
      rw [he, hso]
      have HDN := Lib.hid (fun W C' cap' => rf_done W C' d.lines.length cap' (d.line (t / 64) (·.store (t % 64) n)) false left (d.steps : Int) hst hd hl9 ⟨by omega, by omega⟩)
      have hF0 : ∀ k ∈ w.heap.size :: (w.heap.size + 1) :: F, k ∈ F ∨ w.heap.size ≤ k := fun k hk => by
        rcases List.mem_cons.1 hk with e | hk
        · exact .inr (by omega)
        · rcases List.mem_cons.1 hk with e | e
          · exact .inr (by omega)
          · exact .inl e
      have hF1 : ∀ (N : Nat), w.heap.size + 1 < N → ∀ k ∈ w.heap.size :: (w.heap.size + 1) :: F, k < N := fun N hN k hk => by
        rcases List.mem_cons.1 hk with e | hk
        · omega
        · rcases List.mem_cons.1 hk with e | e
          · omega
          · have := hF k e; omega
      have HWI := Lib.hid (fun W (hb : Below w.heap.size w W) (hb1 : w.heap.size + 1 < W.heap.size) p' hp' => rf_with (w := W) (F := w.heap.size :: (w.heap.size + 1) :: F) (hrow.step (Only.of_below hb) hF0) (hF1 _ hb1) d.lines.length cap rfl hc1 hc2 hnn false left (d.steps : Int) (t / 64) hjn p' ((d.at (t / 64)).store (t % 64) n) hp')
      have HFI : Hid (∀ (W : World) (F0 : List Nat) (C' cap' : Nat) (cs' : List (Value × Value)) (down' : Bool) (left' : Int), d.lines.length ≤ cap' → cap' ≤ maxLen → RowAt W F0 C' cs' (d.lines.set (t / 64) ((d.at (t / 64)).store (t % 64) n)) → Stt (d.line (t / 64) (·.store (t % 64) n)).done down' left' → RefAt W F0 (.agg #[.slice (some ⟨C', 0, none⟩) d.lines.length cap', .bool down', .int .i64 left', .int .i64 ((d.steps : Int) + 1)]) (d.line (t / 64) (·.store (t % 64) n)).done) := by
        intro W F0 C' cap' cs' down' left' i1 i2 i3 i4
        have hl : (d.line (t / 64) (·.store (t % 64) n)).done.lines = d.lines.set (t / 64) ((d.at (t / 64)).store (t % 64) n) := hls
        exact ⟨C', cap', cs', down', left', by rw [hl, List.length_set]; rfl, by rw [hl, List.length_set]; exact i1, i2, by rw [hl]; exact i3, i4⟩
      have HNOW := Lib.hid (fun W hb => rf_now (hp W hb).2.2)
      have HP := Lib.hid (fun W hb => (⟨(hp W hb).1, (hp W hb).2.1⟩ : _ ∧ _))
      by_cases hsame : (d.at (t / 64)).get (t % 64) = n
      · have hst2 : (d.at (t / 64)).store (t % 64) n = d.at (t / 64) := by unfold V.Ln.store; rw [if_pos hsame]
        have hset : d.lines.set (t / 64) (d.at (t / 64)) = d.lines := by
          apply List.ext_getElem?
          intro i
          rw [List.getElem?_set]
          split
          · rename_i e; subst e; first | exact (at_get hjn).symm | (rw [if_pos hjn]; exact (at_get hjn).symm)
          · rfl
        rw [hst2, hset] at HFI
        have HROW := Lib.hid (fun W hb => hrow.step (w' := W) (F' := w.heap.size :: (w.heap.size + 1) :: F) (Only.of_below hb) hF0)
        have HGET := Lib.hid (fun W u (hu : ContAt W F u (d.at (t / 64)).now) => cont_get hu hgl.len (t % 64) hr8 hr9)
        rw [hsame] at HGET
        have hb : ((n : Int) != (n : Int)) = false := by simp
        clear hop hdn hlf hst h hrow he hso hls m1 m4 m6 m7 m8 m9 hpc hx0 hl9 hp HWI hsame hst2 hset hF0 hF1 hgl hr8 hr9
        generalize L.length = ll at *
        generalize hoo : (d.at (t / 64)).over.length = ov at *
        subst hll
        have HOO := Lib.hid hoo
        clear hoo
        generalize t / 64 = j at *
        generalize t % 64 = r at *
        go_enter Try.func22, Try.ntmps22
        go_wp2_with fail
        refine (HIN.out _).mono ?_
        rintro e w1 ⟨rfl, hb1⟩
        obtain ⟨z0, z1, hbw⟩ := two_new w _ _ w1 hb1
        obtain ⟨⟨x0, x1, x2, x3⟩, _⟩ := four z0
        obtain ⟨p1, p2⟩ := HP.out w1 hbw
        have HBW := Lib.hid hbw; have Z0 := Lib.hid z0; have Z1 := Lib.hid z1
        clear hbw hb1 z0 z1
        go_wp2_with fail
        refine (HNOW.out _ (HBW.out.alloc HBW.out.size _)).mono ?_
        rintro e w3 ⟨u, rfl, hu, hb3⟩
        have hbw3 : Below w.heap.size w w3 := (HBW.out.alloc HBW.out.size _).trans (hb3.mono (HBW.out.alloc HBW.out.size _).size)
        have z0 := (hb3.block w.heap.size (by have := (Array.getElem?_eq_some_iff.1 Z0.out).1; simp; omega)).trans ((Below.heap_alloc _ _ _ (Array.getElem?_eq_some_iff.1 Z0.out).1).trans Z0.out)
        have z1 := (hb3.block (w.heap.size + 1) (by have := (Array.getElem?_eq_some_iff.1 Z1.out).1; simp; omega)).trans ((Below.heap_alloc _ _ _ (Array.getElem?_eq_some_iff.1 Z1.out).1).trans Z1.out)
        obtain ⟨⟨x0, x1, x2, x3⟩, _⟩ := four z0
        have HG := Lib.hid (HGET.out w3 u hu)
        have HBW3 := Lib.hid hbw3; have Z13 := Lib.hid z1
        clear hu hb3 hbw3 z0 z1 p1 p2
        go_wp2_with fail
        refine HG.out.mono ?_
        rintro e w4 ⟨rfl, k4, rfl⟩
        go_wp2_with fail
        refine (HDN.out _ C cap).mono ?_
        rintro e w5 ⟨down', left', rfl, hst5, hb5⟩
        have z1 := (hb5.block (w.heap.size + 1) (Array.getElem?_eq_some_iff.1 Z13.out).1).trans Z13.out
        obtain ⟨⟨y0, y1, y2, y3⟩, ⟨u0, u1, u2, u3⟩⟩ := four z1
        have hbw5 : Below w.heap.size w w5 := HBW3.out.trans ((below_drewN' (Below.refl _ _) k4).trans (hb5.mono (Nat.le_refl _)) |>.mono HBW3.out.size)
        have HRF := Lib.hid (HFI.out w5 _ C cap _ _ _ hc1 hc2 (HROW.out w5 hbw5) hst5)
        have HBB := Lib.hid hbw5
        clear z1 hbw5 hb5 hst5
        go_wp2
        exact bodyPost_ret (v := .tuple #[.agg #[.slice (some ⟨C, 0, none⟩) d.lines.length cap, .bool down', .int .i64 left', .int .i64 ((d.steps : Int) + 1)], .int .i64 0]) (by simp [results, Try.results22, go_sem, y0, y1, y2, y3]) rfl ⟨_, rfl, HRF.out.sets' (by simp) (fun k hk => by simp [hk]) _ _ _ _, sets_below HBB.out (by omega) _ _ _ _⟩
      · obtain ⟨i0, hi, hz0, hz1, hz2⟩ := info_parts info_conts
        have hgt := hgl.get_lt (t % 64)
        have HGET := Lib.hid (fun W u (hu : ContAt W F u (d.at (t / 64)).now) => cont_get hu hgl.len (t % 64) hr8 hr9)
        have HPUT := Lib.hid (fun W u (hu : ContAt W F u (d.at (t / 64)).now) => cont_put hu hgl.len (t % 64) n hr8 hr9 hn)
        have HPL : Hid ((M.pv (d.at (t / 64)).now (t % 64) n 8).length = 64) := by show _ = _; rw [M.pv_length]; exact hgl.len
        have hb : (((d.at (t / 64)).get (t % 64) : Int) != (n : Int)) = true := by simp; omega
        have HMORE := Lib.hid (fun (W : World) (B g cap' : Nat) (bv : Value) (hbl : Below w.heap.size w W) (hB : w.heap.size + 1 < B) hown hbv => CellAt.more (w := w) (W := W) (F := F) (F0 := w.heap.size :: (w.heap.size + 1) :: F) (B := B) (g := g) (cap := cap') (bv := bv) (l' := (d.at (t / 64)).store (t % 64) n) rfl m8 m9 hbl hF0 (hF1 B hB) (m1.store hgl (t % 64) n hr9 hsame) hown hbv)
        have HUS : Hid (∀ W, Below w.heap.size w W → ∀ (i : Nat) (u : Value), us[i]? = some u → W.cell? ((⟨b, o, none⟩ : Addr).add i) = some u) := by
          intro W hbl i u hu
          rw [Addr.add_lit]
          exact (hbl.cell (p := ⟨b, o + i, none⟩) m7).trans (m9 i u hu).1
        have HU1 : Hid (∀ u ∈ us, u.oneCell' = true) := by
          intro u hu
          obtain ⟨i, hi⟩ := List.mem_iff_getElem?.1 hu
          have hil := (List.getElem?_eq_some_iff.1 hi).1
          exact ((m9 i u hi).2 _ (List.getElem?_eq_getElem (by omega))).one
        have HUL : Hid (us.length = L.length * 1) := by show _ = _; omega
        have HF2 := Lib.hid hF1
        have m5' : c ≤ 2 ^ 63 - 1 := m5
        clear hop hdn hlf hst h hrow he hso hls m1 m6 m7 m8 m9 hpc hx0 hl9 hp hsame hF0 hF1 hgl hr8 hr9 m5
        generalize L.length = ll at *
        generalize hoo : (d.at (t / 64)).over.length = ov at *
        subst hll
        have HOO := Lib.hid hoo
        clear hoo
        generalize t / 64 = j at *
        generalize t % 64 = r at *
        generalize (d.at j).get r = x at *
        generalize M.pv (d.at j).now r n 8 = pv at *
        go_enter Try.func22, Try.ntmps22
        go_wp2_with fail
        refine (HIN.out _).mono ?_
        rintro e w1 ⟨rfl, hb1⟩
        obtain ⟨z0, z1, hbw⟩ := two_new w _ _ w1 hb1
        obtain ⟨⟨x0, x1, x2, x3⟩, _⟩ := four z0
        obtain ⟨p1, p2⟩ := HP.out w1 hbw
        have HBW := Lib.hid hbw; have Z0 := Lib.hid z0; have Z1 := Lib.hid z1
        have hw1 : w.heap.size + 1 < w1.heap.size := (Array.getElem?_eq_some_iff.1 z1).1
        clear hbw hb1 z0 z1
        go_wp2_with fail
        refine (HNOW.out _ (HBW.out.alloc HBW.out.size _)).mono ?_
        rintro e w3 ⟨u, rfl, hu, hb3⟩
        have hbw3 : Below w.heap.size w w3 := (HBW.out.alloc HBW.out.size _).trans (hb3.mono (HBW.out.alloc HBW.out.size _).size)
        have z0 := (hb3.block w.heap.size (by simp; omega)).trans ((Below.heap_alloc _ _ _ (by omega)).trans Z0.out)
        have z1 := (hb3.block (w.heap.size + 1) (by simp; omega)).trans ((Below.heap_alloc _ _ _ (by omega)).trans Z1.out)
        have zc := (hb3.block w1.heap.size (by simp)).trans (heap_alloc_new w1 _)
        have zl : w1.heap.size + 1 ≤ w3.heap.size := by have := hb3.size; simpa using this
        have k0 := cell_of_row w3 _ 0 _ _ _ zc
        have k1 := cell_of_row w3 _ 1 _ _ _ zc
        have HG := Lib.hid (HGET.out w3 u hu)
        have HBW3 := Lib.hid hbw3; have Z03 := Lib.hid z0; have Z13 := Lib.hid z1; have ZC3 := Lib.hid zc
        clear hu hb3 hbw3 z0 z1 zc p1 p2
        go_wp2_with fail
        refine HG.out.mono ?_
        rintro e w4 ⟨rfl, k4, rfl⟩
        go_wp2_with fail
        refine (HNOW.out _ (below_drewN' HBW3.out _)).mono ?_
        rintro e w5 ⟨u', rfl, hu5, hb5⟩
        have HPU := Lib.hid (HPUT.out w5 u' hu5)
        have HB5 := Lib.hid hb5
        clear hu5 hb5 k0 k1
        go_wp2_with fail
        refine HPU.out.mono ?_
        rintro e w6 ⟨g6, cap6, rfl, i1, i2, i3, i4⟩
        rw [HPL.out] at i3 ⊢
        have hb6 : Below w3.heap.size w3 w6 := (show Below w3.heap.size w3 w5 from ⟨HB5.out.os, HB5.out.tape, HB5.out.output, HB5.out.size, HB5.out.block⟩).trans (i4.mono HB5.out.size)
        have hbw6 : Below w.heap.size w w6 := HBW3.out.trans (hb6.mono HBW3.out.size)
        have z0 := (hb6.block w.heap.size (by omega)).trans Z03.out
        have z1 := (hb6.block (w.heap.size + 1) (by omega)).trans Z13.out
        have zc := (hb6.block w1.heap.size (by omega)).trans ZC3.out
        have hz6 : w1.heap.size + 1 ≤ w6.heap.size := Nat.le_trans zl hb6.size
        obtain ⟨⟨x0, x1, x2, x3⟩, _⟩ := four z0
        have k0 := cell_of_row w6 _ 0 _ _ _ zc
        have k1 := cell_of_row w6 _ 1 _ _ _ zc
        simp only [List.getElem?_toArray, List.getElem?_cons_zero, List.getElem?_cons_succ] at k0 k1
        have k0' : (w6.alloc (.cells #[] 22)).cell? ⟨w1.heap.size, 0, none⟩ = some (.slice (some ⟨b, o, none⟩) (ov + 1) c) := (World.cell?_of_block (w := w6) (a := ⟨w1.heap.size, 0, none⟩) (Below.heap_alloc _ _ _ (by show w1.heap.size < _; omega))).trans k0
        have HOW0 : Hid ((w6.alloc (.cells #[] 22)).ownsRow w6.heap.size 22 1 (.slice (some ⟨w6.heap.size, 0, none⟩) 0 0) 0 []) := World.ownsRow_made w6 #[] 0 (Nat.le_refl _) (by decide) rfl
        have HI3 := Lib.hid i3; have HG6 : Hid (w1.heap.size + 1 ≤ g6 ∧ g6 < w6.heap.size) := ⟨Nat.le_trans zl (Nat.le_trans HB5.out.size i1), i2⟩
        have HBW6 := Lib.hid hbw6; have Z06 := Lib.hid z0; have Z16 := Lib.hid z1; have ZC6 := Lib.hid zc
        have HBA : Hid (Below w.heap.size w (w6.alloc (.cells #[] 22))) := hbw6.alloc hbw6.size _
        clear i1 i2 i3 i4 hb6 hbw6 z0 z1 zc k0
        go_wp2_with (at_builtin; refine wpList_append_own_at _ rfl (.tmp 48) (.tmp 50) 66 rfl w6.heap.size 22 i0 _ 1 24 Try.underlying66 hi hz0 hz1 hz2 rfl (by decide) _ _ _ rfl HOW0.out ⟨b, o, none⟩ (ov + 1) c us rfl HUL.out (HUS.out _ HBA.out) HU1.out (by unfold maxLen; omega) (by omega) (by simp) ?_)
        intro v7 w7 hown' hgrow hnil hat
        have hown7 : w7.ownsRow w6.heap.size 22 1 v7 (ov + 1) us := by simpa using hown'
        have hbl7 : ∀ k, k < w6.heap.size → w7.heap[k]? = w6.heap[k]? := fun k hk => (hgrow.block k (by simp; omega) (fun e => by simp only [Value.ownBlock, Option.some.injEq] at e; omega)).trans (Below.heap_alloc _ _ _ hk)
        have hb7 : Below w6.heap.size w6 w7 := ((Below.refl _ _).alloc (Nat.le_refl _) _).grown hgrow (by simp) (fun k hk => by simp only [Value.ownBlock, Option.some.injEq] at hk; omega)
        obtain ⟨a7, c7, rfl, _, _⟩ := owns_form hown7
        have HOWN7 : Hid ((w7.alloc (.cells #[.slice (some ⟨g6, 0, none⟩) 64 cap6] 22)).ownsRow w6.heap.size 22 1 (.slice a7 (ov + 1) c7) (ov + 1) us) := owns_only (F := []) hown7 (Only.of_below ((Below.refl _ _).alloc (Nat.le_refl _) _)) (fun _ _ hk => by cases hk)
        have HB7 := Lib.hid hb7
        have hz7 := hb7.size
        clear hown' hgrow hnil hat hown7 hbl7 hb7 k0' x0 x1 x2 x3 k1
        go_wp2_with (at_builtin; refine wpList_append_own_at _ rfl (.tmp 52) (.tmp 54) 66 rfl w6.heap.size 22 i0 _ 1 24 Try.underlying66 hi hz0 hz1 hz2 rfl (by decide) _ _ _ rfl HOWN7.out ⟨w7.heap.size, 0, none⟩ 1 1 [.slice (some ⟨g6, 0, none⟩) 64 cap6] rfl rfl (cell_one_new _ _ _) (fun x hx => by obtain rfl := List.mem_singleton.1 hx; rfl) (by unfold maxLen; omega) (by omega) (by simp; omega) ?_)
        intro v8 w8 hown8 hgrow hnil hat
        obtain ⟨g8, c8, rfl, hg8⟩ := own_some hown8 hnil
        have hgb8 := owns_block hown8 g8 rfl
        have hb8 : Below w6.heap.size w6 w8 := (HB7.out.alloc HB7.out.size _).grown hgrow (HB7.out.alloc HB7.out.size _).size (fun k hk => owns_block HOWN7.out k hk)
        have z0 := (hb8.block w.heap.size (by omega)).trans Z06.out
        have z1 := (hb8.block (w.heap.size + 1) (by omega)).trans Z16.out
        have zc := (hb8.block w1.heap.size (by omega)).trans ZC6.out
        obtain ⟨⟨x0, x1, x2, x3⟩, ⟨e0, e1, e2, e3⟩⟩ := four z0
        have k0 := cell_of_row w8 _ 0 _ _ _ zc
        have k1 := cell_of_row w8 _ 1 _ _ _ zc
        have f0 := frozen_of_row w8 _ 0 _ _ zc
        simp only [List.getElem?_toArray, List.getElem?_cons_zero, List.getElem?_cons_succ] at k0 k1
        have hon : Only [w1.heap.size] w8 (w8.setCell ⟨w1.heap.size, 0, none⟩ (.slice (some ⟨g8, 0, none⟩) (ov + 1 + 1) c8)) := Only.setCell w8 ⟨w1.heap.size, 0, none⟩ _
        have hbl9 : Below w.heap.size w (w8.setCell ⟨w1.heap.size, 0, none⟩ (.slice (some ⟨g8, 0, none⟩) (ov + 1 + 1) c8)) := (HBW6.out.trans (hb8.mono HBW6.out.size)).setCell (by show w.heap.size ≤ w1.heap.size; omega) _
        have hown9 := owns_only hown8 hon (fun g hg hk => by simp only [Value.ownBlock, Option.some.injEq] at hg; have := List.mem_singleton.1 hk; omega)
        have hbv9 : ContAt (w8.setCell ⟨w1.heap.size, 0, none⟩ (.slice (some ⟨g8, 0, none⟩) (ov + 1 + 1) c8)) (w.heap.size :: (w.heap.size + 1) :: F) (.slice (some ⟨g6, 0, none⟩) 64 cap6) pv := by
          have h1 : IsBytes w8 (.slice (some ⟨g6, 0, none⟩) 64 cap6) pv := IsInts.below HI3.out hb8
          refine ⟨g6, 0, cap6, by rw [HPL.out], fun hf => ?_, by have h1 := HG6.out.2; have h2 := hb8.size; have h3 := hon.size; omega, IsInts.only h1 hon (fun _ a e hk => by cases e; have h4 : g6 = w1.heap.size := List.mem_singleton.1 hk; have h5 := HG6.out.1; omega)⟩
          have := HF2.out (w1.heap.size + 1) (by omega) g6 hf
          have := HG6.out.1
          omega
        have HCELL := Lib.hid (HMORE.out _ w6.heap.size g8 c8 _ hbl9 (by omega) hown9 hbv9)
        have hcb1 : ¬ w1.heap.size = w.heap.size := by omega
        have hcb2 : ¬ w.heap.size = w1.heap.size := by omega
        have HS9 := Lib.hid hon.size
        have HWC := Lib.hid (HWI.out _ hbl9 (by have h2 := hb8.size; have h3 := hon.size; omega) _ HCELL.out)
        have HZ0 := Lib.hid z0; have HZ1 := Lib.hid z1; have HBL9 := Lib.hid hbl9; have HB8 := Lib.hid hb8; have HW18 : Hid (w1.heap.size + 1 ≤ w8.heap.size) := by have := hb8.size; show _ ≤ _; omega
        clear hown8 hgrow hnil hat hon hbl9 hown9 hbv9 z0 z1 zc hb8 hgb8 hg8
        go_wp2_with fail
        refine HWC.out.mono ?_
        rintro e w9 ⟨C', cap', rfl, i1, i2, i3, i4, i5⟩
        have z0 := (i4.block w.heap.size (by have h1 := HW18.out; have h2 := HS9.out; omega)).trans ((Below.heap_setCell _ _ _ _ hcb2).trans HZ0.out)
        have z1 := (i4.block (w.heap.size + 1) (by have h1 := HW18.out; have h2 := HS9.out; omega)).trans ((Below.heap_setCell _ _ _ _ (by show ¬ _ = w1.heap.size; omega)).trans HZ1.out)
        obtain ⟨⟨x0, x1, x2, x3⟩, ⟨e0, e1, e2, e3⟩⟩ := four z0
        have I1 := Lib.hid i1; have I2 := Lib.hid i2; have I3 := Lib.hid i3
        have HB9 : Hid (Below w.heap.size w w9) := HBL9.out.trans (i4.mono HBL9.out.size)
        have Z1 := Lib.hid z1
        clear i1 i2 i3 i4 i5 z0 z1 k0 k1 f0
        go_wp2_with fail
        refine (HDN.out _ C' cap').mono ?_
        rintro e w10 ⟨down', left', rfl, hst5, hb5⟩
        have hsz := sets_size w9 w.heap.size (.slice (some ⟨C', 0, none⟩) d.lines.length cap') (.bool false) (.int .i64 left) (.int .i64 (d.steps : Int))
        have z1 := (hb5.block (w.heap.size + 1) (by rw [hsz]; exact (Array.getElem?_eq_some_iff.1 Z1.out).1)).trans ((sets_other w9 w.heap.size (w.heap.size + 1) (by omega) _ _ _ _).trans Z1.out)
        obtain ⟨⟨y0, y1, y2, y3⟩, ⟨u0, u1, u2, u3⟩⟩ := four z1
        have hbw5 : Below w.heap.size w w10 := (sets_below HB9.out (Nat.le_refl _) _ _ _ _).trans (hb5.mono (by rw [hsz]; exact HB9.out.size))
        have HRF := Lib.hid (HFI.out w10 (w.heap.size :: (w.heap.size + 1) :: F) C' cap' _ _ _ I1.out I2.out ((I3.out.sets (by simp) _ _ _ _).below hb5) hst5)
        have HBB := Lib.hid hbw5
        clear z1 hbw5 hb5 hst5 hsz x0 x1 x2 x3 e0 e1 e2 e3
        go_wp2
        exact bodyPost_ret (v := .tuple #[.agg #[.slice (some ⟨C', 0, none⟩) d.lines.length cap', .bool down', .int .i64 left', .int .i64 ((d.steps : Int) + 1)], .int .i64 0]) (by simp [results, Try.results22, go_sem, y0, y1, y2, y3]) rfl ⟨_, rfl, HRF.out.sets' (by simp) (fun k hk => by simp [hk]) _ _ _ _, sets_below HBB.out (by omega) _ _ _ _⟩
    · have HE : Hid (d.err off 8 = 4 ∧ d.store off n = d) := by
        have e : d.err off 8 = 4 := by unfold V.Dv.err; rw [if_neg hd, if_neg hx]
        exact ⟨e, V.Dv.store_no n (by rw [e]; decide)⟩
      rw [decide_eq_false hx] at HIN
      have HR := Lib.hid h
      clear hop hdn hlf hst h hrow hx
      rw [HE.out.1, HE.out.2]
      go_enter Try.func22, Try.ntmps22
      go_wp2_with fail
      refine (HIN.out _).mono ?_
      rintro e w1 ⟨rfl, hb1⟩
      obtain ⟨z0, z1, hb⟩ := two_new w _ _ w1 hb1
      obtain ⟨⟨x0, x1, x2, x3⟩, _⟩ := four z0
      obtain ⟨⟨y0, y1, y2, y3⟩, ⟨u0, u1, u2, u3⟩⟩ := four z1
      have HRF : Hid (RefAt w1 ((w.heap.size + 1) :: F) (.agg #[.slice (some ⟨C, 0, none⟩) d.lines.length cap, .bool false, .int .i64 left, .int .i64 (d.steps : Int)]) d) := HR.out.step (Only.of_below hb) (fun k hk => by rcases List.mem_cons.1 hk with e | e; exact .inr (by omega); exact .inl e)
      have HBB := Lib.hid hb
      clear hb hb1 z0 z1
      go_wp2
      exact bodyPost_ret (v := .tuple #[.agg #[.slice (some ⟨C, 0, none⟩) d.lines.length cap, .bool false, .int .i64 left, .int .i64 (d.steps : Int)], .int .i64 4]) (by simp [results, Try.results22, go_sem, y0, y1, y2, y3]) rfl ⟨_, rfl, HRF.out.sets _ _ _ _, sets_below HBB.out (by omega) _ _ _ _⟩
end
end Go.Proofs.Ytmamcliidlmghaa
