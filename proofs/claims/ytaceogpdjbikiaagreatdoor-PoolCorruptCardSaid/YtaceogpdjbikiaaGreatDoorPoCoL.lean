
/- PoolCorrupt: a device's table with a word that was stored; the walk. -/
import Derived.Test.YtaceogpdjbikiaaGreatDoorPoAgL
import Derived.Test.YtaceogpdjbikiaaGreatDoorSlE
namespace Go.Proofs.YtaceogpdjbikiaaGreatDoor

open Go.RowKit

namespace V

open Go.Proofs.YtaceogpdjbikiaaGreatDoor.V

theorem table_words {d : Dv} {N : Nat} {ws : List Nat} (hlen : d.lines.length = N) (hleft : d.left ≠ 0) (ht : ∀ i, i < V.slabs N → d.word (128 + 8 * i) = ws.getD i 0) (h19 : 19 ≤ N) (hl : ws.length = V.slabs N) : Proofs.YtaceogpdjbikiaaGreatDoor.tableOf d = ws := by
  unfold Proofs.YtaceogpdjbikiaaGreatDoor.tableOf
  rw [hlen]
  have hneed := need_slabs (n := N) (by omega)
  unfold need at hneed
  apply List.ext_getElem?
  intro i
  by_cases hi : i < V.slabs N
  · rw [words_get _ _ _ _ hi, List.getElem?_eq_getElem (by omega : i < ws.length)]
    have hr : d.room 128 (V.slabs N : Nat) = 0 := room_zero.2 ⟨by omega, by omega, by omega, by rw [hlen]; omega⟩
    have he := room_err hr hleft i hi
    rw [load_word he, show (128 + 8 * (i : Int)).toNat = 128 + 8 * i by omega, ht i hi, List.getD_eq_getElem?_getD, List.getElem?_eq_getElem (by omega : i < ws.length)]
    rfl
  · rw [List.getElem?_eq_none (by rw [words_length]; omega), List.getElem?_eq_none (by omega)]
/-- A word of the table, stored. -/
theorem Up7.store {d : Dv} {N : Nat} {ws : List Nat} (h : Up7 d N ws) (h19 : 19 ≤ N) (hl : ws.length = V.slabs N) {i t : Nat} (hi : i < V.slabs N) (ht : t < 2 ^ 64) :
    d.err (128 + 8 * (i : Int)) 8 = 0 ∧ (d.store (128 + 8 * (i : Int)) t).opens = (Sh.at N, 0) ∧ (d.store (128 + 8 * (i : Int)) t).left ≠ 0 ∧ (d.store (128 + 8 * (i : Int)) t).lines.length = N ∧ Proofs.YtaceogpdjbikiaaGreatDoor.tableOf (d.store (128 + 8 * (i : Int)) t) = ws.set i t := by
  have hneed := need_slabs (n := N) (by omega)
  unfold need at hneed
  have h0 : (0 : Int) ≤ 128 + 8 * (i : Int) := by omega
  have h8 : (128 + 8 * (i : Int)) % 8 = 0 := by omega
  have e1 : d.err (128 + 8 * (i : Int)) 8 = 0 := by unfold Dv.err; rw [if_neg (by have := h.left; omega), if_pos ⟨h0, by rw [h.len]; omega, h8⟩]
  have es : d.store (128 + 8 * (i : Int)) t = (d.line ((128 + 8 * (i : Int)).toNat / 64) (·.store ((128 + 8 * (i : Int)).toNat % 64) t)).done := Dv.store_ok t e1
  have hsl : (d.store (128 + 8 * (i : Int)) t).lines.length = N := by rw [← h.len]; exact St.len (.store (128 + 8 * (i : Int)) t) d
  have hsf : (d.store (128 + 8 * (i : Int)) t).left < 0 := by
    rw [es]; show (if 0 < d.left then d.left - 1 else d.left) < 0
    rw [if_neg (by have := h.left; omega)]; exact h.left
  have hw : ∀ a, a % 8 = 0 → a < 64 * N → (d.store (128 + 8 * (i : Int)) t).word a = if 128 + 8 * (i : Int) = (a : Int) then t else d.word a := fun a h1 h2 => by
    rw [word_store h.good _ _ ht a h1 (by rw [h.len]; exact h2)]
    by_cases e : 128 + 8 * (i : Int) = (a : Int)
    · rw [if_pos ⟨e1, e⟩, if_pos e]
    · rw [if_neg (fun x => e x.2), if_neg e]
  refine ⟨e1, ?_, by omega, hsl, table_words hsl (by omega) (fun k hk => ?_) h19 (by rw [List.length_set]; exact hl)⟩
  · have hop := opens_yes (d := d.store (128 + 8 * (i : Int)) t) (by rw [hsl]; exact h19) (by omega) (fun k x hk => by
      rw [hsl] at hk
      have hk8 := wrds_at hk
      rw [hw (8 * k) (by omega) (by omega), if_neg (by omega)]
      exact h.head k x hk)
    rw [hsl] at hop; exact hop
  · rw [hw (128 + 8 * k) (by omega) (by omega), P.getD_set _ _ _ _ (by omega)]
    by_cases e : k = i
    · subst e; rw [if_pos (by omega), if_pos rfl]
    · rw [if_neg (by omega), if_neg e]; exact h.table k hk
theorem new_opens : ∀ s, s < 5 → 1 ≤ s → (newDv (3 + 16 * s)).opens.2 = 5 := by decide +kernel
end V

theorem allRight_set {n i t : Nat} (hi : i < n) : allRight ((List.replicate n 0).set i t) = S.rgt t := by
  cases h : S.rgt t with
  | true =>
    unfold allRight
    rw [List.all_eq_true]
    intro x hx
    rcases List.mem_or_eq_of_mem_set hx with h1 | h1
    · rw [(List.mem_replicate.1 h1).2]; rfl
    · rw [h1]; exact h
  | false =>
    apply allRight_not (k := i) (by simpa using hi)
    rw [P.getD_set _ _ _ _ (by simpa using hi), if_pos rfl]; exact h
/-- No device, no pool. -/
theorem nil_open (w : World) : Calls Tryz.prog 23 #[.pointer none] w fun e w' => e = .returned (.tuple #[.pointer none, .int .i64 1]) ∧ Below w.heap.size w w' := by
  have HOP := Lib.hid (no_open w)
  unfold shV V.Sh.zero at HOP
  dsimp only at HOP
  have HB : Hid (∀ w1, Below w.heap.size w w1 → ∀ o, Below w.heap.size w (w1.alloc o)) := fun w1 hb o => hb.alloc hb.size o
  go_enter Tryz.func23, Tryz.ntmps23
  go_wp2_with fail
  refine HOP.out.mono ?_
  rintro e w1 ⟨rfl, hb1⟩
  have HB1 := Lib.hid hb1
  clear hb1
  go_wp2
  go_ret2
  exact ⟨rfl, HB.out _ HB1.out _⟩
/-- What Open makes of a table with that word. -/
def CoPost (rr : Bool) (wr : World) (e : Ending) (w' : World) : Prop :=
  Below wr.heap.size wr w' ∧ ((rr = true ∧ ∃ q : Nat, e = .returned (.tuple #[.pointer (some ⟨q, 0, none⟩), .int .i64 0])) ∨ (rr = false ∧ e = .returned (.tuple #[.pointer none, .int .i64 5])))
set_option maxHeartbeats 4000000 in
set_option maxRecDepth 100000 in
theorem poolCorrupt_walk (n at_ v : Int) (w : World) (hn : (Lit.int .u8 n).wf = true) (hat : (Lit.int .u8 at_).wf = true) (hv : (Lit.int .u64 v).wf = true) (hTab : TabAt 1 Lib.deBruijn64tab w) (_hs : 1 < w.heap.size) (hT : TabT w) (hg : 0 < w.heap.size) :
    Calls Tryz.prog 4 #[.int .u8 n, .int .u8 at_, .int .u64 v] w fun e w' => e = .returned (.bool true) ∧ Below w.heap.size w w' := by
  have HAL := Lib.hid (alive7_any w hT hg hTab)
  obtain ⟨hn0, hn1⟩ : 0 ≤ n ∧ n ≤ 255 := by
    simp [Lit.wf, IntKind.min, IntKind.max, IntKind.signed, IntKind.bits] at hn
    omega
  obtain ⟨n, rfl⟩ := Int.eq_ofNat_of_zero_le hn0
  obtain ⟨ha0, ha1⟩ : 0 ≤ at_ ∧ at_ ≤ 255 := by
    simp [Lit.wf, IntKind.min, IntKind.max, IntKind.signed, IntKind.bits] at hat
    omega
  obtain ⟨at_, rfl⟩ := Int.eq_ofNat_of_zero_le ha0
  obtain ⟨hv0, hv1⟩ : 0 ≤ v ∧ v < 18446744073709551616 := by
    simp [Lit.wf, IntKind.min, IntKind.max, IntKind.signed, IntKind.bits] at hv
    omega
  obtain ⟨v, rfl⟩ := Int.eq_ofNat_of_zero_le hv0
  have HV : Hid (Unit → v < 2 ^ 64) := fun _ => by omega
  have HT := Lib.hid hT
  have HG := Lib.hid hg
  have HLN : Hid (∀ W, Calls Tryz.prog 7 #[.int .u8 (n : Int)] W fun e w' => e = .returned (.int .i64 ((3 + 16 * (1 + n % 4) : Nat) : Int)) ∧ W = w') := fun W => lines_any n W (by omega)
  obtain ⟨s, hs⟩ : ∃ s, 1 + n % 4 = s := ⟨_, rfl⟩
  have hs1 : 1 ≤ s := by omega
  have hs5 : s < 5 := by omega
  rw [hs] at HLN
  have HSH := Lib.hid (fill_sh s hs5 hs1)
  have hlen : (V.newDv (3 + 16 * s)).format.1.lines.length = 3 + 16 * s := (V.fresh (by omega) (by omega)).2.2.len
  obtain ⟨d0, hd0⟩ : ∃ d0, (V.newDv (3 + 16 * s)).format.1 = d0 := ⟨_, rfl⟩
  have HUP : Hid (V.Up7 d0 (3 + 16 * s) (List.replicate s 0)) := by
    have := V.up7_fresh hs1 hs5
    rw [HSH.out.2, hd0] at this; exact this
  have HST : Hid (d0.steps ≤ 20000) := by rw [← hd0]; exact (V.fresh (by omega) (by omega)).2.2.steps
  have HBG : Hid (∀ W, Below w.heap.size w W → Calls Tryz.prog 6 #[.int .i64 ((3 + 16 * s : Nat) : Int)] W fun e w' => ∃ D q : Nat, e = .returned (.tuple #[.pointer (some ⟨D, 0, none⟩), .pointer (some ⟨q, 0, none⟩)]) ∧ PoolK W (.pointer (some ⟨q, 0, none⟩)) (some ⟨D, 0, none⟩) d0 ⟨((3 + 16 * s : Nat) : Int), (s : Int), 128, 192⟩ (List.replicate s 0) (List.replicate s 0) [] w') := fun W hb => by
    refine (begin_any (3 + 16 * s) (by omega) (by omega) W (HT.out.below hb HG.out) (Nat.lt_of_lt_of_le HG.out hb.size)).mono ?_
    rintro e w' ⟨D, q, he, hp⟩
    rw [HSH.out.1, HSH.out.2, hd0] at hp
    exact ⟨D, q, he, hp⟩
  have HNW : Hid (∀ W : World, Calls Tryz.prog 27 #[.int .i64 ((3 + 16 * s : Nat) : Int)] W fun e w' => ∃ D : Nat, e = .returned (.pointer (some ⟨D, 0, none⟩)) ∧ DevIn W (.pointer (some ⟨D, 0, none⟩)) (V.newDv (3 + 16 * s)) w') := fun W => in_new _ (by omega) (by omega) W W (Below.refl _ _)
  have HON : Hid (∀ (W W' : World) (D : Nat), Below w.heap.size w W → DevIn W (.pointer (some ⟨D, 0, none⟩)) (V.newDv (3 + 16 * s)) W' → Calls Tryz.prog 23 #[.pointer (some ⟨D, 0, none⟩)] W' fun e w' => e = .returned (.tuple #[.pointer none, .int .i64 5]) ∧ Below w.heap.size w w') := fun W W' D hb hd => by
    refine (po_open hd.devK (by show (-1 : Int) ≠ 0; decide) (HT.out.below hb HG.out) (Nat.lt_of_lt_of_le HG.out hb.size)).mono ?_
    have hbb : Below w.heap.size w W' := hb.trans (hd.below.mono hb.size)
    rintro e w' ⟨h0, ⟨h1, _⟩ | ⟨_, h2, _⟩⟩
    · rw [V.new_opens s hs5 hs1] at h1; exact absurd h1 (by decide)
    · exact ⟨h2, hbb.trans (h0.mono hbb.size)⟩
  obtain ⟨i, hi⟩ : ∃ i, at_ % s = i := ⟨_, rfl⟩
  have his : i < s := by rw [← hi]; exact Nat.mod_lt _ (by omega)
  have e1 : (at_ : Int) % (s : Int) = (i : Int) := by rw [← hi]; simp
  have HN19 : Hid (19 ≤ 3 + 16 * s ∧ (List.replicate s 0).length = V.slabs (3 + 16 * s) ∧ i < V.slabs (3 + 16 * s)) := ⟨by omega, by rw [List.length_replicate]; exact HSH.out.2.symm, by rw [HSH.out.2]; exact his⟩
  have HS := Lib.hid (HUP.out.store HN19.out.1 HN19.out.2.1 HN19.out.2.2 (HV.out ()))
  have HNX : Hid (∀ W : World, Calls Tryz.prog 23 #[.pointer none] W fun e w' => e = .returned (.tuple #[.pointer none, .int .i64 1]) ∧ Below W.heap.size W w') := fun W => nil_open W
  have HOF : Hid (∀ W : World, Calls Tryz.prog 26 #[.int .u64 (v : Int)] W fun e w' => e = .returned (.tuple #[.agg (slabA (S.cls v) (S.tkn v)), .bool (S.rgt v)]) ∧ Below W.heap.size W w') := fun W => rs_of v W
  have HAR := Lib.hid (allRight_set (n := s) (t := v) his)
  have hi64 : i < 5 := by omega
  clear hTab hT hg hn hs hat hv hv0 hv1 ha0 hn0 hlen hd0 HUP HN19 hi
  generalize V.newDv (3 + 16 * s) = dn at *
  generalize S.rgt v = rr at *
  generalize S.cls v = k at *
  generalize S.tkn v = t at *
  generalize hNg : ((3 + 16 * s : Nat) : Int) = N at *
  go_enter Tryz.func4, Tryz.ntmps4
  go_wp2_with fail
  refine HAL.out.mono ?_
  rintro e w1 ⟨rfl, hb1⟩
  have HB1 := Lib.hid hb1
  have HBG1 := Lib.hid (HBG.out w1 hb1)
  have HT1 : Hid (TabT w1) := HT.out.below hb1 HG.out
  have HG1 : Hid (0 < w1.heap.size) := Nat.lt_of_lt_of_le HG.out hb1.size
  clear hb1
  go_wp2_with fail
  refine (HLN.out _).mono ?_
  rintro e w2 ⟨rfl, rfl⟩
  go_wp2_with fail
  refine HBG1.out.mono ?_
  rintro e w3 ⟨D, q, rfl, hp3⟩
  have HSP := Lib.hid (k_shape hp3)
  unfold shV at HSP
  dsimp only at HSP
  clear hp3
  go_wp2_with fail
  refine HSP.out.mono ?_
  rintro e w4 ⟨rfl, hp4, _⟩
  have HP5 : Hid (PoolK w1 (.pointer (some ⟨q, 0, none⟩)) (some ⟨D, 0, none⟩) d0 ⟨N, (s : Int), 128, 192⟩ (List.replicate s 0) (List.replicate s 0) [] (w4.alloc (shObj N s 128 192))) := hp4.newer ((Below.refl _ _).alloc (Nat.le_refl _) _) (fun k hk => by cases hk)
  have HR5 : Hid ((w4.alloc (shObj N s 128 192)).heap[w4.heap.size]? = some (shObj N s 128 192)) := heap_alloc_new w4 _
  have hc1 : (w4.alloc (shObj N s 128 192)).cell? ⟨w4.heap.size, 1, none⟩ = some (.int .i64 (s : Int)) := cell_of_row _ _ 1 _ _ _ HR5.out
  have hc2 : (w4.alloc (shObj N s 128 192)).cell? ⟨w4.heap.size, 2, none⟩ = some (.int .i64 128) := cell_of_row _ _ 2 _ _ _ HR5.out
  unfold shObj at hc1 hc2
  have HSTO : Hid (∀ m, Calls Tryz.prog 25 #[.pointer (some ⟨D, 0, none⟩), .int .i64 (128 + 8 * (i : Int)), .int .u64 (v : Int)] ((w4.alloc (shObj N s 128 192)).drewN m) fun e w' => e = .returned (.int .i64 0) ∧ PoolK w1 (.pointer (some ⟨q, 0, none⟩)) (some ⟨D, 0, none⟩) (d0.store (128 + 8 * (i : Int)) v) ⟨N, (s : Int), 128, 192⟩ (List.replicate s 0) (List.replicate s 0) [] w' ∧ KeepB [] ((w4.alloc (shObj N s 128 192)).drewN m) w') := fun m => by
    refine (HP5.out.drewN m).dev (R := fun e => e = .returned (.int .i64 0)) (fun F hd => ?_)
    have h := dev_store hd (128 + 8 * (i : Int)) ⟨by omega, by omega⟩ v (HV.out ()) (by have := HST.out; omega)
    rw [HS.out.1] at h
    exact h
  unfold shObj at HSTO
  have hq1 : IntKind.i64.wrap (i : Int) = (i : Int) := IntWalk.i64_in _ (by omega)
  have hq2 : IntKind.i64.wrap (8 * (i : Int)) = 8 * (i : Int) := IntWalk.i64_in _ (by omega)
  have hq3 : IntKind.i64.wrap (128 + 8 * (i : Int)) = 128 + 8 * (i : Int) := IntWalk.i64_in _ (by omega)
  have hs0 : (s : Int) ≠ 0 := by omega
  clear hp4
  have HOPN : Hid (∀ W, PoolK w1 (.pointer (some ⟨q, 0, none⟩)) (some ⟨D, 0, none⟩) (d0.store (128 + 8 * (i : Int)) v) ⟨N, (s : Int), 128, 192⟩ (List.replicate s 0) (List.replicate s 0) [] W → Below w.heap.size w W ∧ Calls Tryz.prog 23 #[.pointer (some ⟨D, 0, none⟩)] W (CoPost rr W)) := fun W hp => by
    refine ⟨HB1.out.trans (hp.below0.mono HB1.out.size), (k_open hp HS.out.2.2.1 HT1.out HG1.out).mono ?_⟩
    rintro e w' ⟨K, _, hb, ⟨_, h2, q2, he, _⟩ | ⟨hno, he, _⟩⟩
    · rw [HS.out.2.2.2.2, HAR.out] at h2
      exact ⟨hb, .inl ⟨h2, q2, he⟩⟩
    · refine ⟨hb, .inr ⟨?_, he⟩⟩
      rcases hno with h | h
      · rw [HS.out.2.1] at h; exact absurd rfl h
      · rw [HS.out.2.2.2.2, HAR.out] at h; exact h
  go_wp2_with fail
  go_region_with (first
    | (go_at_call 25; refine (HSTO.out _).mono ?_; rintro e w6 ⟨rfl, hp6, _⟩; obtain ⟨hb6, ho6⟩ := HOPN.out _ hp6; have HB6 := Lib.hid hb6; have HO6 := Lib.hid ho6; clear hp6 hb6 ho6)
    | fail)
  all_goals
    go_wp2_with fail
    refine HO6.out.mono ?_
    rintro e w7 ⟨hb7, hcase⟩
    have HB7 := Lib.hid (HB6.out.trans (hb7.mono HB6.out.size))
    clear hb7
    rcases hcase with ⟨rfl, q2, rfl⟩ | ⟨rfl, rfl⟩
    all_goals
      go_wp2_with fail
      refine (HOF.out _).mono ?_
      rintro e w8 ⟨rfl, hb8⟩
      go_upto_region 11 with (refine wpList_store_row rfl 65 (.tmp 12) (.tmp 55) rfl _ (slabA k t) rfl rfl 65 _ (heap_alloc_new w8 _) (by rw [slabA_size]; exact info_slab) (by rw [slabA_zero, slabA_size, slabA_size]) (slabA_one k t) ?_)
      rw [World.setRow_alloc_new]
      have hb8' : Below w.heap.size w w8 := HB7.out.trans (hb8.mono HB7.out.size)
      have HB8 : Hid (Below w.heap.size w (w8.alloc (.cells (slabA k t) 65 (0, 0)))) := hb8'.alloc hb8'.size _
      clear hb8 hb8'
      generalize w8.alloc (.cells (slabA k t) 65 (0, 0)) = W8 at *
      generalize w8.heap.size = g at *
      go_wp2_with fail
      refine (HLN.out _).mono ?_
      rintro e w9 ⟨rfl, rfl⟩
      go_wp2_with fail
      refine (HNW.out _).mono ?_
      rintro e w10 ⟨D2, rfl, hd⟩
      have HO9 := Lib.hid (HON.out _ _ D2 HB8.out hd)
      clear hd
      go_wp2_with fail
      refine HO9.out.mono ?_
      rintro e w11 ⟨rfl, hb11⟩
      have HB11 := Lib.hid hb11
      clear hb11
      go_wp2_with fail
      refine (HNX.out _).mono ?_
      rintro e w12 ⟨rfl, hb12⟩
      have HB12 : Hid (Below w.heap.size w w12) := HB11.out.trans (hb12.mono HB11.out.size)
      clear hb12
      go_wp2
      go_ret
      exact ⟨rfl, HB12.out⟩
end Go.Proofs.YtaceogpdjbikiaaGreatDoor
