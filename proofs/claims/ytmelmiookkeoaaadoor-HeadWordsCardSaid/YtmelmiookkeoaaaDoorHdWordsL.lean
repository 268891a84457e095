
/- The walk of HeadWords: whatever is handed in, the call answers true, and what was there stays. -/
import Derived.Test.YtmelmiookkeoaaaDoorHdFitsL

import Derived.Test.YtmelmiookkeoaaaDoorHdF

import Derived.Deep.QuietTactic

import Derived.BigQuiet

import Derived.Deep.RegionWith

import Derived.Outline

import Derived.Deep.DeepCutAuto

import Derived.Deep.RegionHeldLaw

namespace Go.Proofs.YtmelmiookkeoaaaDoor

open Go.RowKit

/-- Two shapes in memory. -/
def Rows2 (W : World) (b1 b2 : Nat) (xa xb xc xd ya yb yc yd : Int) : Prop :=
  (W.cell? ⟨b1, 0, none⟩ = some (.int .i64 xa) ∧ W.cell? ⟨b1, 1, none⟩ = some (.int .i64 xb) ∧ W.cell? ⟨b1, 2, none⟩ = some (.int .i64 xc) ∧ W.cell? ⟨b1, 3, none⟩ = some (.int .i64 xd)) ∧
  (W.cell? ⟨b2, 0, none⟩ = some (.int .i64 ya) ∧ W.cell? ⟨b2, 1, none⟩ = some (.int .i64 yb) ∧ W.cell? ⟨b2, 2, none⟩ = some (.int .i64 yc) ∧ W.cell? ⟨b2, 3, none⟩ = some (.int .i64 yd))
theorem Rows2.mk {w W : World} {b1 b2 : Nat} {xa xb xc xd ya yb yc yd : Int} {t1 t2 : TypeId} (hb : Below w.heap.size w W)
    (h1 : w.heap[b1]? = some (.cells #[.int .i64 xa, .int .i64 xb, .int .i64 xc, .int .i64 xd] t1 (0, 0)))
    (h2 : w.heap[b2]? = some (.cells #[.int .i64 ya, .int .i64 yb, .int .i64 yc, .int .i64 yd] t2 (0, 0))) : Rows2 W b1 b2 xa xb xc xd ya yb yc yd :=
  ⟨(four' ((hb.block _ (Array.getElem?_eq_some_iff.1 h1).1).trans h1)).1, (four' ((hb.block _ (Array.getElem?_eq_some_iff.1 h2).1).trans h2)).1⟩
/-- What Of tells of a number, and the words of that. -/
structure OfAt (n : Nat) (s : V.Sh) (is : Bool) (l : List Nat) : Prop where
  of : ∀ w, Calls Tryd.prog 12 #[.int .i64 (n : Int)] w (ShPost w s (.bool is))
  words : ∀ w, TabT w → 0 < w.heap.size → Calls Tryd.prog 15 #[shV s] w (WordsPost w l)
  len : (is = true ∧ l = V.wrds n ∧ s = V.Sh.at n ∧ l.length = 8) ∨ (is = false ∧ l.length = 0)
theorem ofAt (n : Nat) (h1 : n ≤ 1024) : ∃ s is l, OfAt n s is l := by
  refine ⟨V.Sh.of (n : Int), V.isSh (n : Int), (V.Sh.of (n : Int)).words, fun w => hd_of w _ ⟨by omega, by omega⟩, fun w hT hg => hd_words w _ ?_ hT hg, ?_⟩
  · unfold V.Sh.of
    split
    · exact ⟨by show (_ : Int) ≤ ((_ : Nat) : Int); omega, by show ((Int.toNat _ : Nat) : Int) ≤ _; omega⟩
    · exact ⟨by decide, by decide⟩
  · by_cases hn : 19 ≤ n
    · left
      refine ⟨V.isSh_nat ⟨hn, h1⟩, by rw [V.Sh.of_nat ⟨hn, h1⟩, V.Sh.words_at ⟨hn, h1⟩], V.Sh.of_nat ⟨hn, h1⟩, by rw [V.Sh.of_nat ⟨hn, h1⟩, V.Sh.words_at ⟨hn, h1⟩]; rfl⟩
    · right
      exact ⟨V.isSh_no (by omega), by rw [V.Sh.of_no (by omega), V.Sh.words_zero]; rfl⟩
set_option maxHeartbeats 4000000 in
set_option maxRecDepth 100000 in
theorem headWords_walk (a0 a1 : Int) (w : World) (w0 : (Lit.int .u16 a0).wf = true) (w1 : (Lit.int .u16 a1).wf = true) (hT : TabT w) (hg : 0 < w.heap.size) :
    Calls Tryd.prog 8 #[.int .u16 a0, .int .u16 a1] w fun e w' => e = .returned (.bool true) ∧ Below w.heap.size w w' := by
  obtain ⟨a, rfl, ha⟩ := hd_u16 w0
  obtain ⟨b, rfl, hb⟩ := hd_u16 w1
  have HA := Lib.hid (alive5_any w hT hg)
  obtain ⟨n, hn⟩ : ∃ n : Nat, n = a % 1024 + 1 := ⟨_, rfl⟩
  have hn2 : (a : Int) % 1024 + 1 = (n : Int) := by omega
  have hn3 : n ≤ 1024 := by omega
  obtain ⟨m, hm⟩ : ∃ m : Nat, m = b % 1024 + 1 := ⟨_, rfl⟩
  have hm2 : (b : Int) % 1024 + 1 = (m : Int) := by omega
  have hm3 : m ≤ 1024 := by omega
  obtain ⟨⟨xa, xb, xc, xd⟩, i1, l1, hO1⟩ := ofAt n hn3
  obtain ⟨⟨ya, yb, yc, yd⟩, i2, l2, hO2⟩ := ofAt m hm3
  have HT := Lib.hid hT
  have HG := Lib.hid hg
  have O1 := Lib.hid hO1.of
  have O2 := Lib.hid hO2.of
  have HL1 := Lib.hid hO1.len
  have HL2 := Lib.hid hO2.len
  have W1 : Hid (∀ W, Below w.heap.size w W → Calls Tryd.prog 15 #[.agg #[.int .i64 xa, .int .i64 xb, .int .i64 xc, .int .i64 xd]] W (WordsPost W l1)) := fun W hb => hO1.words W (hT.below hb hg) (Nat.lt_of_lt_of_le hg hb.size)
  have W2 : Hid (∀ W, Below w.heap.size w W → Calls Tryd.prog 15 #[.agg #[.int .i64 ya, .int .i64 yb, .int .i64 yc, .int .i64 yd]] W (WordsPost W l2)) := fun W hb => hO2.words W (hT.below hb hg) (Nat.lt_of_lt_of_le hg hb.size)
  clear hO1 hO2 hT hg hn hm w0 w1
  unfold ShPost shV at *
  dsimp only at *
  go_enter Tryd.func8, Tryd.ntmps8
  go_wp2_with fail
  refine HA.out.mono ?_
  rintro e w1 ⟨rfl, hb⟩
  have HB1 := Lib.hid hb
  clear hb
  go_wp2_with fail
  refine (O1.out _).mono ?_
  rintro e w2 ⟨rfl, hb⟩
  have HB2 : Hid (∀ o, Below w.heap.size w (w2.alloc o)) := fun o => (HB1.out.trans (hb.mono HB1.out.size)).alloc (Nat.le_trans HB1.out.size hb.size) o
  have HX2 : Hid (∀ o, (w2.alloc o).heap[w2.heap.size]? = some o) := fun o => heap_alloc_new w2 o
  clear hb
  go_wp2_with fail
  refine (O2.out _).mono ?_
  rintro e w3 ⟨rfl, hb⟩
  have HB3 : Hid (∀ o, Below w.heap.size w (w3.alloc o)) := fun o => ((HB2.out _).trans (hb.mono (HB2.out _).size)).alloc (Nat.le_trans (HB2.out _).size hb.size) o
  have hk : ∀ (o : Obj) (k : Nat) (c : Obj), (w2.alloc (.cells #[.int .i64 xa, .int .i64 xb, .int .i64 xc, .int .i64 xd] 25 (0, 0))).heap[k]? = some c → (w3.alloc o).heap[k]? = some c := fun o k c h => by
    have h2 := (hb.block _ (Array.getElem?_eq_some_iff.1 h).1).trans h
    exact (Below.heap_alloc _ _ _ (Array.getElem?_eq_some_iff.1 h2).1).trans h2
  have HR4 : Hid (∀ W, Below (w3.alloc (.cells #[.int .i64 ya, .int .i64 yb, .int .i64 yc, .int .i64 yd] 25 (0, 0))).heap.size (w3.alloc (.cells #[.int .i64 ya, .int .i64 yb, .int .i64 yc, .int .i64 yd] 25 (0, 0))) W → Rows2 W w2.heap.size w3.heap.size xa xb xc xd ya yb yc yd) := fun W hW =>
    Rows2.mk hW (hk _ _ _ (HX2.out _)) (heap_alloc_new w3 _)
  clear hb hk HX2
  go_upto_region 5 with fail
  obtain ⟨wr, hwr⟩ : ∃ wr, wr = w3.alloc (.cells #[.int .i64 ya, .int .i64 yb, .int .i64 yc, .int .i64 yd] 25 (0, 0)) := ⟨_, rfl⟩
  have hB := HB3.out (.cells #[.int .i64 ya, .int .i64 yb, .int .i64 yc, .int .i64 yd] 25 (0, 0))
  rw [← hwr] at HR4 hB ⊢
  have HBW := Lib.hid hB
  clear hwr hB HB3 HB2 HB1 HA O1 O2
  have hpk : ∀ (l : List Nat) (W : World), Below wr.heap.size wr W → ∀ e w', WordsPost W l e w' → ∃ A c, e = .returned (.slice A l.length c) ∧ IsWords w' (.slice A l.length c) l ∧ Below W.heap.size W w' ∧ Below wr.heap.size wr w' ∧ Rows2 w' w2.heap.size w3.heap.size xa xb xc xd ya yb yc yd := by
    rintro l W hW e w' ⟨v, rfl, hv, hb⟩
    have hv' := hv
    obtain ⟨A, c, rfl, _⟩ := hv'
    rw [List.length_map] at hv ⊢
    exact ⟨A, c, rfl, hv, hb, hW.trans (hb.mono hW.size), HR4.out _ (hW.trans (hb.mono hW.size))⟩
  have P1 : Hid (∀ W, Below wr.heap.size wr W → Calls Tryd.prog 15 #[.agg #[.int .i64 xa, .int .i64 xb, .int .i64 xc, .int .i64 xd]] W fun e w' => ∃ A c, e = .returned (.slice A l1.length c) ∧ IsWords w' (.slice A l1.length c) l1 ∧ Below W.heap.size W w' ∧ Below wr.heap.size wr w' ∧ Rows2 w' w2.heap.size w3.heap.size xa xb xc xd ya yb yc yd) := fun W hW => (W1.out W (HBW.out.trans (hW.mono HBW.out.size))).mono (hpk l1 W hW)
  have P2 : Hid (∀ W, Below wr.heap.size wr W → Calls Tryd.prog 15 #[.agg #[.int .i64 ya, .int .i64 yb, .int .i64 yc, .int .i64 yd]] W fun e w' => ∃ A c, e = .returned (.slice A l2.length c) ∧ IsWords w' (.slice A l2.length c) l2 ∧ Below W.heap.size W w' ∧ Below wr.heap.size wr w' ∧ Rows2 w' w2.heap.size w3.heap.size xa xb xc xd ya yb yc yd) := fun W hW => (W2.out W (HBW.out.trans (hW.mono HBW.out.size))).mono (hpk l2 W hW)
  have HB : Hid (Below wr.heap.size wr wr.drew) := (Below.refl _ _).drew
  obtain ⟨⟨p0, p1, p2, p3⟩, q0, q1, q2, q3⟩ := HR4.out _ HB.out
  clear hpk W1 W2
  go_cut [9, 10] (fun s t wx => ∃ A B c k, s = .slice A l1.length c ∧ t = .slice B l2.length k ∧ Hid (IsWords wx (.slice A l1.length c) l1) ∧ Hid (IsWords wx (.slice B l2.length k) l2) ∧ Hid (Below wr.heap.size wr wx))
  case first =>
    first | (go_region_held_law (fun W => (W.cell? ⟨w2.heap.size, 0, none⟩ = some (.int .i64 xa) ∧ W.cell? ⟨w2.heap.size, 1, none⟩ = some (.int .i64 xb) ∧ W.cell? ⟨w2.heap.size, 2, none⟩ = some (.int .i64 xc) ∧ W.cell? ⟨w2.heap.size, 3, none⟩ = some (.int .i64 xd)) ∧ (W.cell? ⟨w3.heap.size, 0, none⟩ = some (.int .i64 ya) ∧ W.cell? ⟨w3.heap.size, 1, none⟩ = some (.int .i64 yb) ∧ W.cell? ⟨w3.heap.size, 2, none⟩ = some (.int .i64 yc) ∧ W.cell? ⟨w3.heap.size, 3, none⟩ = some (.int .i64 yd)))
      (exact ⟨⟨p0, p1, p2, p3⟩, q0, q1, q2, q3⟩)
      (first
      | (go_at_call 15; first
          | ((with_reducible refine (P1.out _ HB.out).mono ?_); rintro e w5 ⟨A5, c5, rfl, hv5, hb5, hB5, hR5⟩; (try have HQ := Lib.hid (HQ.out.below hb5)); have HP := Lib.hid hv5; have HB := Lib.hid hB5; clear p0 p1 p2 p3 q0 q1 q2 q3; obtain ⟨⟨p0, p1, p2, p3⟩, q0, q1, q2, q3⟩ := hR5; clear hv5 hb5 hB5)
          | ((with_reducible refine (P2.out _ HB.out).mono ?_); rintro e w5 ⟨A5, c5, rfl, hv5, hb5, hB5, hR5⟩; (try have HP := Lib.hid (HP.out.below hb5)); have HQ := Lib.hid hv5; have HB := Lib.hid hB5; clear p0 p1 p2 p3 q0 q1 q2 q3; obtain ⟨⟨p0, p1, p2, p3⟩, q0, q1, q2, q3⟩ := hR5; clear hv5 hb5 hB5)))) | fail "the region"
    all_goals (go_wp2_with fail; go_meet; exact ⟨_, _, _, _, rfl, rfl, HP, HQ, HB⟩)
  case rest =>
    obtain ⟨A, B2, c, k, rfl, rfl, HP, HQ, HBX⟩ := hcut
    rcases HL1.out with ⟨rfl, hl1, hs1, hlen1⟩ | ⟨rfl, hlen1⟩
    · rcases HL2.out with ⟨rfl, hl2, hs2, hlen2⟩ | ⟨rfl, hlen2⟩
      · have e1 : xa = (n : Int) ∧ xb = (V.slabs n : Int) ∧ xc = 128 ∧ xd = (V.dataAt n : Int) := by simpa [V.Sh.at] using hs1
        have e2 : ya = (m : Int) ∧ yb = (V.slabs m : Int) ∧ yc = 128 ∧ yd = (V.dataAt m : Int) := by simpa [V.Sh.at] using hs2
        have hsame : (n = m ∧ decide (l1 = l2) = true) ∨ (n ≠ m ∧ decide (l1 = l2) = false) := by
          by_cases h : n = m
          · subst h; exact .inl ⟨rfl, decide_eq_true (hl1.trans hl2.symm)⟩
          · exact .inr ⟨h, decide_eq_false (fun e => h (V.wrds_inj (by rw [← hl1, ← hl2, e])))⟩
        have HSAME := Lib.hid hsame
        have HE1 := Lib.hid e1
        have HE2 := Lib.hid e2
        have hsl := V.hsum_lt n
        have HLS : Hid (l1 = V.six n ++ [V.hsum n, 0]) := hl1
        have HSX : Hid ((V.six n).length = 6) := rfl
        have HSUM : Hid (V.hsum n = C.nxt 0 (V.bts (V.six n))) := rfl
        clear hs1 hs2 hl1 hl2 e1 e2 hsame
        generalize V.six n = sx at *
        generalize V.hsum n = hs at *
        have hpl := HP.out.len
        rw [hlen1] at HP hpl ⊢
        rw [hlen2] at HQ ⊢
        have HI6 : Hid (IsWords wc (.slice A 6 c) sx) := by
          have h := IsInts.take HP.out 6 (by decide)
          rw [← List.map_take, HLS.out, List.take_left' HSX.out] at h
          exact h
        have hg6 : l1[6]? = some hs ∧ l1[7]? = some 0 := by
          have hx := HSX.out
          rw [HLS.out]
          exact ⟨by rw [List.getElem?_append_right (by omega), hx]; rfl, by rw [List.getElem?_append_right (by omega), hx]; rfl⟩
        obtain ⟨ab, ao, z6, rfl, hz6, _, c6⟩ := HP.out.get 6 (by decide)
        obtain ⟨ab', ao', z7, e7, hz7, _, c7⟩ := HP.out.get 7 (by decide)
        obtain ⟨rfl, rfl⟩ : ab = ab' ∧ ao = ao' := by simpa using e7
        obtain rfl : hs = z6 := by rw [hg6.1] at hz6; exact Option.some.inj hz6
        obtain rfl : z7 = 0 := by rw [hg6.2] at hz7; exact (Option.some.inj hz7).symm
        have C67 := Lib.hid (And.intro c6 c7)
        obtain ⟨_, hc8, hcm⟩ := hpl
        unfold maxLen at hcm
        obtain ⟨i0, hi, hz0, hz1, hz2⟩ := info_parts info_u8
        have HBWX : Hid (Below w.heap.size w wc) := HBW.out.trans (HBX.out.mono HBW.out.size)
        clear hz6 hz7 e7 c6 c7 hg6 hlen1 hlen2
        go_wp2_with fail
        go_loopw [11, 13, 14, 58] (fun out _ _ x W => ∃ j : Nat, j ≤ 6 ∧ x = .int .i64 j ∧ W.ownsRow wc.heap.size 5 1 out (8 * j) ((V.bts (sx.take j)).map (Value.int .u8)) ∧ Below wc.heap.size wc W) (fun _ _ _ x _ => 6 - (intOf x).toNat)
        case atStart => exact ⟨0, by omega, rfl, by simpa [V.bts] using owns_nil, Below.refl _ _⟩
        case round =>
          obtain ⟨j, hj, rfl, hown, hbel⟩ := hrel
          have HBEL := Lib.hid hbel
          have HOWN := Lib.hid hown
          obtain ⟨a0, c0, rfl, _, _⟩ := owns_form hown
          clear hown hbel
          by_cases hlt : j < 6
          · obtain ⟨b1, o1, x, eq1, hx, hx2, hc1⟩ := (HI6.out.below HBEL.out).get j hlt
            obtain ⟨rfl, rfl⟩ : ab = b1 ∧ ao = o1 := by simpa using eq1
            have HX := Lib.hid hx
            have HX2 := Lib.hid hx2
            clear hx eq1
            have hdj : decide ((j : Int) < 6) = true := decide_eq_true (by omega)
            go_wp2_with fail
            (try rw [hdj])
            clear hdj
            go_loopw [11, 14, 62] (fun out _ k W => ∃ i : Nat, i ≤ 8 ∧ k = .int .i64 i ∧ W.ownsRow wc.heap.size 5 1 out (8 * j + i) ((V.bts (sx.take j) ++ (V.digits x).take i).map (Value.int .u8)) ∧ Below wc.heap.size wc W) (fun _ _ k _ => 8 - (intOf k).toNat)
            case atStart => exact ⟨0, by omega, rfl, by simpa using HOWN.out, HBEL.out⟩
            case round =>
              obtain ⟨i, hi8, rfl, hown, hbel⟩ := hrel
              have HB2 := Lib.hid hbel
              have HO2 := Lib.hid hown
              obtain ⟨a1, c1, rfl, _, _⟩ := owns_form hown
              clear hown hbel
              by_cases hlt8 : i < 8
              · have HQD := Lib.hid (digits_succ x i hlt8)
                have hby := B.byte_of x i
                have hr3 : x / 256 ^ i % 256 ≤ 255 := by omega
                generalize x / 256 ^ i % 256 = r at *
                have HB3 : Hid (∀ o, Below wc.heap.size wc (wr.alloc o)) := fun o => HB2.out.alloc HB2.out.size o
                have HO3 : Hid (∀ o, (wr.alloc o).ownsRow wc.heap.size 5 1 (.slice a1 (8 * j + i) c1) (8 * j + i) ((V.bts (sx.take j) ++ (V.digits x).take i).map (Value.int .u8))) := fun o => owns_below HO2.out ((Below.refl _ _).alloc (Nat.le_refl _) o)
                have HI1 : Hid (∀ t, IsInts .u8 (wr.alloc (.cells #[.int .u8 (r : Int)] t (0, 0))) (.slice (some ⟨wr.heap.size, 0, none⟩) 1 1) [(r : Int)]) := fun t => isBytes_new wr [(r : Int)] t (0, 0) (by intro z hz; obtain rfl := List.mem_singleton.1 hz; omega) (by unfold maxLen; simp)
                have hbase : ∀ o : Obj, wc.heap.size ≤ (wr.alloc o).heap.size := fun o => (HB3.out o).size
                go_wp2_with (at_builtin; refine wpList_append_ints rfl (.tmp 65) (.tmp 71) 37 rfl .u8 wc.heap.size 5 i0 _ 1 Tryd.underlying37 hi hz0 hz1 hz2 rfl _ _ _ rfl (HO3.out _) _ 1 1 _ rfl (HI1.out _) (by unfold maxLen; omega) (by omega) (hbase _) ?_)
                intro v' w5 hown' hgr
                have HO5 : Hid (w5.ownsRow wc.heap.size 5 1 v' (8 * j + (i + 1)) ((V.bts (sx.take j) ++ (V.digits x).take (i + 1)).map (Value.int .u8))) := by
                  show World.ownsRow _ _ _ _ _ _ _
                  rw [HQD.out, ← List.append_assoc]
                  simpa [Nat.add_assoc] using hown'
                have HB5 : Hid (Below wc.heap.size wc w5) := (HB3.out _).grown hgr (HB3.out _).size (fun k hk => owns_block HO2.out k hk)
                clear hown' hgr
                go_wp2
                go_roundw
                case rel => exact ⟨i + 1, by omega, by go_num, HO5.out, HB5.out⟩
                case measure => simp [intOf]; omega
              · obtain rfl : i = 8 := by omega
                have HF : Hid (V.bts (sx.take j) ++ (V.digits x).take 8 = V.bts (sx.take (j + 1))) := by
                  show _ = _
                  rw [bts_take_succ sx j x HX.out, List.take_of_length_le (l := V.digits x) (by rw [V.digits_length]; decide)]
                rw [HF.out] at HO2
                go_wp2
                go_roundw
                case rel => exact ⟨j + 1, by omega, by go_num, HO2.out, HB2.out⟩
                case measure => simp [intOf]; omega
          · obtain rfl : j = 6 := by omega
            have HF : Hid (sx.take 6 = sx) := List.take_of_length_le (Nat.le_of_eq HSX.out)
            rw [HF.out] at HOWN
            have hib : IsBytes wr (.slice a0 (8 * 6) c0) (V.bts sx) := IsInts.of_own HOWN.out (fun z hz => wf_byte (V.bts_range _ z hz))
            have HCS : Hid (∀ q, Calls Tryd.prog 29 #[.slice a0 (8 * 6) c0] (wr.drewN q) fun e w' => e = .returned (.int .u32 (hs : Int)) ∧ ∃ m, w' = (wr.drewN q).drewN m) := fun q => by
              have h := rsum_any _ _ (wr.drewN q) (hib.drewN q)
              rwa [← HSUM.out] at h
            have HSW : Hid (∀ q, Calls Tryd.prog 14 #[.slice (some ⟨ab, ao, none⟩) 8 c, .slice B2 8 k] (wr.drewN q) fun e w' => e = .returned (.bool (decide (l1 = l2))) ∧ ∃ m, w' = (wr.drewN q).drewN m) := fun q => words_same ((HP.out.below HBEL.out).drewN q) ((HQ.out.below HBEL.out).drewN q)
            have hc6 := (World.cell?_of_block (w := wc) (w' := wr) (a := ⟨ab, ao + 6, none⟩) (HBEL.out.block _ (World.block_lt_of_cell? wc _ C67.out.1))).trans C67.out.1
            have hc7 := (World.cell?_of_block (w := wc) (w' := wr) (a := ⟨ab, ao + 7, none⟩) (HBEL.out.block _ (World.block_lt_of_cell? wc _ C67.out.2))).trans C67.out.2
            obtain ⟨⟨p0, p1, p2, p3⟩, q0, q1, q2, q3⟩ := HR4.out wr (HBX.out.trans (HBEL.out.mono HBX.out.size))
            have HBF : Hid (∀ q, Below w.heap.size w (wr.drewN q)) := fun q => below_drewN' (HBWX.out.trans (HBEL.out.mono HBWX.out.size)) q
            obtain ⟨rfl, rfl, rfl, rfl⟩ := HE1.out
            obtain ⟨rfl, rfl, rfl, rfl⟩ := HE2.out
            clear hib
            rcases HSAME.out with ⟨rfl, hd⟩ | ⟨hnm, hd⟩
            · rw [hd] at HSW
              go_wp2_with fail
              go_quiet ((first
                | (go_at_call 14; exact Calls.quiet_of (HSW.out _))
                | (go_at_call 29; exact Calls.quiet_of (HCS.out _))))
              go_wp2
              go_ret
              exact ⟨rfl, HBF.out _⟩
            · rw [hd] at HSW
              have hne : ¬ (n : Int) = (m : Int) := by omega
              go_wp2_with fail
              go_quiet ((first
                | (go_at_call 14; exact Calls.quiet_of (HSW.out _))
                | (go_at_call 29; exact Calls.quiet_of (HCS.out _))))
              go_wp2
              go_ret
              exact ⟨rfl, HBF.out _⟩
      · rw [hlen1] at HP ⊢
        rw [hlen2] at HQ ⊢
        go_wp2
        go_ret
        exact ⟨rfl, HBW.out.trans (HBX.out.mono HBW.out.size)⟩
    · rw [hlen1] at HP ⊢
      rcases HL2.out with ⟨rfl, _, _, hlen2⟩ | ⟨rfl, hlen2⟩
      all_goals
        rw [hlen2] at HQ ⊢
        go_wp2
        go_ret
        exact ⟨rfl, HBW.out.trans (HBX.out.mono HBW.out.size)⟩
end Go.Proofs.YtmelmiookkeoaaaDoor
