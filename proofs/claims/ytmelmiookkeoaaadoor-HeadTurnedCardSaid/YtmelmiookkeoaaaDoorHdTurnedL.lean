
/- The walk of HeadTurned: whatever is handed in, the call answers true, and what was there stays. -/
import Derived.Test.YtmelmiookkeoaaaDoorHdFitsL

import Derived.Test.YtmelmiookkeoaaaDoorStr

import Derived.Deep.RegionWith

import Derived.Outline

import Derived.Deep.RegionHeldLaw

import Derived.Deep.DeepCutAuto

namespace Go.Proofs.YtmelmiookkeoaaaDoor

open Go.RowKit

namespace V

/-- One word of the first line of a formatted device turned. -/
theorem turned {n q by' : Nat} (hn : 19 ≤ n ∧ n ≤ 1024) (hq : q < 8) (hb : by' < 2 ^ 64) :
    ∃ was : Nat, was < 2 ^ 64 ∧ (newDv n).format.2.1 = 0 ∧ (newDv n).format.1.load (8 * (q : Int)) = was ∧ (newDv n).format.1.err (8 * (q : Int)) 8 = 0 ∧ (newDv n).format.1.steps ≤ 1000000 ∧
    ((newDv n).format.1.store (8 * (q : Int)) (was ^^^ by')).left ≠ 0 ∧ ((newDv n).format.1.store (8 * (q : Int)) (was ^^^ by')).image.length = 64 * n ∧
    ((newDv n).format.1.store (8 * (q : Int)) (was ^^^ by')).opens.2 = (if by' = 0 then 0 else 5) := by
  have hg := newDv_good (n := n) (by omega) hn.2
  have hl : (newDv n).lines.length = n := newDv_len n
  have hgo := format_goes hg (by omega) (show (-1 : Int) < 0 by decide)
  have hdo := format_done hg hgo.1
  have hfg := format_good hg
  have hfl := format_len (newDv n)
  have hst := format_steps hg
  have hs0 : (newDv n).steps = 0 := rfl
  rw [hl] at hfl hdo
  obtain ⟨_, _, hw, _, _⟩ := hdo
  generalize (newDv n).format = F at *
  obtain ⟨d, er, sh⟩ := F
  dsimp only at *
  obtain ⟨x, hx⟩ : ∃ x, (wrds n)[q]? = some x := ⟨_, List.getElem?_eq_getElem (by rw [wrds_length]; exact hq)⟩
  have hx64 := wrds_lt hn.2 x (List.mem_of_getElem? hx)
  have he : d.err (8 * (q : Int)) 8 = 0 := by
    unfold Dv.err
    rw [if_neg (by omega), if_pos (by omega)]
  have hld : d.load (8 * (q : Int)) = x := by
    rw [load_word he, show (8 * (q : Int)).toNat = 8 * q by omega]
    exact hw q x hx
  refine ⟨x, hx64, hgo.1, hld, he, by omega, ?_, ?_, ?_⟩
  · rw [Dv.store_ok _ he]
    show (if 0 < d.left then d.left - 1 else d.left) ≠ 0
    rw [if_neg (by omega)]; omega
  · rw [image_length (hfg.store _ _).lines, show (d.store (8 * (q : Int)) (x ^^^ by')).lines.length = d.lines.length from St.len (.store _ _) d]; omega
  · have hm : x ^^^ by' < 2 ^ 64 := Nat.xor_lt_two_pow hx64 hb
    have hlen : (d.store (8 * (q : Int)) (x ^^^ by')).lines.length = n := by rw [show (d.store (8 * (q : Int)) (x ^^^ by')).lines.length = d.lines.length from St.len (.store _ _) d, hfl]
    have hleft : (d.store (8 * (q : Int)) (x ^^^ by')).left ≠ 0 := by
      rw [Dv.store_ok _ he]
      show (if 0 < d.left then d.left - 1 else d.left) ≠ 0
      rw [if_neg (by omega)]; omega
    have hww : ∀ k y, ((wrds n).set q (x ^^^ by'))[k]? = some y → (d.store (8 * (q : Int)) (x ^^^ by')).word (8 * k) = y := by
      intro k y hk
      have hk8 := (List.getElem?_eq_some_iff.1 hk).1
      rw [List.length_set, wrds_length] at hk8
      rw [word_store hfg _ _ hm _ (by omega) (by omega)]
      rw [List.getElem?_set] at hk
      by_cases e : q = k
      · subst e
        rw [if_pos ⟨he, by omega⟩]
        rw [if_pos rfl, if_pos (by rw [wrds_length]; exact hq)] at hk
        exact Option.some.inj hk
      · rw [if_neg (fun h => e (by omega))]
        rw [if_neg e] at hk
        exact hw k y hk
    have hws := head_words (d := d.store (8 * (q : Int)) (x ^^^ by')) (by omega) hleft (w := (wrds n).set q (x ^^^ by')) (by rw [List.length_set, wrds_length]) hww
    unfold Dv.opens
    rw [hws, hlen]
    by_cases h0 : by' = 0
    · subst h0
      have : (wrds n).set q (x ^^^ 0) = wrds n := by
        rw [Nat.xor_zero]
        apply List.ext_getElem?
        intro k
        rw [List.getElem?_set]
        split
        · rename_i e; subst e; rw [if_pos (by rw [wrds_length]; exact hq), hx]
        · rfl
      rw [this, if_pos ⟨hn.1, rfl⟩, if_pos rfl]
    · rw [if_neg (fun h => ?_), if_neg h0]
      have h2 : ((wrds n).set q (x ^^^ by'))[q]? = (wrds n)[q]? := by rw [h.2]
      rw [List.getElem?_set, if_pos rfl, if_pos (by rw [wrds_length]; exact hq), hx, Option.some.injEq] at h2
      apply h0
      have : x ^^^ (x ^^^ by') = x ^^^ x := by rw [h2]
      rwa [← Nat.xor_assoc, Nat.xor_self, Nat.zero_xor] at this
end V

set_option maxHeartbeats 2000000 in
set_option maxRecDepth 100000 in
theorem headTurned_walk (a0 a1 a2 : Int) (w : World) (w0 : (Lit.int .u8 a0).wf = true) (w1 : (Lit.int .u8 a1).wf = true) (w2 : (Lit.int .u64 a2).wf = true) (hT : TabT w) (hg : 0 < w.heap.size) :
    Calls Tryd.prog 10 #[.int .u8 a0, .int .u8 a1, .int .u64 a2] w fun e w' => e = .returned (.bool true) ∧ Below w.heap.size w w' := by
  obtain ⟨a, rfl, ha⟩ := hd_u8 w0
  obtain ⟨b, rfl, hb⟩ := hd_u8 w1
  obtain ⟨c, rfl, hc⟩ := hd_u64 w2
  have HA := Lib.hid (alive5_any w hT hg)
  obtain ⟨n, hn⟩ : ∃ n : Nat, n = a % 60 + 19 := ⟨_, rfl⟩
  have hn2 : (a : Int) % 60 + 19 = (n : Int) := by omega
  have hn3 : 19 ≤ n ∧ n ≤ 100 := by omega
  obtain ⟨q, hq⟩ : ∃ q : Nat, q = b % 8 := ⟨_, rfl⟩
  have hq2 : (b : Int) % 8 = (q : Int) := by omega
  have hq3 : q < 8 := by omega
  obtain ⟨was, t0, t1, t2, t3, t4, t5, t6, t7⟩ := V.turned (n := n) (q := q) (by' := c) (by omega) hq3 hc
  have HX : Hid (bits .xor .u64 (was : Int) (c : Int) = ((was ^^^ c : Nat) : Int)) := u64_xor_nat _ _ t0 hc
  have hm : was ^^^ c < 2 ^ 64 := Nat.xor_lt_two_pow t0 hc
  have HT := Lib.hid hT
  have HG := Lib.hid hg
  have HFMT : Hid (∀ w0 wr p, TabT w0 → 0 < w0.heap.size → DevIn w0 (.pointer p) (V.newDv n) wr → Calls Tryd.prog 19 #[.pointer p] wr fun e w' => e = .returned (.tuple #[shV (V.newDv n).format.2.2, .int .i64 (V.newDv n).format.2.1]) ∧ DevIn w0 (.pointer p) (V.newDv n).format.1 w') := fun w0 wr p hT hg h => in_format h (by show (0 : Nat) ≤ 1000000; decide) hT hg
  clear hn hq w0 w1 w2 hT hg
  generalize (V.newDv n).format = F at *
  obtain ⟨dF, er, ⟨sa, sb, sc, sd⟩⟩ := F
  dsimp only at *
  unfold shV at *
  dsimp only at *
  subst t1
  generalize was ^^^ c = m at *
  have hx := HX.out
  have HLD : Hid (∀ w0 wr v, DevIn w0 v dF wr → Calls Tryd.prog 25 #[v, .int .i64 (8 * (q : Int))] wr fun e w' => e = .returned (.tuple #[.int .u64 (was : Int), .int .i64 0]) ∧ ∃ m, w' = wr.drewN m) := fun w0 wr v h => by
    have := in_load h (8 * (q : Int)) ⟨by omega, by omega⟩
    rwa [t2, t3] at this
  have HST : Hid (∀ w0 wr v, DevIn w0 v dF wr → Calls Tryd.prog 18 #[v, .int .i64 (8 * (q : Int)), .int .u64 (m : Int)] wr fun e w' => e = .returned (.int .i64 0) ∧ DevIn w0 v (dF.store (8 * (q : Int)) m) w') := fun w0 wr v h => by
    have := in_store h (8 * (q : Int)) ⟨by omega, by omega⟩ m hm (by omega)
    rwa [t3] at this
  clear t2 t3 t4
  generalize dF.store (8 * (q : Int)) m = d2 at *
  have HOP : Hid (∀ w0 wr p, TabT w0 → 0 < w0.heap.size → DevIn w0 (.pointer p) d2 wr → Calls Tryd.prog 23 #[.pointer p] wr fun e w' => e = .returned (.tuple #[shV d2.opens.1, .int .i64 d2.opens.2]) ∧ DevIn w0 (.pointer p) d2 w' ∧ Below wr.heap.size wr w') := fun w0 wr p hT hg h => in_open h t5 hT hg
  rw [t7] at HOP
  have HIMG := fun wr w0 v (h : DevIn w0 v d2 wr) => Lib.hid (in_image h)
  generalize d2.image = im at *
  have T6 := Lib.hid t6
  clear t5 t7 t6
  generalize d2.opens.1 = os at *
  obtain ⟨oa, ob, oc, od⟩ := os
  unfold shV at *
  dsimp only at *
  have hn64 : 64 * n ≤ 6400 := by omega
  obtain ⟨N, hN⟩ : ∃ N : Nat, N = 64 * n := ⟨_, rfl⟩
  rw [← hN] at T6 hn64
  clear hN
  have hend : ∀ fe : Int, fe = (if c = 0 then 0 else 5) → (c = 0 ∧ fe = 0) ∨ (c ≠ 0 ∧ fe = 5) := by
    intro fe h
    split at h
    · exact .inl ⟨by assumption, h⟩
    · exact .inr ⟨by assumption, h⟩
  obtain ⟨fe, hfe⟩ : ∃ fe : Int, fe = (if c = 0 then 0 else 5) := ⟨_, rfl⟩
  have HE := Lib.hid (hend fe hfe)
  rw [← hfe] at HOP
  clear hend hfe
  go_enter Tryd.func10, Tryd.ntmps10
  go_wp2_with fail
  refine HA.out.mono ?_
  rintro e w1 ⟨rfl, hb1⟩
  have HB1 := Lib.hid hb1
  clear hb1
  go_wp2_with fail
  refine (in_new n (by omega) (by omega) w w1 HB1.out).mono ?_
  rintro e w2 ⟨D, rfl, hd⟩
  have HD2 := Lib.hid hd
  clear hd
  go_wp2_with fail
  refine (HFMT.out w w2 _ HT.out HG.out HD2.out).mono ?_
  rintro e w4 ⟨rfl, hd⟩
  have HD4 : Hid (∀ o, DevIn w (.pointer (some ⟨D, 0, none⟩)) dF (w4.alloc o)) := fun o => hd.alloc o
  clear hd
  go_wp2_with fail
  refine (HLD.out w _ _ (HD4.out _)).mono ?_
  rintro e w5 ⟨rfl, k5, hw5⟩
  have HD5 : Hid (DevIn w (.pointer (some ⟨D, 0, none⟩)) dF w5) := by rw [hw5]; exact (HD4.out _).drewN k5
  clear hw5
  go_wp2_with fail
  refine (HST.out w _ _ HD5.out).mono ?_
  rintro e w6 ⟨rfl, hd⟩
  have HD6 := Lib.hid hd
  clear hd
  go_wp2_with fail
  refine (HIMG _ w _ HD6.out).out.mono ?_
  rintro e w7 ⟨⟨ga, rfl, hga, hia, hba⟩, hd⟩
  rw [T6.out] at hia ⊢
  have HIA := Lib.hid hia
  have HD7 := Lib.hid hd
  clear hia hd hga hba
  go_wp2_with fail
  refine (HOP.out w w7 _ HT.out HG.out HD7.out).mono ?_
  rintro e w8 ⟨rfl, hd, hb8⟩
  have HD8 := Lib.hid (fun o => hd.alloc o)
  have HI8 := Lib.hid (fun o => HIA.out.below (hb8.alloc hb8.size o))
  clear hd hb8
  go_upto_region 16 with fail
  obtain ⟨wr, hwr⟩ : ∃ wr, wr = w8.alloc (.cells #[.int .i64 oa, .int .i64 ob, .int .i64 oc, .int .i64 od] 25 (0, 0)) := ⟨_, rfl⟩
  have hdr := HD8.out (.cells #[.int .i64 oa, .int .i64 ob, .int .i64 oc, .int .i64 od] 25 (0, 0))
  have hir := HI8.out (.cells #[.int .i64 oa, .int .i64 ob, .int .i64 oc, .int .i64 od] 25 (0, 0))
  rw [← hwr] at hdr hir ⊢
  have hcv1 : (convert 37 9 (.slice (some ⟨ga, 0, none⟩) N N)).run Tryd.prog wr.drew = .ok (.string (strOfNums im)) wr.drew := conv_all (w := wr.drew) hir 9 Tryd.underlying9
  have HIA9 : Hid (Calls Tryd.prog 20 #[.pointer (some ⟨D, 0, none⟩)] wr.drew fun e w' => ∃ g, e = .returned (.slice (some ⟨g, 0, none⟩) N N) ∧ IsBytes w' (.slice (some ⟨g, 0, none⟩) N N) im ∧ IsBytes w' (.slice (some ⟨ga, 0, none⟩) N N) im ∧ Below w.heap.size w w') := by
    refine (HIMG _ w _ (hdr.drewN 1)).out.mono ?_
    rintro e w9 ⟨⟨gb, rfl, hgb, hib, hbb⟩, hd9⟩
    rw [T6.out] at hib ⊢
    exact ⟨gb, rfl, hib, IsInts.below (w := wr.drew) hir hbb, hd9.below⟩
  clear hwr hdr hir HD8 HI8 HD7 HIA HD6 HD5 HD4 HD2 HB1 HOP HST HLD HFMT HA HIMG
  have hcc : (((c : Int) == 0) = true ∧ fe = 0) ∨ (((c : Int) == 0) = false ∧ fe = 5) := by
    rcases HE.out with ⟨h, rfl⟩ | ⟨h, rfl⟩
    · exact .inl ⟨by simp [h], rfl⟩
    · exact .inr ⟨by simp; omega, rfl⟩
  rcases hcc with ⟨hcb, rfl⟩ | ⟨hcb, rfl⟩
  all_goals
    first | (go_region_held_law (fun W => (convert 37 9 (.slice (some ⟨ga, 0, none⟩) N N)).run Tryd.prog W = .ok (.string (strOfNums im)) W) (first | exact hcv1 | exact hcv3)
      (first | (go_at_call 20; refine (HIA9.out).mono ?_; rintro e w9 ⟨gb, rfl, hib, hia, hb9⟩; have hcv2 := conv_all hib 9 Tryd.underlying9; have hcv3 := conv_all hia 9 Tryd.underlying9; have HB9 := Lib.hid hb9; clear hib hia hb9))) | fail "held3"
    all_goals (go_wp2_with fail; go_ret; exact ⟨rfl, HB9.out⟩)
end Go.Proofs.YtmelmiookkeoaaaDoor
