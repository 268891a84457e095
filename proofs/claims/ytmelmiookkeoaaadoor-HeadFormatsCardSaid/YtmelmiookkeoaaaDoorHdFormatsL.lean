
/- The walk of HeadFormats: whatever is handed in, the call answers true, and what was there stays. -/
import Derived.Test.YtmelmiookkeoaaaDoorHdFormatsM

import Derived.Test.YtmelmiookkeoaaaDoorHdB

import Derived.Test.YtmelmiookkeoaaaDoorStr

import Derived.Deep.RegionWith

import Derived.Outline

import Derived.Deep.DeepCutAuto

import Derived.Deep.RegionHeldLaw

namespace Go.Proofs.YtmelmiookkeoaaaDoor

open Go.RowKit

/-- Words that came in. -/
theorem hd_words_in {w : World} {A : Option Addr} {len cap : Nat} {zs : List Int} (h : IsInts .u64 w (.slice A len cap) zs) : ∃ l, IsWords w (.slice A len cap) l := by
  refine ⟨zs.map Int.toNat, ?_⟩
  have hz : (zs.map Int.toNat).map (fun n : Nat => (n : Int)) = zs := by
    rw [List.map_map]
    refine (List.map_congr_left (g := id) (fun z hz' => ?_)).trans (List.map_id zs)
    obtain ⟨_, _, _, _, _, _, h4⟩ := h
    have := h4 z hz'
    simp [Lit.wf, IntKind.min, IntKind.max, IntKind.signed, IntKind.bits] at this
    show ((Int.toNat z : Nat) : Int) = z
    omega
  show IsInts _ _ _ _
  rw [hz]; exact h
theorem hd_bytes_in {w : World} {PA : Option Addr} {pn pc : Nat} {pz : List Int} (hp : IsBytes w (.slice PA pn pc) pz) : pz ≠ [] → ∀ a, PA = some a → a.block < w.heap.size := by
  intro hz a ha
  obtain ⟨a', cap', e, h1, h2, h3, h4⟩ := hp
  simp only [Value.slice.injEq] at e
  obtain ⟨rfl, rfl, rfl⟩ := e
  rcases h3 with h3 | ⟨b, o, e, hc⟩
  · exact absurd h3 hz
  · rw [e] at ha
    obtain rfl := Option.some.inj ha
    have hl : 0 < pz.length := List.length_pos_iff.2 hz
    exact World.block_lt_of_cell? w _ (hc 0 hl)
theorem rf5_of_yes (w : World) {n : Nat} (h : 19 ≤ n ∧ n ≤ 1024) : Calls Tryd.prog 13 #[.int .i64 (n : Int)] w fun e w' => e = .returned (.tuple #[.agg #[.int .i64 (n : Int), .int .i64 (V.slabs n : Int), .int .i64 128, .int .i64 (V.dataAt n : Int)], .bool true]) ∧ Below w.heap.size w w' := by
  have h1 := rf5_of w (n : Int) ⟨by omega, by omega⟩
  rw [V.isSh_nat h, V.Sh.of_nat h] at h1
  exact h1
theorem rf5_of_not (w : World) {x : Int} (hx : I64 x) (h : ¬ (19 ≤ x ∧ x ≤ 1024)) : Calls Tryd.prog 13 #[.int .i64 x] w fun e w' => e = .returned (.tuple #[.agg #[.int .i64 0, .int .i64 0, .int .i64 0, .int .i64 0], .bool false]) ∧ Below w.heap.size w w' := by
  have h1 := rf5_of w x hx
  rw [V.isSh_no h, V.Sh.of_no h] at h1
  exact h1
set_option maxHeartbeats 4000000 in
set_option maxRecDepth 100000 in
theorem headFormats_walk (a0 : Int) (A : Option Addr) (len cap : Nat) (zs : List Int) (PA : Option Addr) (pn pc : Nat) (pz : List Int) (w : World) (w0 : (Lit.int .u8 a0).wf = true) (w1 : IsInts .u64 w (.slice A len cap) zs) (w2 : IsInts .u8 w (.slice PA pn pc) pz) (hT : TabT w) (hg : 0 < w.heap.size) :
    Calls Tryd.prog 5 #[.int .u8 a0, .slice A len cap, .slice PA pn pc] w fun e w' => e = .returned (.bool true) ∧ Below w.heap.size w w' := by
  obtain ⟨a, rfl, ha⟩ := hd_u8 w0
  have HA := Lib.hid (alive5_any w hT hg)
  obtain ⟨l, hl⟩ := hd_words_in w1
  obtain ⟨hll, hlc, hlm⟩ := hl.len
  have hp2 := hd_bytes_in w2
  obtain ⟨_, hpc, hpm⟩ := IsInts.len' w2
  unfold maxLen at hpm hlm
  have HP : Hid (IsBytes w (.slice PA pn pc) pz) := w2
  have HP2 := Lib.hid hp2
  have HL := Lib.hid hl
  have HLL := Lib.hid hll
  have HT := Lib.hid hT
  have HG := Lib.hid hg
  clear w0 w1 w2 hp2 hl hll hT hg
  by_cases h60 : 60 < len
  · go_enter Tryd.func5, Tryd.ntmps5
    go_wp2_with fail
    refine HA.out.mono ?_
    rintro e w1 ⟨rfl, hb1⟩
    have HB1 := Lib.hid hb1
    clear hb1
    go_wp2
    go_ret
    exact ⟨rfl, HB1.out⟩
  · by_cases h300 : 300 < pn
    · go_enter Tryd.func5, Tryd.ntmps5
      go_wp2_with fail
      refine HA.out.mono ?_
      rintro e w1 ⟨rfl, hb1⟩
      have HB1 := Lib.hid hb1
      clear hb1
      go_wp2
      go_ret
      exact ⟨rfl, HB1.out⟩
    · obtain ⟨n, hn⟩ : ∃ n : Nat, n = a % 60 + 1 := ⟨_, rfl⟩
      have hn2 : (a : Int) % 60 + 1 = (n : Int) := by omega
      have hn3 : 1 ≤ n ∧ n ≤ 60 := by omega
      obtain ⟨m, hm⟩ : ∃ m : Nat, m = 8 * n := ⟨_, rfl⟩
      have hm2 : 8 * (n : Int) = (m : Int) := by omega
      have hm3 : 8 ≤ m ∧ m ≤ 480 := by omega
      have HST : Hid (∀ j, V.sto n l (j + 1) = (V.sto n l j).store (8 * ((j * 7 % m : Nat) : Int)) (l.getD j 0)) := fun j => by rw [hm]; rfl
      have HOK := Lib.hid (V.sto_ok (n := n) (by omega) (by omega) l)
      clear hn hm
      go_enter Tryd.func5, Tryd.ntmps5
      go_wp2_with fail
      refine HA.out.mono ?_
      rintro e w1 ⟨rfl, hb1⟩
      have HB1 := Lib.hid hb1
      clear hb1
      go_wp2_with fail
      refine (in_new n (by omega) (by omega) w w1 HB1.out).mono ?_
      rintro e w2 ⟨D, rfl, hd⟩
      have HD2 := Lib.hid hd
      clear hd
      go_wp2_with fail
      go_loopw [9, 10, 37] (fun _ _ x W => ∃ j : Nat, j ≤ len ∧ x = .int .i64 j ∧ DevIn w (.pointer (some ⟨D, 0, none⟩)) (V.sto n l j) W) (fun _ _ x _ => len - (intOf x).toNat)
      case atStart => exact ⟨0, by omega, rfl, HD2.out⟩
      case round =>
        obtain ⟨j, hj, rfl, hdev⟩ := hrel
        have HDEV := Lib.hid hdev
        clear hdev
        by_cases hlt : j < len
        · obtain ⟨b1, o1, x, rfl, hx, hx2, hc1⟩ := (HL.out.below HDEV.out.below).get j hlt
          obtain ⟨t, ht⟩ : ∃ t : Nat, t = j * 7 % m := ⟨_, rfl⟩
          have ht1 : ((j : Int) * 7) % (m : Int) = (t : Int) := by rw [ht]; rfl
          have ht2 : ((j : Int) * 7).tmod (m : Int) = (t : Int) := by rw [Int.tmod_eq_emod_of_nonneg (by omega), ht1]
          have ht3 : t < 480 := by
            have := Nat.mod_lt (j * 7) (show m > 0 by omega)
            omega
          have hmz : ((m : Int) == 0) = false := by simp; omega
          have HS := HST.out j
          rw [← ht, List.getD_eq_getElem?_getD, hx] at HS
          have HSE := Lib.hid HS
          have HCL := Lib.hid (in_store HDEV.out (8 * (t : Int)) ⟨by omega, by omega⟩ x hx2 (by have := (HOK.out j).2.2.2; omega))
          clear HS ht hx
          go_wp2_with fail
          refine HCL.out.mono ?_
          rintro e w3 ⟨rfl, hd3⟩
          have HD3 : Hid (DevIn w (.pointer (some ⟨D, 0, none⟩)) (V.sto n l (j + 1)) w3) := by
            show DevIn _ _ _ _
            rw [HSE.out]; exact hd3
          clear hd3
          go_wp2
          go_roundw
          case rel => exact ⟨j + 1, by omega, by go_num, HD3.out⟩
          case measure => simp [intOf]; omega
        · obtain rfl : j = len := by omega
          obtain ⟨k1, k2, k3, k4⟩ := HOK.out j
          have HK := Lib.hid (And.intro k1 (And.intro k2 (And.intro k3 k4)))
          generalize V.sto n l j = d at *
          by_cases h19 : 19 ≤ n
          · obtain ⟨e1, e2, e3, e4, e5, e6⟩ := V.formats k1 k3 k2 h19 pz
            have hfs := V.format_steps k1
            have HFMT : Hid (∀ W K, DevK w (.pointer (some ⟨D, 0, none⟩)) d K W → Calls Tryd.prog 19 #[.pointer (some ⟨D, 0, none⟩)] W fun e w' => e = .returned (.tuple #[shV d.format.2.2, .int .i64 d.format.2.1]) ∧ DevK w (.pointer (some ⟨D, 0, none⟩)) d.format.1 K w' ∧ KeepB K W w') := fun W K h => k_format h (by omega) HT.out HG.out
            rw [e1, e2] at HFMT
            have HCR : Hid (∀ W K, DevK w (.pointer (some ⟨D, 0, none⟩)) d.format.1 K W → Calls Tryd.prog 22 #[.pointer (some ⟨D, 0, none⟩), .slice PA pn pc] W fun e w' => e = .returned (.tuple #[]) ∧ DevK w (.pointer (some ⟨D, 0, none⟩)) (d.format.1.crash pz) K w' ∧ KeepB K W w') := fun W K h => k_crash h PA pn pc pz HP.out HP2.out (by omega)
            have HOP : Hid (∀ W, DevIn w (.pointer (some ⟨D, 0, none⟩)) (d.format.1.crash pz) W → Calls Tryd.prog 23 #[.pointer (some ⟨D, 0, none⟩)] W fun e w' => e = .returned (.tuple #[shV (d.format.1.crash pz).opens.1, .int .i64 (d.format.1.crash pz).opens.2]) ∧ DevIn w (.pointer (some ⟨D, 0, none⟩)) (d.format.1.crash pz) w' ∧ Below W.heap.size W w') := fun W h => in_open h e4 HT.out HG.out
            rw [e5] at HOP
            have HI1 : Hid (∀ W, DevIn w (.pointer (some ⟨D, 0, none⟩)) d.format.1 W → Calls Tryd.prog 20 #[.pointer (some ⟨D, 0, none⟩)] W fun e w' => NewBytes W (V.formed n) e w' ∧ DevIn w (.pointer (some ⟨D, 0, none⟩)) d.format.1 w') := fun W h => by
              have := in_image h
              rwa [e3] at this
            have HI2 : Hid (∀ W, DevIn w (.pointer (some ⟨D, 0, none⟩)) (d.format.1.crash pz) W → Calls Tryd.prog 20 #[.pointer (some ⟨D, 0, none⟩)] W fun e w' => NewBytes W (V.formed n) e w' ∧ DevIn w (.pointer (some ⟨D, 0, none⟩)) (d.format.1.crash pz) w') := fun W h => by
              have := in_image h
              rwa [e6] at this
            have HRI := Lib.hid (fun W => rf5_image W (n := n) (by omega))
            have HOF := Lib.hid (fun W => rf5_of_yes W (n := n) (by omega))
            have HFL : Hid ((V.formed n).length = 64 * n) := formed_length n (by omega)
            have hsm := V.slabs_most (n := n) (by omega)
            have hda : V.dataAt n ≤ 10000 := by unfold V.dataAt; omega
            have HSA : Hid (shV (V.Sh.at n) = .agg #[.int .i64 (n : Int), .int .i64 (V.slabs n : Int), .int .i64 128, .int .i64 (V.dataAt n : Int)]) := rfl
            rw [HSA.out] at HFMT HOP
            obtain ⟨N, hN⟩ : ∃ N : Nat, N = 64 * n := ⟨_, rfl⟩
            rw [← hN] at HFL HRI
            clear e1 e2 e3 e4 e5 e6 hfs k1 k2 k3 k4 hN HSA
            generalize d.format.1.crash pz = dc at *
            generalize d.format.1 = df at *
            generalize V.formed n = im at *
            generalize V.slabs n = sl at *
            generalize V.dataAt n = da at *
            go_wp2_with fail
            refine (HOF.out _).mono ?_
            rintro e w3 ⟨rfl, hb⟩
            have HK3 : Hid (∀ o, DevK w (.pointer (some ⟨D, 0, none⟩)) d [w3.heap.size] (w3.alloc o)) := fun o => (HDEV.out.devK.newer hb (K' := []) (fun k hk => by cases hk)).newer ((Below.refl _ _).alloc (Nat.le_refl _) o) (fun k hk => by rw [List.mem_singleton.1 hk]; exact .inr ⟨Nat.le_refl _, by simp⟩)
            have HX3 : Hid (∀ o, (w3.alloc o).heap[w3.heap.size]? = some o) := fun o => heap_alloc_new w3 o
            clear hb
            go_wp2_with fail
            refine (HFMT.out _ _ (HK3.out _)).mono ?_
            rintro e w4 ⟨rfl, hd4, hk4⟩
            have HK4 : Hid (∀ o, DevK w (.pointer (some ⟨D, 0, none⟩)) df [w3.heap.size, w4.heap.size] (w4.alloc o)) := fun o => hd4.newer ((Below.refl _ _).alloc (Nat.le_refl _) o) (fun k hk => by
              rcases List.mem_cons.1 hk with rfl | hk
              · exact .inl (by simp)
              · rw [List.mem_singleton.1 hk]; exact .inr ⟨Nat.le_refl _, by simp⟩)
            have HX4 : Hid (∀ o, (w4.alloc o).heap[w4.heap.size]? = some o) := fun o => heap_alloc_new w4 o
            have HX34 : Hid (∀ o, (w4.alloc o).heap[w3.heap.size]? = some (.cells #[.int .i64 (n : Int), .int .i64 (sl : Int), .int .i64 128, .int .i64 (da : Int)] 23 (0, 0))) := fun o => by
              have h := (hk4 w3.heap.size (by simp)).trans (HX3.out (.cells #[.int .i64 (n : Int), .int .i64 (sl : Int), .int .i64 128, .int .i64 (da : Int)] 23 (0, 0)))
              exact (Below.heap_alloc _ _ _ (Array.getElem?_eq_some_iff.1 h).1).trans h
            clear hd4 hk4
            go_upto_region 18 with fail
            obtain ⟨wq, hwq⟩ : ∃ wq, wq = w4.alloc (.cells #[.int .i64 (n : Int), .int .i64 (sl : Int), .int .i64 128, .int .i64 (da : Int)] 25 (0, 0)) := ⟨_, rfl⟩
            have hdq := HK4.out (.cells #[.int .i64 (n : Int), .int .i64 (sl : Int), .int .i64 128, .int .i64 (da : Int)] 25 (0, 0))
            have hx4 := HX4.out (.cells #[.int .i64 (n : Int), .int .i64 (sl : Int), .int .i64 128, .int .i64 (da : Int)] 25 (0, 0))
            have hx34 := HX34.out (.cells #[.int .i64 (n : Int), .int .i64 (sl : Int), .int .i64 128, .int .i64 (da : Int)] 25 (0, 0))
            rw [← hwq] at hdq hx4 hx34 ⊢
            have HKQ := Lib.hid hdq
            have HXX : Hid (∀ W, Below wq.heap.size wq W → W.heap[w4.heap.size]? = some (.cells #[.int .i64 (n : Int), .int .i64 (sl : Int), .int .i64 128, .int .i64 (da : Int)] 25 (0, 0)) ∧ W.heap[w3.heap.size]? = some (.cells #[.int .i64 (n : Int), .int .i64 (sl : Int), .int .i64 128, .int .i64 (da : Int)] 23 (0, 0))) := fun W hb => ⟨(hb.block _ (Array.getElem?_eq_some_iff.1 hx4).1).trans hx4, (hb.block _ (Array.getElem?_eq_some_iff.1 hx34).1).trans hx34⟩
            have HB : Hid (Below wq.heap.size wq wq.drew) := (Below.refl _ _).drew
            clear hdq hx4 hx34 hwq HK4 HX4 HX34 HK3 HX3 HDEV HA HD2 HB1 HOF HFMT
            obtain ⟨⟨p0, p1, p2, p3⟩, _⟩ := four' (HXX.out _ HB.out).1
            obtain ⟨⟨q0, q1, q2, q3⟩, _⟩ := four' (HXX.out _ HB.out).2
            have PI : Hid (∀ W, Below wq.heap.size wq W → Calls Tryd.prog 20 #[.pointer (some ⟨D, 0, none⟩)] W fun e w' => ∃ g, e = .returned (.slice (some ⟨g, 0, none⟩) N N) ∧ IsBytes w' (.slice (some ⟨g, 0, none⟩) N N) im ∧ Below W.heap.size W w' ∧ Below wq.heap.size wq w') := fun W hb => by
              refine (HI1.out W (HKQ.out.newer hb (fun k hk => .inl hk)).devIn).mono ?_
              rintro e w' ⟨⟨g, rfl, hgg, hib, hbb⟩, hd⟩
              rw [HFL.out] at hib ⊢
              exact ⟨g, rfl, hib, hbb, hb.trans (hbb.mono hb.size)⟩
            have PR : Hid (∀ W, Below wq.heap.size wq W → Calls Tryd.prog 21 #[.agg #[.int .i64 (n : Int), .int .i64 (sl : Int), .int .i64 128, .int .i64 (da : Int)]] W fun e w' => ∃ g, e = .returned (.slice (some ⟨g, 0, none⟩) N N) ∧ IsBytes w' (.slice (some ⟨g, 0, none⟩) N N) im ∧ Below W.heap.size W w' ∧ Below wq.heap.size wq w') := fun W hb => by
              refine (HRI.out W).mono ?_
              rintro e w' ⟨g, rfl, hib, hbb⟩
              exact ⟨g, rfl, hib, hbb, hb.trans (hbb.mono hb.size)⟩
            go_cut [86] (fun s wx => s = .bool false ∧ Hid (Below wq.heap.size wq wx))
            case first =>
              first | (go_region_held_law (fun W => (W.cell? ⟨w4.heap.size, 0, none⟩ = some (.int .i64 (n : Int)) ∧ W.cell? ⟨w4.heap.size, 1, none⟩ = some (.int .i64 (sl : Int)) ∧ W.cell? ⟨w4.heap.size, 2, none⟩ = some (.int .i64 128) ∧ W.cell? ⟨w4.heap.size, 3, none⟩ = some (.int .i64 (da : Int))) ∧ (W.cell? ⟨w3.heap.size, 0, none⟩ = some (.int .i64 (n : Int)) ∧ W.cell? ⟨w3.heap.size, 1, none⟩ = some (.int .i64 (sl : Int)) ∧ W.cell? ⟨w3.heap.size, 2, none⟩ = some (.int .i64 128) ∧ W.cell? ⟨w3.heap.size, 3, none⟩ = some (.int .i64 (da : Int))))
                (exact ⟨⟨p0, p1, p2, p3⟩, ⟨q0, q1, q2, q3⟩⟩)
                (first
                | (go_at_call 20; refine (PI.out _ HB.out).mono ?_; rintro e w9 ⟨g1, rfl, hib, hbw, hbq⟩; clear p0 p1 p2 p3 q0 q1 q2 q3; obtain ⟨⟨p0, p1, p2, p3⟩, _⟩ := four' (HXX.out _ hbq).1; obtain ⟨⟨q0, q1, q2, q3⟩, _⟩ := four' (HXX.out _ hbq).2; (try have HY2 := Lib.hid (IsInts.below HY2.out hbw)); have HY1 := Lib.hid hib; have hcv1 := conv_all HY1.out 9 Tryd.underlying9; (try have hcv2 := conv_all HY2.out 9 Tryd.underlying9); have HB := Lib.hid hbq; clear hib hbw hbq)
                | (go_at_call 21; refine (PR.out _ HB.out).mono ?_; rintro e w9 ⟨g2, rfl, hib, hbw, hbq⟩; clear p0 p1 p2 p3 q0 q1 q2 q3; obtain ⟨⟨p0, p1, p2, p3⟩, _⟩ := four' (HXX.out _ hbq).1; obtain ⟨⟨q0, q1, q2, q3⟩, _⟩ := four' (HXX.out _ hbq).2; (try have HY1 := Lib.hid (IsInts.below HY1.out hbw)); have HY2 := Lib.hid hib; have hcv2 := conv_all HY2.out 9 Tryd.underlying9; (try have hcv1 := conv_all HY1.out 9 Tryd.underlying9); have HB := Lib.hid hbq; clear hib hbw hbq))) | fail "the region"
              all_goals (go_wp2_with fail; go_meet; exact ⟨rfl, HB⟩)
            case rest =>
              obtain ⟨rfl, HBC⟩ := hcut
              have HKC := Lib.hid (HKQ.out.newer HBC.out (fun k hk => .inl hk))
              have HXC := Lib.hid (HXX.out _ HBC.out)
              clear HXX PI PR HI1 HKQ
              go_wp2_with fail
              refine (HCR.out _ _ HKC.out).mono ?_
              rintro e w5 ⟨rfl, hd5, hk5⟩
              have HD5 := Lib.hid hd5.devIn
              have HX5 : Hid (w5.heap[w4.heap.size]? = some (.cells #[.int .i64 (n : Int), .int .i64 (sl : Int), .int .i64 128, .int .i64 (da : Int)] 25 (0, 0)) ∧ w5.heap[w3.heap.size]? = some (.cells #[.int .i64 (n : Int), .int .i64 (sl : Int), .int .i64 128, .int .i64 (da : Int)] 23 (0, 0))) := ⟨(hk5 _ (by simp)).trans HXC.out.1, (hk5 _ (by simp)).trans HXC.out.2⟩
              clear hd5 hk5
              go_wp2_with fail
              refine (HOP.out _ HD5.out).mono ?_
              rintro e w6 ⟨rfl, hd6, hb6⟩
              have HD6 : Hid (∀ o, DevIn w (.pointer (some ⟨D, 0, none⟩)) dc (w6.alloc o)) := fun o => hd6.alloc o
              have HX6 : Hid (∀ o, (w6.alloc o).heap[w4.heap.size]? = some (.cells #[.int .i64 (n : Int), .int .i64 (sl : Int), .int .i64 128, .int .i64 (da : Int)] 25 (0, 0)) ∧ (w6.alloc o).heap[w3.heap.size]? = some (.cells #[.int .i64 (n : Int), .int .i64 (sl : Int), .int .i64 128, .int .i64 (da : Int)] 23 (0, 0)) ∧ (w6.alloc o).heap[w6.heap.size]? = some o) := fun o => by
                have h1 := (hb6.block _ (Array.getElem?_eq_some_iff.1 HX5.out.1).1).trans HX5.out.1
                have h2 := (hb6.block _ (Array.getElem?_eq_some_iff.1 HX5.out.2).1).trans HX5.out.2
                exact ⟨(Below.heap_alloc _ _ _ (Array.getElem?_eq_some_iff.1 h1).1).trans h1, (Below.heap_alloc _ _ _ (Array.getElem?_eq_some_iff.1 h2).1).trans h2, heap_alloc_new w6 o⟩
              clear hd6 hb6
              go_upto_region 22 with fail
              obtain ⟨wz, hwz⟩ : ∃ wz, wz = w6.alloc (.cells #[.int .i64 (n : Int), .int .i64 (sl : Int), .int .i64 128, .int .i64 (da : Int)] 25 (0, 0)) := ⟨_, rfl⟩
              have hdz := HD6.out (.cells #[.int .i64 (n : Int), .int .i64 (sl : Int), .int .i64 128, .int .i64 (da : Int)] 25 (0, 0))
              have hxz := HX6.out (.cells #[.int .i64 (n : Int), .int .i64 (sl : Int), .int .i64 128, .int .i64 (da : Int)] 25 (0, 0))
              rw [← hwz] at hdz hxz ⊢
              have HDZ := Lib.hid hdz
              have HXX : Hid (∀ W, Below wz.heap.size wz W → W.heap[w4.heap.size]? = some (.cells #[.int .i64 (n : Int), .int .i64 (sl : Int), .int .i64 128, .int .i64 (da : Int)] 25 (0, 0)) ∧ W.heap[w3.heap.size]? = some (.cells #[.int .i64 (n : Int), .int .i64 (sl : Int), .int .i64 128, .int .i64 (da : Int)] 23 (0, 0)) ∧ W.heap[w6.heap.size]? = some (.cells #[.int .i64 (n : Int), .int .i64 (sl : Int), .int .i64 128, .int .i64 (da : Int)] 25 (0, 0))) := fun W hb => ⟨(hb.block _ (Array.getElem?_eq_some_iff.1 hxz.1).1).trans hxz.1, (hb.block _ (Array.getElem?_eq_some_iff.1 hxz.2.1).1).trans hxz.2.1, (hb.block _ (Array.getElem?_eq_some_iff.1 hxz.2.2).1).trans hxz.2.2⟩
              have HB : Hid (Below wz.heap.size wz wz.drew) := (Below.refl _ _).drew
              have HBW : Hid (Below w.heap.size w wz) := hdz.below
              clear hdz hxz hwz HD6 HX6 HX5 HD5 HKC HXC HBC HOP HCR
              obtain ⟨⟨p0, p1, p2, p3⟩, _⟩ := four' (HXX.out _ HB.out).1
              obtain ⟨⟨q0, q1, q2, q3⟩, _⟩ := four' (HXX.out _ HB.out).2.1
              obtain ⟨⟨r0, r1, r2, r3⟩, _⟩ := four' (HXX.out _ HB.out).2.2
              have PI : Hid (∀ W, Below wz.heap.size wz W → Calls Tryd.prog 20 #[.pointer (some ⟨D, 0, none⟩)] W fun e w' => ∃ g, e = .returned (.slice (some ⟨g, 0, none⟩) N N) ∧ IsBytes w' (.slice (some ⟨g, 0, none⟩) N N) im ∧ Below W.heap.size W w' ∧ Below wz.heap.size wz w') := fun W hb => by
                refine (HI2.out W (HDZ.out.newer hb)).mono ?_
                rintro e w' ⟨⟨g, rfl, hgg, hib, hbb⟩, hd⟩
                rw [HFL.out] at hib ⊢
                exact ⟨g, rfl, hib, hbb, hb.trans (hbb.mono hb.size)⟩
              have PR : Hid (∀ W, Below wz.heap.size wz W → Calls Tryd.prog 21 #[.agg #[.int .i64 (n : Int), .int .i64 (sl : Int), .int .i64 128, .int .i64 (da : Int)]] W fun e w' => ∃ g, e = .returned (.slice (some ⟨g, 0, none⟩) N N) ∧ IsBytes w' (.slice (some ⟨g, 0, none⟩) N N) im ∧ Below W.heap.size W w' ∧ Below wz.heap.size wz w') := fun W hb => by
                refine (HRI.out W).mono ?_
                rintro e w' ⟨g, rfl, hib, hbb⟩
                exact ⟨g, rfl, hib, hbb, hb.trans (hbb.mono hb.size)⟩
              first | (go_region_held_law (fun W => (W.cell? ⟨w4.heap.size, 0, none⟩ = some (.int .i64 (n : Int)) ∧ W.cell? ⟨w4.heap.size, 1, none⟩ = some (.int .i64 (sl : Int)) ∧ W.cell? ⟨w4.heap.size, 2, none⟩ = some (.int .i64 128) ∧ W.cell? ⟨w4.heap.size, 3, none⟩ = some (.int .i64 (da : Int))) ∧ (W.cell? ⟨w3.heap.size, 0, none⟩ = some (.int .i64 (n : Int)) ∧ W.cell? ⟨w3.heap.size, 1, none⟩ = some (.int .i64 (sl : Int)) ∧ W.cell? ⟨w3.heap.size, 2, none⟩ = some (.int .i64 128) ∧ W.cell? ⟨w3.heap.size, 3, none⟩ = some (.int .i64 (da : Int))) ∧ (W.cell? ⟨w6.heap.size, 0, none⟩ = some (.int .i64 (n : Int)) ∧ W.cell? ⟨w6.heap.size, 1, none⟩ = some (.int .i64 (sl : Int)) ∧ W.cell? ⟨w6.heap.size, 2, none⟩ = some (.int .i64 128) ∧ W.cell? ⟨w6.heap.size, 3, none⟩ = some (.int .i64 (da : Int))))
                (exact ⟨⟨p0, p1, p2, p3⟩, ⟨q0, q1, q2, q3⟩, r0, r1, r2, r3⟩)
                (first
                | (go_at_call 20; refine (PI.out _ HB.out).mono ?_; rintro e w9 ⟨g1, rfl, hib, hbw, hbq⟩; clear p0 p1 p2 p3 q0 q1 q2 q3 r0 r1 r2 r3; obtain ⟨⟨p0, p1, p2, p3⟩, _⟩ := four' (HXX.out _ hbq).1; obtain ⟨⟨q0, q1, q2, q3⟩, _⟩ := four' (HXX.out _ hbq).2.1; obtain ⟨⟨r0, r1, r2, r3⟩, _⟩ := four' (HXX.out _ hbq).2.2; (try have HY2 := Lib.hid (IsInts.below HY2.out hbw)); have HY1 := Lib.hid hib; have hcv1 := conv_all HY1.out 9 Tryd.underlying9; (try have hcv2 := conv_all HY2.out 9 Tryd.underlying9); have HB := Lib.hid hbq; clear hib hbw hbq)
                | (go_at_call 21; refine (PR.out _ HB.out).mono ?_; rintro e w9 ⟨g2, rfl, hib, hbw, hbq⟩; clear p0 p1 p2 p3 q0 q1 q2 q3 r0 r1 r2 r3; obtain ⟨⟨p0, p1, p2, p3⟩, _⟩ := four' (HXX.out _ hbq).1; obtain ⟨⟨q0, q1, q2, q3⟩, _⟩ := four' (HXX.out _ hbq).2.1; obtain ⟨⟨r0, r1, r2, r3⟩, _⟩ := four' (HXX.out _ hbq).2.2; (try have HY1 := Lib.hid (IsInts.below HY1.out hbw)); have HY2 := Lib.hid hib; have hcv2 := conv_all HY2.out 9 Tryd.underlying9; (try have hcv1 := conv_all HY1.out 9 Tryd.underlying9); have HB := Lib.hid hbq; clear hib hbw hbq))) | fail "the region"
              all_goals (go_wp2_with fail; go_ret; exact ⟨rfl, HBW.out.trans (HB.out.mono HBW.out.size)⟩)
          · have hfn := V.format_no (d := d) (by omega)
            have HFMT : Hid (∀ W, DevIn w (.pointer (some ⟨D, 0, none⟩)) d W → Calls Tryd.prog 19 #[.pointer (some ⟨D, 0, none⟩)] W fun e w' => e = .returned (.tuple #[shV d.format.2.2, .int .i64 d.format.2.1]) ∧ DevIn w (.pointer (some ⟨D, 0, none⟩)) d.format.1 w') := fun W h => in_format h (by omega) HT.out HG.out
            rw [hfn] at HFMT
            have HOF := Lib.hid (fun W => rf5_of_not W (x := (n : Int)) ⟨by omega, by omega⟩ (by omega))
            unfold shV V.Sh.zero at HFMT
            clear hfn h19 k1 k2 k3 k4
            dsimp only at HFMT
            go_wp2_with fail
            refine (HOF.out _).mono ?_
            rintro e w3 ⟨rfl, hb⟩
            have HD3 : Hid (∀ o, DevIn w (.pointer (some ⟨D, 0, none⟩)) d (w3.alloc o)) := fun o => (HDEV.out.newer hb).alloc o
            clear hb
            go_wp2_with fail
            refine (HFMT.out _ (HD3.out _)).mono ?_
            rintro e w4 ⟨rfl, hd⟩
            have HB4 : Hid (∀ o, Below w.heap.size w (w4.alloc o)) := fun o => (hd.alloc o).below
            clear hd
            go_wp2
            go_ret
            exact ⟨rfl, HB4.out _⟩
end Go.Proofs.YtmelmiookkeoaaaDoor
