/- The walk of NvmActs. -/
import Derived.Test.YtmamcliidlmghaaActI
import Derived.Deep.RegionWith
import Derived.Outline
import Derived.Laws.BytesArg
import Derived.Deep.DeepCutAuto
namespace Go.Proofs.Ytmamcliidlmghaa
open Go.RowKit
theorem cell_of_bytes {w : World} {b o : Nat} {len cap : Nat} {zs : List Int} (h : IsBytes w (.slice (some ⟨b, o, none⟩) len cap) zs) (i : Nat) (hi : i < len) :
    w.cell? ⟨b, o + i, none⟩ = some (.int .u8 (zs.getD i 0)) := by
  obtain ⟨a', cap', e, h1, h2, h3, h4⟩ := h
  simp only [Value.slice.injEq] at e
  obtain ⟨rfl, rfl, rfl⟩ := e
  rcases h3 with rfl | ⟨b', o', e, hc⟩
  · simp at hi
  · simp only [Option.some.injEq, Addr.mk.injEq, and_true] at e
    obtain ⟨rfl, rfl⟩ := e
    exact hc i hi
theorem conv_dat {w : World} {g n c : Nat} {zs : List Int} (h : IsBytes w (.slice (some ⟨g, 0, none⟩) n c) zs) :
    ∀ dst, Try.prog.underlying dst = some .string → (convert 22 dst (.slice (some ⟨g, 0, none⟩) n c)).run Try.prog w = .ok (.string (strOfNums zs)) w := by
  have hl := h.len'.1
  refine run_convert_bytes_arg (P := Try.prog) w 22 5 Try.underlying22 Try.underlying5 g 0 n c zs hl (fun i hi => ?_)
  exact cell_of_bytes h i hi
theorem tmod12 (a : Int) : -12 < a.tmod 12 ∧ a.tmod 12 < 12 := by
  refine ⟨?_, Int.tmod_lt_of_pos a (by decide)⟩
  rcases Int.le_total 0 a with h | h
  · have := Int.tmod_nonneg 12 h; omega
  · have h1 := Int.tmod_lt_of_pos (-a) (show (0 : Int) < 12 by decide)
    rw [Int.neg_tmod] at h1; omega
set_option maxHeartbeats 40000000 in
set_option maxRecDepth 100000 in
theorem nvmActs_walk (w : World) (PA : Option Addr) (pn pc : Nat) (zs : List Int) (hp : IsBytes w (.slice PA pn pc) zs) (A : Option Addr) (len cap : Nat) (l : List Act) (h : IsActs w A len cap l) :
    Calls Try.prog 3 #[.slice PA pn pc, .slice A len cap] w fun e w' => e = .returned (.bool true) ∧ Below w.heap.size w w' := by
  obtain ⟨hpl, hpc, hpm⟩ := IsInts.len' hp
  have HL := Lib.hid h.1
  have hcm := h.2.2.1
  have hlc := h.2.1
  unfold maxLen at hpm hcm
  have HH := Lib.hid (fun (W : World) (hb : Below w.heap.size w W) => heavy_any w W A len cap l h hb)
  have HA := Lib.hid (fun (W : World) (hb : Below w.heap.size w W) (i : Nat) (hi : i < len) => h.at hb hi)
  have HP := Lib.hid (fun (W : World) (hb : Below w.heap.size w W) => (IsInts.below hp hb : IsBytes W (.slice PA pn pc) zs))
  cases hh : heavyF l
  · by_cases hbig : (512 : Int) < (pn : Int)
    · rw [hh] at HH
      clear hh h hp
      go_enter Try.func3, Try.ntmps3
      go_wp2_with fail
      refine (alive_any _).mono ?_
      rintro e w1 ⟨rfl, hb1⟩
      have HB1 := Lib.hid hb1
      clear hb1
      go_wp2_with fail
      refine (HH.out w1 HB1.out).mono ?_
      rintro e w2 ⟨rfl, hb2⟩
      have HB2 : Hid (Below w.heap.size w w2) := HB1.out.trans (hb2.mono HB1.out.size)
      clear hb2
      go_wp2
      go_ret
      exact ⟨rfl, HB2.out⟩
    · rw [hh] at HH
      have HLN : Hid (l.length ≤ 150) := by
        simp only [heavyF, Bool.or_eq_false_iff, decide_eq_false_iff_not] at hh
        show _ ≤ _; omega
      clear hh h hp
      by_cases hr : 64 ≤ pn ∧ pn % 64 = 0
      · obtain ⟨hr1, hr2⟩ := hr
        have HN := Lib.hid (fun W (hb : Below w.heap.size w W) => nv_of W PA pn pc zs (HP.out W hb) hr1 hr2 (by omega))
        have HR := Lib.hid (fun W => rf_right W pn (by omega))
        rw [decide_eq_true (show 64 ≤ pn ∧ pn % 64 = 0 ∧ pn ≤ 65536 by omega)] at HR
        have HRF := Lib.hid (fun W (hb : Below w.heap.size w W) F (hF : ∀ k ∈ F, k < W.heap.size) => rf_of hF PA pn pc zs (HP.out W hb) hr1 hr2 (by omega))
        have HZL : Hid (64 * (dvOf zs).lines.length = pn ∧ (dvOf zs).steps = 0) := ⟨by simp only [dvOf, linesOf_length]; omega, rfl⟩
        clear hr1 hr2
        generalize dvOf zs = d0 at *
        go_enter Try.func3, Try.ntmps3
        go_wp2_with fail
        refine (alive_any _).mono ?_
        rintro e w1 ⟨rfl, hb1⟩
        have HB1 := Lib.hid hb1
        clear hb1
        go_wp2_with fail
        refine (HH.out w1 HB1.out).mono ?_
        rintro e w2 ⟨rfl, hb2⟩
        have HB2 : Hid (Below w.heap.size w w2) := HB1.out.trans (hb2.mono HB1.out.size)
        clear hb2
        go_wp2_with fail
        refine (HN.out w2 HB2.out).mono ?_
        rintro e w3 ⟨vD, F, rfl, hd3, hb3, hF3⟩
        have hd3' := hd3
        obtain ⟨D, _, _, rfl, -⟩ := hd3'
        have HD3 := Lib.hid hd3
        have HB3 : Hid (Below w.heap.size w w3) := HB2.out.trans (hb3.mono HB2.out.size)
        have HF3 : Hid (∀ k ∈ F, w.heap.size ≤ k) := fun k hk => Nat.le_trans HB2.out.size (hF3 k hk)
        clear hd3 hb3 hF3
        go_wp2_with fail
        refine (HR.out _).mono ?_
        rintro e w' ⟨rfl, rfl⟩
        go_wp2_with fail
        refine (HRF.out w3 HB3.out F HD3.out.lt).mono ?_
        rintro e w4 ⟨m, rfl, hr4, hb4⟩
        have hr4' := hr4
        obtain ⟨C, cp, cs, dn, lf, rfl, _⟩ := hr4'
        have HD4 : Hid (Dev w4 (.pointer (some ⟨D, 0, none⟩)) d0 F) := HD3.out.only (Only.of_below (F := []) hb4) (fun k hk => by cases hk)
        have HST4 := Lib.hid (Pair.start HD4.out HF3.out hr4 (HB3.out.trans (hb4.mono HB3.out.size)))
        clear hr4 hb4
        go_wp2_with fail
        go_loopw [38] (fun x wr => ∃ (j : Nat) (d : V.Dv) (x0 x1 x2 x3 : Value), j ≤ len ∧ x = .int .i64 j ∧ Hid (Pair w w4.heap.size (.pointer (some ⟨D, 0, none⟩)) [] x0 x1 x2 x3 d d wr ∧ d.steps ≤ j ∧ 64 * d.lines.length = pn)) (fun x _ => len - (intOf x).toNat)
        case atStart => exact ⟨0, d0, _, _, _, _, by omega, rfl, HST4.out, by rw [HZL.out.2]; exact Nat.le_refl _, HZL.out.1⟩
        case round =>
          obtain ⟨j, d, x0, x1, x2, x3, hj, rfl, hpr⟩ := hrel
          obtain ⟨C, n, cp, dn, lf, rfl, rfl, rfl, rfl⟩ := hpr.out.1.shape
          have hst := hpr.out.2.1
          have HLN2 : Hid (64 * d.lines.length = pn) := hpr.out.2.2
          have HGD := Lib.hid hpr.out.1.good
          by_cases hlt : j < len
          · obtain ⟨a, b, o, e1, hga, rfl, hc0, hc1, hc2, hc3⟩ := HA.out wr hpr.out.1.bel j hlt
            have hj150 : j < 150 := by have := HLN.out; have := HL.out; omega
            obtain ⟨ak, ao, an, apa, apc, apk⟩ := a
            simp only [Act.pv] at hc0 hc1 hc2 hc3
            have HOFF : Hid (I64 ao) := hga.off
            have HAN : Hid (an < 2 ^ 64) := hga.n
            have hoff2 : I64 ao := hga.off
            have hak : ak ≤ 255 := hga.kind
            have han : an < 2 ^ 64 := hga.n
            unfold I64 at hoff2
            have HPK : Hid (∀ W : World, Below w.heap.size w W → IsBytes W (.slice apa apk.length apc) apk) := fun W hb => IsInts.below hga.picks hb
            have HPO : Hid (∀ x, apa = some x → apk ≠ [] → x.block < w.heap.size) := hga.old
            have HK := Lib.hid (hpr.out.1.keep (.cells #[.int .u8 (ak : Int), .int .i64 ao, .int .u64 (an : Int), .slice apa apk.length apc] 35 (0, 0)))
            clear e1 hga
            obtain ⟨c0, c1, c2, c3⟩ := HK.out.act
            have h8 : (ak : Int) % 8 = 2 ∨ (ak : Int) % 8 = 3 ∨ (ak : Int) % 8 = 4 ∨ (ak : Int) % 8 = 5 ∨ (ak : Int) % 8 = 6 ∨ (ak : Int) % 8 = 7 ∨ (ak : Int) % 8 = 0 ∨ (ak : Int) % 8 = 1 := by omega
            rcases h8 with h8 | h8 | h8 | h8 | h8 | h8 | h8 | h8
            · have HC5 := Lib.hid (HK.out.dev (fun F hd hF => dev_flush hd ao HOFF.out (by omega)))
              clear c0 c1 c2 c3
              go_wp2_with fail
              refine HC5.out.mono ?_
              rintro e w5 ⟨rfl, h5⟩
              obtain ⟨x0, x1, x2, x3⟩ := h5.cells
              obtain ⟨y0, y1, y2, y3⟩ := h5.act
              have HC6 := Lib.hid (h5.refE (fun F hr hF => rf_flush hr hF HGD.out (by omega) ao HOFF.out))
              clear h5
              go_wp2_with fail
              refine HC6.out.mono ?_
              rintro e w6 ⟨m, rfl, C2, n2, cap2, dn2, lf2, rfl, hb6, ⟨_, _, _, _, hbox6⟩, W7, hW7, hp7⟩
              obtain ⟨_, ⟨e0, e1, e2, e3⟩⟩ := four hbox6
              have HW7 := Lib.hid hW7
              clear hW7 x0 x1 x2 x3 y0 y1 y2 y3 hbox6 hb6
              go_wp2_with fail
              rw [← HW7.out]
              have HS7 := Lib.hid (fun (W : World) (h : Pair w w4.heap.size (.pointer (some ⟨D, 0, none⟩)) [(wr.heap.size, (.cells #[.int .u8 (ak : Int), .int .i64 ao, .int .u64 (an : Int), .slice apa apk.length apc] 35 (0, 0)))] (.slice (some ⟨C2, 0, none⟩) n2 cap2) (.bool dn2) (.int .i64 lf2) (.int .i64 ((d.flush ao).steps : Int)) (d.flush ao) (d.flush ao) W) => h.asks (fun F hd => (dev_steps hd).mono fun e w' ⟨a, b⟩ => (⟨a, 0, b.symm⟩ : _ ∧ ∃ m, w' = W.drewN m)))
              have HD7 : Hid (∀ k, Pair w w4.heap.size (.pointer (some ⟨D, 0, none⟩)) [(wr.heap.size, (.cells #[.int .u8 (ak : Int), .int .i64 ao, .int .u64 (an : Int), .slice apa apk.length apc] 35 (0, 0)))] (.slice (some ⟨C2, 0, none⟩) n2 cap2) (.bool dn2) (.int .i64 lf2) (.int .i64 ((d.flush ao).steps : Int)) (d.flush ao) (d.flush ao) (W7.drewN k)) := fun k => hp7.drewN k
              obtain ⟨_, _, _, m3⟩ := hp7.cells
              have HNR := Lib.hid (near_flush d ao)
              have HN0 : Hid (((d.flush ao).lines.length) = d.lines.length ∧ (d.flush ao).steps ≤ d.steps + 1) := ⟨HNR.out.2, HNR.out.1⟩
              clear hp7
              generalize (d.flush ao) = d7 at *
              go_quiet ((go_at_call 23; exact Calls.quiet_of (HS7.out _ (HD7.out _))))
              go_wp2
              go_roundw
              case rel => exact ⟨j + 1, d7, _, _, _, _, by omega, by go_num, (HD7.out _).less, by have := HN0.out.2; omega, by rw [HN0.out.1]; exact HLN2.out⟩
              case measure => simp [intOf]; omega
            · have HC5 := Lib.hid (HK.out.dev (fun F hd hF => dev_fence hd (by omega)))
              clear c0 c1 c2 c3
              go_wp2_with fail
              refine HC5.out.mono ?_
              rintro e w5 ⟨rfl, h5⟩
              obtain ⟨x0, x1, x2, x3⟩ := h5.cells
              obtain ⟨y0, y1, y2, y3⟩ := h5.act
              have HC6 := Lib.hid (h5.refE (fun F hr hF => rf_fence hr hF HGD.out (by omega)))
              clear h5
              go_wp2_with fail
              refine HC6.out.mono ?_
              rintro e w6 ⟨m, rfl, C2, n2, cap2, dn2, lf2, rfl, hb6, ⟨_, _, _, _, hbox6⟩, W7, hW7, hp7⟩
              obtain ⟨_, ⟨e0, e1, e2, e3⟩⟩ := four hbox6
              have HW7 := Lib.hid hW7
              clear hW7 x0 x1 x2 x3 y0 y1 y2 y3 hbox6 hb6
              go_wp2_with fail
              rw [← HW7.out]
              have HS7 := Lib.hid (fun (W : World) (h : Pair w w4.heap.size (.pointer (some ⟨D, 0, none⟩)) [(wr.heap.size, (.cells #[.int .u8 (ak : Int), .int .i64 ao, .int .u64 (an : Int), .slice apa apk.length apc] 35 (0, 0)))] (.slice (some ⟨C2, 0, none⟩) n2 cap2) (.bool dn2) (.int .i64 lf2) (.int .i64 (d.fence.steps : Int)) d.fence d.fence W) => h.asks (fun F hd => (dev_steps hd).mono fun e w' ⟨a, b⟩ => (⟨a, 0, b.symm⟩ : _ ∧ ∃ m, w' = W.drewN m)))
              have HD7 : Hid (∀ k, Pair w w4.heap.size (.pointer (some ⟨D, 0, none⟩)) [(wr.heap.size, (.cells #[.int .u8 (ak : Int), .int .i64 ao, .int .u64 (an : Int), .slice apa apk.length apc] 35 (0, 0)))] (.slice (some ⟨C2, 0, none⟩) n2 cap2) (.bool dn2) (.int .i64 lf2) (.int .i64 (d.fence.steps : Int)) d.fence d.fence (W7.drewN k)) := fun k => hp7.drewN k
              obtain ⟨_, _, _, m3⟩ := hp7.cells
              have HNR := Lib.hid (near_fence d)
              have HN0 : Hid ((d.fence.lines.length) = d.lines.length ∧ d.fence.steps ≤ d.steps + 1) := ⟨HNR.out.2, HNR.out.1⟩
              clear hp7
              generalize d.fence = d7 at *
              go_quiet ((go_at_call 23; exact Calls.quiet_of (HS7.out _ (HD7.out _))))
              go_wp2
              go_roundw
              case rel => exact ⟨j + 1, d7, _, _, _, _, by omega, by go_num, (HD7.out _).less, by have := HN0.out.2; omega, by rw [HN0.out.1]; exact HLN2.out⟩
              case measure => simp [intOf]; omega
            · have HC5 := Lib.hid (HK.out.asks (fun F hd => dev_load hd ao HOFF.out))
              clear c0 c1 c2 c3
              go_wp2_with fail
              refine HC5.out.mono ?_
              rintro e w5 ⟨rfl, km, rfl⟩
              have h5 := HK.out.drewN km
              obtain ⟨x0, x1, x2, x3⟩ := h5.cells
              obtain ⟨y0, y1, y2, y3⟩ := h5.act
              have HC6 := Lib.hid (h5.says (fun F hr => rf_load hr HGD.out ao HOFF.out))
              clear h5
              go_wp2_with fail
              refine HC6.out.mono ?_
              rintro e w6 ⟨rfl, hp7⟩
              clear x0 x1 x2 x3 y0 y1 y2 y3
              go_wp2_with fail
              have HS7 := Lib.hid (fun (W : World) (h : Pair w w4.heap.size (.pointer (some ⟨D, 0, none⟩)) [(wr.heap.size, (.cells #[.int .u8 (ak : Int), .int .i64 ao, .int .u64 (an : Int), .slice apa apk.length apc] 35 (0, 0)))] (.slice (some ⟨C, 0, none⟩) n cp) (.bool dn) (.int .i64 lf) (.int .i64 (d.steps : Int)) d d W) => h.asks (fun F hd => (dev_steps hd).mono fun e w' ⟨a, b⟩ => (⟨a, 0, b.symm⟩ : _ ∧ ∃ m, w' = W.drewN m)))
              have HD7 : Hid (∀ k, Pair w w4.heap.size (.pointer (some ⟨D, 0, none⟩)) [(wr.heap.size, (.cells #[.int .u8 (ak : Int), .int .i64 ao, .int .u64 (an : Int), .slice apa apk.length apc] 35 (0, 0)))] (.slice (some ⟨C, 0, none⟩) n cp) (.bool dn) (.int .i64 lf) (.int .i64 (d.steps : Int)) d d (w6.drewN k)) := fun k => hp7.drewN k
              obtain ⟨_, _, _, m3⟩ := hp7.cells
              have HNR := Lib.hid ((⟨Nat.le_succ _, rfl⟩ : d.steps ≤ d.steps + 1 ∧ d.lines.length = d.lines.length))
              have HN0 : Hid ((d.lines.length) = d.lines.length ∧ d.steps ≤ d.steps + 1) := ⟨HNR.out.2, HNR.out.1⟩
              clear hp7
              generalize d = d7 at *
              go_quiet ((go_at_call 23; exact Calls.quiet_of (HS7.out _ (HD7.out _))))
              go_wp2
              go_roundw
              case rel => exact ⟨j + 1, d7, _, _, _, _, by omega, by go_num, (HD7.out _).less, by have := HN0.out.2; omega, by rw [HN0.out.1]; exact HLN2.out⟩
              case measure => simp [intOf]; omega
            · obtain ⟨q, hq⟩ : ∃ q : Nat, q = an % 9 := ⟨_, rfl⟩
              have hq9 : q < 9 := by omega
              have hq1 : (an : Int) % 9 = (q : Int) := by omega
              have hq2 : IntKind.i64.wrap (q : Int) = (q : Int) := IntWalk.i64_in _ (by omega)
              have hq3 : IntKind.i64.wrap ((q : Int) - 1) = (q : Int) - 1 := IntWalk.i64_in _ (by omega)
              clear hq
              have HC5 := Lib.hid (HK.out.dev (fun F hd hF => dev_stop hd ((q : Int) - 1) (by omega)))
              clear c0 c1 c2 c3
              go_wp2_with fail
              refine HC5.out.mono ?_
              rintro e w5 ⟨rfl, h5⟩
              obtain ⟨x0, x1, x2, x3⟩ := h5.cells
              obtain ⟨y0, y1, y2, y3⟩ := h5.act
              have HC6 := Lib.hid (h5.ref (fun F hr hF => rf_stop hr ((q : Int) - 1) (by omega)))
              clear h5
              go_wp2_with fail
              refine HC6.out.mono ?_
              rintro e w6 ⟨m, rfl, C2, n2, cap2, dn2, lf2, rfl, hb6, ⟨_, _, _, _, hbox6⟩, W7, hW7, hp7⟩
              obtain ⟨_, ⟨e0, e1, e2, e3⟩⟩ := four hbox6
              have HW7 := Lib.hid hW7
              clear hW7 x0 x1 x2 x3 y0 y1 y2 y3 hbox6 hb6
              go_wp2_with fail
              rw [← HW7.out]
              have HS7 := Lib.hid (fun (W : World) (h : Pair w w4.heap.size (.pointer (some ⟨D, 0, none⟩)) [(wr.heap.size, (.cells #[.int .u8 (ak : Int), .int .i64 ao, .int .u64 (an : Int), .slice apa apk.length apc] 35 (0, 0)))] (.slice (some ⟨C2, 0, none⟩) n2 cap2) (.bool dn2) (.int .i64 lf2) (.int .i64 ((d.stop ((q : Int) - 1)).steps : Int)) (d.stop ((q : Int) - 1)) (d.stop ((q : Int) - 1)) W) => h.asks (fun F hd => (dev_steps hd).mono fun e w' ⟨a, b⟩ => (⟨a, 0, b.symm⟩ : _ ∧ ∃ m, w' = W.drewN m)))
              have HD7 : Hid (∀ k, Pair w w4.heap.size (.pointer (some ⟨D, 0, none⟩)) [(wr.heap.size, (.cells #[.int .u8 (ak : Int), .int .i64 ao, .int .u64 (an : Int), .slice apa apk.length apc] 35 (0, 0)))] (.slice (some ⟨C2, 0, none⟩) n2 cap2) (.bool dn2) (.int .i64 lf2) (.int .i64 ((d.stop ((q : Int) - 1)).steps : Int)) (d.stop ((q : Int) - 1)) (d.stop ((q : Int) - 1)) (W7.drewN k)) := fun k => hp7.drewN k
              obtain ⟨_, _, _, m3⟩ := hp7.cells
              have HNR := Lib.hid (near_stop d ((q : Int) - 1))
              have HN0 : Hid (((d.stop ((q : Int) - 1)).lines.length) = d.lines.length ∧ (d.stop ((q : Int) - 1)).steps ≤ d.steps + 1) := ⟨HNR.out.2, HNR.out.1⟩
              clear hp7
              generalize (d.stop ((q : Int) - 1)) = d7 at *
              go_quiet ((go_at_call 23; exact Calls.quiet_of (HS7.out _ (HD7.out _))))
              go_wp2
              go_roundw
              case rel => exact ⟨j + 1, d7, _, _, _, _, by omega, by go_num, (HD7.out _).less, by have := HN0.out.2; omega, by rw [HN0.out.1]; exact HLN2.out⟩
              case measure => simp [intOf]; omega
            · have HC5 := Lib.hid (HK.out.dev (fun F hd hF => dev_crash hd apa apk.length apc apk (HPK.out _ HK.out.bel) (fun hz x e hf => by have h1 := HPO.out x e hz; have h2 := hF _ hf; omega) (by omega)))
              clear c0 c1 c2 c3
              go_wp2_with fail
              refine HC5.out.mono ?_
              rintro e w5 ⟨rfl, h5⟩
              obtain ⟨x0, x1, x2, x3⟩ := h5.cells
              obtain ⟨y0, y1, y2, y3⟩ := h5.act
              have HC6 := Lib.hid (h5.ref (fun F hr hF => rf_crash hr hF HGD.out (by omega) apa apk.length apc apk (HPK.out _ h5.bel)))
              clear h5
              go_wp2_with fail
              refine HC6.out.mono ?_
              rintro e w6 ⟨m, rfl, C2, n2, cap2, dn2, lf2, rfl, hb6, ⟨_, _, _, _, hbox6⟩, W7, hW7, hp7⟩
              obtain ⟨_, ⟨e0, e1, e2, e3⟩⟩ := four hbox6
              have HW7 := Lib.hid hW7
              clear hW7 x0 x1 x2 x3 y0 y1 y2 y3 hbox6 hb6
              go_wp2_with fail
              rw [← HW7.out]
              have HS7 := Lib.hid (fun (W : World) (h : Pair w w4.heap.size (.pointer (some ⟨D, 0, none⟩)) [(wr.heap.size, (.cells #[.int .u8 (ak : Int), .int .i64 ao, .int .u64 (an : Int), .slice apa apk.length apc] 35 (0, 0)))] (.slice (some ⟨C2, 0, none⟩) n2 cap2) (.bool dn2) (.int .i64 lf2) (.int .i64 ((d.crash apk).steps : Int)) (d.crash apk) (d.crash apk) W) => h.asks (fun F hd => (dev_steps hd).mono fun e w' ⟨a, b⟩ => (⟨a, 0, b.symm⟩ : _ ∧ ∃ m, w' = W.drewN m)))
              have HD7 : Hid (∀ k, Pair w w4.heap.size (.pointer (some ⟨D, 0, none⟩)) [(wr.heap.size, (.cells #[.int .u8 (ak : Int), .int .i64 ao, .int .u64 (an : Int), .slice apa apk.length apc] 35 (0, 0)))] (.slice (some ⟨C2, 0, none⟩) n2 cap2) (.bool dn2) (.int .i64 lf2) (.int .i64 ((d.crash apk).steps : Int)) (d.crash apk) (d.crash apk) (W7.drewN k)) := fun k => hp7.drewN k
              obtain ⟨_, _, _, m3⟩ := hp7.cells
              have HNR := Lib.hid (near_crash d apk)
              have HN0 : Hid (((d.crash apk).lines.length) = d.lines.length ∧ (d.crash apk).steps ≤ d.steps + 1) := ⟨HNR.out.2, HNR.out.1⟩
              clear hp7
              generalize (d.crash apk) = d7 at *
              go_quiet ((go_at_call 23; exact Calls.quiet_of (HS7.out _ (HD7.out _))))
              go_wp2
              go_roundw
              case rel => exact ⟨j + 1, d7, _, _, _, _, by omega, by go_num, (HD7.out _).less, by have := HN0.out.2; omega, by rw [HN0.out.1]; exact HLN2.out⟩
              case measure => simp [intOf]; omega
            · obtain ⟨i, hi⟩ : ∃ i : Int, ao.tmod 12 = i := ⟨_, rfl⟩
              have hi2 : -12 < i ∧ i < 12 := by rw [← hi]; exact tmod12 ao
              have HM1 := Lib.hid (fun (W : World) (h : Pair w w4.heap.size (.pointer (some ⟨D, 0, none⟩)) [(wr.heap.size, (.cells #[.int .u8 (ak : Int), .int .i64 ao, .int .u64 (an : Int), .slice apa apk.length apc] 35 (0, 0)))] (.slice (some ⟨C, 0, none⟩) n cp) (.bool dn) (.int .i64 lf) (.int .i64 (d.steps : Int)) d d W) => h.asks (fun F hd => dev_may hd i (by unfold I64; omega) (by omega)))
              have HM2 := Lib.hid (fun (W : World) (h : Pair w w4.heap.size (.pointer (some ⟨D, 0, none⟩)) [(wr.heap.size, (.cells #[.int .u8 (ak : Int), .int .i64 ao, .int .u64 (an : Int), .slice apa apk.length apc] 35 (0, 0)))] (.slice (some ⟨C, 0, none⟩) n cp) (.bool dn) (.int .i64 lf) (.int .i64 (d.steps : Int)) d d W) => h.says (fun F hr => rf_may hr HGD.out i (by unfold I64; omega)))
              obtain ⟨x0, x1, x2, x3⟩ := HK.out.cells
              go_upto_region 36 with fail
              rw [h8]
              go_cut [138] (fun s wx => s = .bool false ∧ Hid (Pair w w4.heap.size (.pointer (some ⟨D, 0, none⟩)) [(wr.heap.size, (.cells #[.int .u8 (ak : Int), .int .i64 ao, .int .u64 (an : Int), .slice apa apk.length apc] 35 (0, 0)))] (.slice (some ⟨C, 0, none⟩) n cp) (.bool dn) (.int .i64 lf) (.int .i64 (d.steps : Int)) d d wx))
              case first =>
                go_region_with (first
                  | (go_at_call 19; refine (HM1.out _ (by first | exact HK.out.drewN 1 | exact HK.out | exact HK.out.drewN 2)).mono ?_; rintro e w' ⟨rfl, rfl⟩)
                  | (go_at_call 20; refine (HM2.out _ (by first | exact HK.out.drewN 1 | exact HK.out | exact HK.out.drewN 2)).mono ?_; rintro e w6 ⟨rfl, hp6⟩; have HP6 := Lib.hid hp6; clear hp6))
                all_goals (go_wp2_with fail; go_meet; exact ⟨rfl, HP6⟩)
              case rest =>
                obtain ⟨rfl, HP6⟩ := hcut
                clear x0 x1 x2 x3 c0 c1 c2 c3
                have HS7 := Lib.hid (fun (W : World) (h : Pair w w4.heap.size (.pointer (some ⟨D, 0, none⟩)) [(wr.heap.size, (.cells #[.int .u8 (ak : Int), .int .i64 ao, .int .u64 (an : Int), .slice apa apk.length apc] 35 (0, 0)))] (.slice (some ⟨C, 0, none⟩) n cp) (.bool dn) (.int .i64 lf) (.int .i64 (d.steps : Int)) d d W) => h.asks (fun F hd => (dev_steps hd).mono fun e w' ⟨a, b⟩ => (⟨a, 0, b.symm⟩ : _ ∧ ∃ m, w' = W.drewN m)))
                have HD7 := Lib.hid (fun k => HP6.out.drewN k)
                obtain ⟨_, _, _, m3⟩ := HP6.out.cells
                go_wp2_with fail
                go_quiet ((go_at_call 23; exact Calls.quiet_of (HS7.out _ (HD7.out _))))
                go_wp2
                go_roundw
                case rel => exact ⟨j + 1, d, _, _, _, _, by omega, by go_num, (HD7.out _).less, by omega, HLN2.out⟩
                case measure => simp [intOf]; omega
            · have HC5 := Lib.hid (HK.out.dev (fun F hd hF => dev_store hd ao HOFF.out an HAN.out (by omega)))
              clear c0 c1 c2 c3
              go_wp2_with fail
              refine HC5.out.mono ?_
              rintro e w5 ⟨rfl, h5⟩
              obtain ⟨x0, x1, x2, x3⟩ := h5.cells
              obtain ⟨y0, y1, y2, y3⟩ := h5.act
              have HC6 := Lib.hid (h5.refE (fun F hr hF => rf_store hr hF HGD.out (by omega) ao HOFF.out an HAN.out))
              clear h5
              go_wp2_with fail
              refine HC6.out.mono ?_
              rintro e w6 ⟨m, rfl, C2, n2, cap2, dn2, lf2, rfl, hb6, ⟨_, _, _, _, hbox6⟩, W7, hW7, hp7⟩
              obtain ⟨_, ⟨e0, e1, e2, e3⟩⟩ := four hbox6
              have HW7 := Lib.hid hW7
              clear hW7 x0 x1 x2 x3 y0 y1 y2 y3 hbox6 hb6
              go_wp2_with fail
              rw [← HW7.out]
              have HS7 := Lib.hid (fun (W : World) (h : Pair w w4.heap.size (.pointer (some ⟨D, 0, none⟩)) [(wr.heap.size, (.cells #[.int .u8 (ak : Int), .int .i64 ao, .int .u64 (an : Int), .slice apa apk.length apc] 35 (0, 0)))] (.slice (some ⟨C2, 0, none⟩) n2 cap2) (.bool dn2) (.int .i64 lf2) (.int .i64 ((d.store ao an).steps : Int)) (d.store ao an) (d.store ao an) W) => h.asks (fun F hd => (dev_steps hd).mono fun e w' ⟨a, b⟩ => (⟨a, 0, b.symm⟩ : _ ∧ ∃ m, w' = W.drewN m)))
              have HD7 : Hid (∀ k, Pair w w4.heap.size (.pointer (some ⟨D, 0, none⟩)) [(wr.heap.size, (.cells #[.int .u8 (ak : Int), .int .i64 ao, .int .u64 (an : Int), .slice apa apk.length apc] 35 (0, 0)))] (.slice (some ⟨C2, 0, none⟩) n2 cap2) (.bool dn2) (.int .i64 lf2) (.int .i64 ((d.store ao an).steps : Int)) (d.store ao an) (d.store ao an) (W7.drewN k)) := fun k => hp7.drewN k
              obtain ⟨_, _, _, m3⟩ := hp7.cells
              have HNR := Lib.hid (near_store d ao an)
              have HN0 : Hid (((d.store ao an).lines.length) = d.lines.length ∧ (d.store ao an).steps ≤ d.steps + 1) := ⟨HNR.out.2, HNR.out.1⟩
              clear hp7
              generalize (d.store ao an) = d7 at *
              go_quiet ((go_at_call 23; exact Calls.quiet_of (HS7.out _ (HD7.out _))))
              go_wp2
              go_roundw
              case rel => exact ⟨j + 1, d7, _, _, _, _, by omega, by go_num, (HD7.out _).less, by have := HN0.out.2; omega, by rw [HN0.out.1]; exact HLN2.out⟩
              case measure => simp [intOf]; omega
            · have HC5 := Lib.hid (HK.out.dev (fun F hd hF => dev_store hd ao HOFF.out an HAN.out (by omega)))
              clear c0 c1 c2 c3
              go_wp2_with fail
              refine HC5.out.mono ?_
              rintro e w5 ⟨rfl, h5⟩
              obtain ⟨x0, x1, x2, x3⟩ := h5.cells
              obtain ⟨y0, y1, y2, y3⟩ := h5.act
              have HC6 := Lib.hid (h5.refE (fun F hr hF => rf_store hr hF HGD.out (by omega) ao HOFF.out an HAN.out))
              clear h5
              go_wp2_with fail
              refine HC6.out.mono ?_
              rintro e w6 ⟨m, rfl, C2, n2, cap2, dn2, lf2, rfl, hb6, ⟨_, _, _, _, hbox6⟩, W7, hW7, hp7⟩
              obtain ⟨_, ⟨e0, e1, e2, e3⟩⟩ := four hbox6
              have HW7 := Lib.hid hW7
              clear hW7 x0 x1 x2 x3 y0 y1 y2 y3 hbox6 hb6
              go_wp2_with fail
              rw [← HW7.out]
              have HS7 := Lib.hid (fun (W : World) (h : Pair w w4.heap.size (.pointer (some ⟨D, 0, none⟩)) [(wr.heap.size, (.cells #[.int .u8 (ak : Int), .int .i64 ao, .int .u64 (an : Int), .slice apa apk.length apc] 35 (0, 0)))] (.slice (some ⟨C2, 0, none⟩) n2 cap2) (.bool dn2) (.int .i64 lf2) (.int .i64 ((d.store ao an).steps : Int)) (d.store ao an) (d.store ao an) W) => h.asks (fun F hd => (dev_steps hd).mono fun e w' ⟨a, b⟩ => (⟨a, 0, b.symm⟩ : _ ∧ ∃ m, w' = W.drewN m)))
              have HD7 : Hid (∀ k, Pair w w4.heap.size (.pointer (some ⟨D, 0, none⟩)) [(wr.heap.size, (.cells #[.int .u8 (ak : Int), .int .i64 ao, .int .u64 (an : Int), .slice apa apk.length apc] 35 (0, 0)))] (.slice (some ⟨C2, 0, none⟩) n2 cap2) (.bool dn2) (.int .i64 lf2) (.int .i64 ((d.store ao an).steps : Int)) (d.store ao an) (d.store ao an) (W7.drewN k)) := fun k => hp7.drewN k
              obtain ⟨_, _, _, m3⟩ := hp7.cells
              have HNR := Lib.hid (near_store d ao an)
              have HN0 : Hid (((d.store ao an).lines.length) = d.lines.length ∧ (d.store ao an).steps ≤ d.steps + 1) := ⟨HNR.out.2, HNR.out.1⟩
              clear hp7
              generalize (d.store ao an) = d7 at *
              go_quiet ((go_at_call 23; exact Calls.quiet_of (HS7.out _ (HD7.out _))))
              go_wp2
              go_roundw
              case rel => exact ⟨j + 1, d7, _, _, _, _, by omega, by go_num, (HD7.out _).less, by have := HN0.out.2; omega, by rw [HN0.out.1]; exact HLN2.out⟩
              case measure => simp [intOf]; omega
          · obtain rfl : j = len := by omega
            have HPX := Lib.hid hpr.out.1
            have HIL : Hid (d.image.length = pn) := by show _ = _; rw [V.image_length HGD.out.lines]; exact HLN2.out
            have HIM : Hid (∀ W, Pair w w4.heap.size (.pointer (some ⟨D, 0, none⟩)) [] (.slice (some ⟨C, 0, none⟩) n cp) (.bool dn) (.int .i64 lf) (.int .i64 (d.steps : Int)) d d W → Calls Try.prog 24 #[.pointer (some ⟨D, 0, none⟩)] W fun e w' => ∃ g, e = .returned (.slice (some ⟨g, 0, none⟩) pn pn) ∧ IsBytes w' (.slice (some ⟨g, 0, none⟩) pn pn) d.image ∧ Pair w w4.heap.size (.pointer (some ⟨D, 0, none⟩)) [] (.slice (some ⟨C, 0, none⟩) n cp) (.bool dn) (.int .i64 lf) (.int .i64 (d.steps : Int)) d d w') := by
              intro W hW
              refine (hW.asks (fun F hd => dev_image hd)).mono ?_
              rintro e w' ⟨g, rfl, _, hi, hb⟩
              rw [HIL.out] at hi ⊢
              exact ⟨g, rfl, hi, hW.newer hb⟩
            have HRM : Hid (∀ W, Pair w w4.heap.size (.pointer (some ⟨D, 0, none⟩)) [] (.slice (some ⟨C, 0, none⟩) n cp) (.bool dn) (.int .i64 lf) (.int .i64 (d.steps : Int)) d d W → Calls Try.prog 25 #[.agg #[.slice (some ⟨C, 0, none⟩) n cp, .bool dn, .int .i64 lf, .int .i64 (d.steps : Int)]] W fun e w' => ∃ g c, e = .returned (.slice (some ⟨g, 0, none⟩) pn c) ∧ IsBytes w' (.slice (some ⟨g, 0, none⟩) pn c) d.image ∧ Pair w w4.heap.size (.pointer (some ⟨D, 0, none⟩)) [] (.slice (some ⟨C, 0, none⟩) n cp) (.bool dn) (.int .i64 lf) (.int .i64 (d.steps : Int)) d d w' ∧ Below W.heap.size W w') := by
              intro W hW
              have hW' := hW
              obtain ⟨F, _, _, _, _, _, h6, _⟩ := hW
              refine (rf_image h6 HGD.out).mono ?_
              rintro e w' ⟨g, c, rfl, hi, hb⟩
              rw [HLN2.out] at hi ⊢
              exact ⟨g, c, rfl, hi, hW'.newer hb, hb⟩
            have HSZ : Hid (∀ W, Pair w w4.heap.size (.pointer (some ⟨D, 0, none⟩)) [] (.slice (some ⟨C, 0, none⟩) n cp) (.bool dn) (.int .i64 lf) (.int .i64 (d.steps : Int)) d d W → Calls Try.prog 26 #[.pointer (some ⟨D, 0, none⟩)] W fun e w' => e = .returned (.int .i64 (pn : Int)) ∧ W = w') := by
              intro W hW
              refine (hW.asks (fun F hd => dev_size hd)).mono ?_
              rintro e w' ⟨rfl, h⟩
              rw [HLN2.out]
              exact ⟨rfl, h⟩
            obtain ⟨x0, x1, x2, x3⟩ := HPX.out.cells
            clear hpr hst hlt
            go_wp2_with fail
            go_region_with (first
              | (go_at_call 24; refine (HIM.out _ (by first | exact HPX.out.drewN 1 | exact HPX.out | exact HPX.out.drewN 2)).mono ?_; rintro e w5 ⟨g1, rfl, hi1, hp5⟩; have HI5 := Lib.hid hi1; have HP5 := Lib.hid hp5; have hcv1 := conv_dat hi1 9 Try.underlying9; obtain ⟨y0, y1, y2, y3⟩ := hp5.cells; clear hi1 hp5)
              | (go_at_call 25; go_loud (refine (HRM.out _ (by first | exact HP5.out | exact HP5.out.drewN 1 | exact HP5.out.drewN 2)).mono ?_; rintro e w6 ⟨g2, c2, rfl, hi2, hp6, hb6⟩; have hcv2 := conv_dat hi2 9 Try.underlying9; have hcv3 := conv_dat (IsInts.below HI5.out ⟨hb6.os, hb6.tape, hb6.output, hb6.size, hb6.block⟩) 9 Try.underlying9; have HP6 := Lib.hid hp6; clear hi2 hp6 hb6))
              | (go_at_call 26; refine (HSZ.out _ (by first | exact HP6.out | exact HP6.out.drewN 1 | exact HP6.out.drewN 2)).mono ?_; rintro e w' ⟨rfl, rfl⟩))
            all_goals (go_wp2_with fail; go_ret; exact ⟨rfl, HP6.out.bel⟩)
      · have HN := Lib.hid (fun W => nv_of_no W PA pn pc hpc hpm (by omega))
        have HR := Lib.hid (fun W => rf_right W pn (by omega))
        rw [decide_eq_false (show ¬ (64 ≤ pn ∧ pn % 64 = 0 ∧ pn ≤ 65536) by omega)] at HR
        clear hr
        go_enter Try.func3, Try.ntmps3
        go_wp2_with fail
        refine (alive_any _).mono ?_
        rintro e w1 ⟨rfl, hb1⟩
        have HB1 := Lib.hid hb1
        clear hb1
        go_wp2_with fail
        refine (HH.out w1 HB1.out).mono ?_
        rintro e w2 ⟨rfl, hb2⟩
        have HB2 : Hid (Below w.heap.size w w2) := HB1.out.trans (hb2.mono HB1.out.size)
        clear hb2
        go_wp2_with fail
        refine (HN.out _).mono ?_
        rintro e w' ⟨rfl, rfl⟩
        go_wp2_with fail
        refine (HR.out _).mono ?_
        rintro e w' ⟨rfl, rfl⟩
        go_wp2
        go_ret
        exact ⟨rfl, HB2.out⟩
  · rw [hh] at HH
    clear hh h hp
    go_enter Try.func3, Try.ntmps3
    go_wp2_with fail
    refine (alive_any _).mono ?_
    rintro e w1 ⟨rfl, hb1⟩
    have HB1 := Lib.hid hb1
    clear hb1
    go_wp2_with fail
    refine (HH.out w1 HB1.out).mono ?_
    rintro e w2 ⟨rfl, hb2⟩
    have HB2 : Hid (Below w.heap.size w w2) := HB1.out.trans (hb2.mono HB1.out.size)
    clear hb2
    go_wp2
    go_ret
    exact ⟨rfl, HB2.out⟩
end Go.Proofs.Ytmamcliidlmghaa
