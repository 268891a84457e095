/- The walk of NvmMay: whatever is handed in, the call answers true, and what was there stays. -/
import Derived.Test.YtdhjjiholmcagaaLoadsL
import Derived.Laws.BytesArg
namespace Go.Proofs.Ytdhjjiholmcagaa
open Go.RowKit

theorem str_inj {xs ys : List Int} (hx : ∀ z ∈ xs, 0 ≤ z ∧ z ≤ 255) (hy : ∀ z ∈ ys, 0 ≤ z ∧ z ≤ 255) (h : (strOfNums xs).toList = (strOfNums ys).toList) : xs = ys := by
  have h1 : (strOfNums xs).data.toList = (strOfNums ys).data.toList := by rw [← ByteArray.toList_eq, ← ByteArray.toList_eq, h]
  rw [strOfNums_data, strOfNums_data] at h1
  clear h
  induction xs generalizing ys with
  | nil =>
    cases ys with
    | nil => rfl
    | cons y ys => simp at h1
  | cons x xs ih =>
    cases ys with
    | nil => simp at h1
    | cons y ys =>
      simp only [List.map_cons, List.cons.injEq] at h1
      obtain ⟨e1, e2⟩ := h1
      have a1 := hx x (by simp)
      have a2 := hy y (by simp)
      have e3 : (UInt8.ofNat x.toNat).toNat = (UInt8.ofNat y.toNat).toNat := by rw [e1]
      simp only [UInt8.toNat_ofNat'] at e3
      rw [ih (fun z hz => hx z (List.mem_cons_of_mem _ hz)) (fun z hz => hy z (List.mem_cons_of_mem _ hz)) e2, show x = y by omega]
/-- Sixty-four bytes of an image as a string. -/
theorem conv_line {w : World} {g n : Nat} {d : V.Dv} (hu : V.Up 8 d) (h : IsBytes w (.slice (some ⟨g, 0, none⟩) 512 512) d.image) (k : Nat) (hk : k < 8) (c : Nat) (hn : n = 64 * k) :
    ∀ m dst, Try.prog.underlying dst = some .string → (convert 22 dst (.slice (some ⟨g, n, none⟩) 64 c)).run Try.prog (w.drewN m) = .ok (.string (strOfNums (d.at k).now)) (w.drewN m) := by
  intro m
  refine run_convert_bytes_arg (P := Try.prog) (w.drewN m) 22 5 Try.underlying22 Try.underlying5 g n 64 c (d.at k).now (hu.good.at k).len (fun i hi => ?_)
  have h1 := bytes_cell h (64 * k + i) (by omega)
  rw [V.image_line hu k hk i hi, Nat.zero_add, ← hn] at h1
  exact h1

set_option maxHeartbeats 1000000 in
set_option maxRecDepth 100000 in
theorem nvmMay_walk (A : Option Addr) (len cap : Nat) (l : List Act) (ln : Int) (w : World) (h0 : IsActs w A len cap l) (h1 : (Lit.int .u8 ln).wf = true) :
    Calls Try.prog 9 #[.slice A len cap, .int .u8 ln] w fun e w' => e = .returned (.bool true) ∧ Below w.heap.size w w' := by
  obtain ⟨q, rfl, hq⟩ := wf_u8 h1
  clear h1
  cases hhv : heavyF l
  · have hl150 := heavy_out w A len cap l h0 hhv
    have hlen := h0.1
    have HH := Lib.hid (fun wr hb => heavy_any w wr A len cap l h0 hb)
    rw [hhv] at HH
    have HA := Lib.hid (fun (wr : World) (hb : Below w.heap.size w wr) (i : Nat) (hi : i < len) => h0.at hb hi)
    have hlc := h0.2.1
    have hcm := h0.2.2.1
    unfold maxLen at hcm
    have HUP := Lib.hid (fun k => V.up_all (V.up_new (n := 8) (by decide) (by decide)) (l.take k))
    have HST : Hid (∀ k, (V.all (V.newDv 8) (l.take k)).steps ≤ 1000) := fun k => by
      have h1 := V.steps_all (V.newDv 8) (l.take k)
      have h2 : (l.take k).length ≤ l.length := by rw [List.length_take]; omega
      have h3 : (V.newDv 8).steps = 0 := rfl
      omega
    have HSC : Hid (∀ i a, l[i]? = some a → V.all (V.newDv 8) (l.take (i + 1)) = (V.all (V.newDv 8) (l.take i)).does a) := fun i a h => V.all_succ _ h
    have hm : ((q : Int) % 8) = ((q % 8 : Nat) : Int) := rfl
    have hk8 : q % 8 < 8 := Nat.mod_lt _ (by decide)
    clear h0 hlen hhv
    generalize q % 8 = k at *
    go_enter Try.func9, Try.ntmps9
    go_wp2_with fail
    refine (alive_any _).mono ?_
    rintro e w1 ⟨rfl, hb1⟩
    have HB1 := Lib.hid hb1
    clear hb1
    go_wp2_with fail
    refine (HH.out w1 HB1.out).mono ?_
    rintro e w2 ⟨rfl, hb2⟩
    have HB2 : Hid (Below w.heap.size w w2) := HB1.out.trans (hb2.mono HB1.out.size)
    clear hb2
    go_wp2_with fail
    refine (in_new 8 (by decide) (by decide) w w2 HB2.out).mono ?_
    rintro e w3 ⟨D, rfl, hd3⟩
    have HD3 := Lib.hid hd3
    clear hd3
    go_wp2_with fail
    simp only [hm]
    clear hm
    go_loopw [8, 26] (fun _ x wr => ∃ j : Nat, j ≤ len ∧ x = .int .i64 j ∧ Hid (DevIn w (.pointer (some ⟨D, 0, none⟩)) (V.all (V.newDv 8) (l.take j)) wr)) (fun _ x _ => len - (intOf x).toNat)
    case atStart => exact ⟨0, by omega, rfl, HD3.out⟩
    case round =>
      obtain ⟨j, hj, rfl, hdj⟩ := hrel
      by_cases hlt : j < len
      · obtain ⟨a, b, o, e1, hga, rfl, hc0, hc1, hc2, hc3⟩ := HA.out _ hdj.out.below j hlt
        have E1 := Lib.hid (HSC.out j a e1)
        have hup := HUP.out j
        have hst := HST.out j
        generalize V.all (V.newDv 8) (l.take j) = d at *
        have HDO := Lib.hid (fun (W : World) (F : List Nat) (h : Dev W (.pointer (some ⟨D, 0, none⟩)) d F) => dev_does W _ _ F a h hga.kind hga.off hga.n (Nat.le_trans hst (by decide)))
        have HMM := Lib.hid (V.does_may hup a hga.n k hk8)
        have HUD := Lib.hid (hup.does a)
        have hst2 := does_steps d a
        have HM1 := Lib.hid (V.may_at hup k hk8)
        have HM2 := Lib.hid (V.may_at (hup.does a) k hk8)
        have HL1 : Hid (d.image.length = 512) := by show _ = _; rw [V.image_length hup.good.lines, hup.len]
        have HL2 : Hid ((d.does a).image.length = 512) := by show _ = _; rw [V.image_length (hup.does a).good.lines, (hup.does a).len]
        have HMAY := Lib.hid (fun (W : World) (h : DevIn w (.pointer (some ⟨D, 0, none⟩)) d W) => in_may h (k : Int) (by constructor <;> omega) (Nat.le_trans hst (by decide)))
        have HMAY2 := Lib.hid (fun (W : World) (h : DevIn w (.pointer (some ⟨D, 0, none⟩)) (d.does a) W) => in_may h (k : Int) (by constructor <;> omega) (by omega))
        rw [HM1.out] at HMAY
        rw [HM2.out] at HMAY2
        have HUP1 := Lib.hid hup
        have hr1 := (hup.good.at k).byte
        have hr2 := ((hup.does a).good.at k).byte
        have HOB := Lib.hid (hup.good.over)
        have hov : (d.at k).over.length ≤ 1000 := by
          by_cases hh : k < d.lines.length
          · have h1 := HOB.out (d.at k) (by rw [V.Dv.at, List.getElem?_eq_getElem hh]; exact List.getElem_mem hh)
            omega
          · exact absurd hk8 (by rw [hup.len] at hh; exact hh)
        clear hst hst2 hup e1 hga HOB
        obtain ⟨ak, ao, an, apa, apc, apk⟩ := a
        simp only [Act.agg, Act.pv] at hc0 hc1 hc2 hc3 HDO
        generalize hx1 : d.at k = x1 at *
        generalize hx2 : d.does ⟨ak, ao, an, apa, apc, apk⟩ = d2 at *
        generalize hx3 : d2.at k = x2 at *
        generalize hx4 : x1.over.length + 1 = n1 at *
        generalize hx5 : x2.over.length + 1 = n2 at *
        have HX1 := Lib.hid hx1; have HX2 := Lib.hid hx2; have HX3 := Lib.hid hx3; have HN1 := Lib.hid hx4; have HN2 := Lib.hid hx5
        clear hx1 hx2 hx3 hx4 hx5
        obtain ⟨t, ht⟩ : ∃ t, t = 64 * k := ⟨_, rfl⟩
        obtain ⟨u, hu⟩ : ∃ u, u = t + 64 := ⟨_, rfl⟩
        have HC1 := Lib.hid (fun (W : World) (g : Nat) (h : IsBytes W (.slice (some ⟨g, 0, none⟩) 512 512) d.image) (c : Nat) => fun m => conv_line HUP1.out h k hk8 c ht m 9 Try.underlying9)
        have HC2 := Lib.hid (fun (W : World) (g : Nat) (h : IsBytes W (.slice (some ⟨g, 0, none⟩) 512 512) d2.image) (c : Nat) => fun m => conv_line HUD.out h k hk8 c ht m 9 Try.underlying9)
        have HMX : Hid (((strOfNums x2.now).toList == (strOfNums x1.now).toList) = false ∧ n2 = n1 + 1 ∨ ((strOfNums x2.now).toList == (strOfNums x1.now).toList) = true ∧ n2 ≤ n1) := by
          by_cases hch : x2.now = x1.now
          · right
            refine ⟨by rw [hch]; exact beq_self_eq_true _, ?_⟩
            have := HMM.out.2 hch
            have h1 := HN1.out; have h2 := HN2.out
            omega
          · left
            refine ⟨by rw [beq_eq_false_iff_ne]; exact fun h => hch (str_inj hr2 hr1 h), ?_⟩
            have := HMM.out.1 hch
            have h1 := HN1.out; have h2 := HN2.out
            omega
        have hn1 : 1 ≤ n1 := by have := HN1.out; omega
        have hn2 : 1 ≤ n2 := by have := HN2.out; omega
        have hn3 : n1 ≤ 2000 := by have := HN1.out; omega
        rw [HX1.out] at HC1
        rw [HX3.out] at HC2
        clear hr1 hr2 hov HMM
        have ht1 : 64 * (k : Int) = (t : Int) := by omega
        have ht2 : IntKind.i64.wrap (64 * (k : Int)) = (t : Int) := by rw [IntWalk.i64_in _ (by omega)]; exact ht1
        have ht3 : IntKind.i64.wrap (t : Int) = (t : Int) := IntWalk.i64_in _ (by omega)
        have hu1 : (t : Int) + 64 = (u : Int) := by omega
        have hu2 : IntKind.i64.wrap ((t : Int) + 64) = (u : Int) := by rw [IntWalk.i64_in _ (by omega)]; exact hu1
        have hu3 : IntKind.i64.wrap (u : Int) = (u : Int) := IntWalk.i64_in _ (by omega)
        have hut : u - t = 64 := by omega
        have hu5 : u ≤ 512 := by omega
        have hu6 : (u : Int) ≤ 512 := by omega
        have htu : (t : Int) ≤ (u : Int) := by omega
        have htu2 : t ≤ u := by omega
        have hne : ¬ 512 = t := by omega
        clear ht hu
        go_wp2_with fail
        refine (HMAY.out _ (by exact hdj.out.alloc _)).mono ?_
        rintro e w' ⟨rfl, rfl⟩
        go_wp2_with fail
        refine (in_image (hdj.out.alloc (.cells #[.int .u8 (ak : Int), .int .i64 ao, .int .u64 (an : Int), .slice apa apk.length apc] 35))).mono ?_
        rintro e w4 ⟨⟨g1, rfl, hg1, hi1, hbi1⟩, hd4⟩
        rw [HL1.out] at hi1 ⊢
        have hrow4 : w4.heap[wr.heap.size]? = some (.cells #[.int .u8 (ak : Int), .int .i64 ao, .int .u64 (an : Int), .slice apa apk.length apc] 35 (0, 0)) := (hbi1.block wr.heap.size (by simp)).trans (heap_alloc_new wr _)
        have cb0 : w4.cell? ⟨wr.heap.size, 0, none⟩ = some (.int .u8 (ak : Int)) := cell_of_row w4 _ 0 _ _ _ hrow4
        have cb1 : w4.cell? ⟨wr.heap.size, 1, none⟩ = some (.int .i64 ao) := cell_of_row w4 _ 1 _ _ _ hrow4
        have cb2 : w4.cell? ⟨wr.heap.size, 2, none⟩ = some (.int .u64 (an : Int)) := cell_of_row w4 _ 2 _ _ _ hrow4
        have cb3 : w4.cell? ⟨wr.heap.size, 3, none⟩ = some (.slice apa apk.length apc) := cell_of_row w4 _ 3 _ _ _ hrow4
        have hg1l : g1 < w4.heap.size := World.block_lt_of_cell? w4 _ (bytes_cell hi1 0 (by decide))
        have HK4 := Lib.hid ((hdj.out.alloc (.cells #[.int .u8 (ak : Int), .int .i64 ao, .int .u64 (an : Int), .slice apa apk.length apc] 35)).devK.newer (K' := [g1]) hbi1 (fun k hk => .inr (by obtain rfl := List.mem_singleton.1 hk; exact ⟨hg1, hg1l⟩)))
        have HI4 := Lib.hid hi1
        clear hi1 hbi1 hd4 hg1 hg1l hrow4
        go_wp2_with fail
        refine (HK4.out.run (fun F hF => HDO.out _ F hF)).mono ?_
        rintro e w5 ⟨rfl, hk5, hkb⟩
        have HI5 := Lib.hid (HI4.out.keep hkb (by simp))
        have HD5 := Lib.hid hk5.devIn
        clear hk5 hkb
        go_wp2_with fail
        refine (HMAY2.out _ HD5.out).mono ?_
        rintro e w' ⟨rfl, rfl⟩
        go_wp2_with fail
        refine (in_image HD5.out).mono ?_
        rintro e w6 ⟨⟨g2, rfl, hg2, hi2, hbi2⟩, hd6⟩
        rw [HL2.out] at hi2 ⊢
        have HI6 := Lib.hid (HI5.out.below hbi2)
        have hcv1 := fun c => HC1.out w6 g1 HI6.out c
        have hcv2 := fun c => HC2.out w6 g2 hi2 c
        have HD6 := Lib.hid hd6
        clear hi2 hbi2 hd6 hg2 cb0 cb1 cb2 cb3 hc0 hc1 hc2 hc3
        generalize strOfNums x1.now = s1 at *
        generalize strOfNums x2.now = s2 at *
        rcases HMX.out with ⟨hb, hnn⟩ | ⟨hb, hnn⟩
        · have hnb : ((n2 : Int) != (n1 : Int) + 1) = false := by rw [bne_eq_false_iff_eq]; omega
          clear hnn HMX
          go_wp2_with fail
          go_quiet (fail)
          go_wp2
          go_roundw
          case rel => exact ⟨j + 1, by omega, by go_num, by rw [E1.out]; exact HD6.out.drewN _⟩
          case measure => simp [intOf]; omega
        · have hnb : decide ((n1 : Int) < (n2 : Int)) = false := by simp; omega
          clear HMX
          go_wp2_with fail
          go_quiet (fail)
          go_wp2
          go_roundw
          case rel => exact ⟨j + 1, by omega, by go_num, by rw [E1.out]; exact HD6.out.drewN _⟩
          case measure => simp [intOf]; omega
      · obtain rfl : j = len := by omega
        have hup := HUP.out j
        have hst := HST.out j
        generalize V.all (V.newDv 8) (l.take j) = d at *
        obtain ⟨f1, f2⟩ := V.flush_fence_may hup k hk8
        have HF := Lib.hid (in_flush hdj.out (64 * (k : Int)) (by constructor <;> omega) (Nat.le_trans hst (by decide)))
        rw [f1] at HF
        have hs2 : (d.flush (64 * (k : Int))).steps ≤ 1001 := by
          rw [V.Dv.flush_ok f1]; show d.steps + 1 ≤ _; omega
        have hs3 : (d.flush (64 * (k : Int))).fence.steps ≤ 1002 := by
          rw [V.Dv.fence, if_neg (by rw [(hup.flush _).left]; decide)]
          exact Nat.succ_le_succ hs2
        have HE := Lib.hid (fun (W : World) (h : DevIn w (.pointer (some ⟨D, 0, none⟩)) (d.flush (64 * (k : Int))) W) => in_fence h (Nat.le_trans hs2 (by decide)))
        rw [V.state_up (hup.flush _)] at HE
        have HM1 := Lib.hid (fun (W : World) (h : DevIn w (.pointer (some ⟨D, 0, none⟩)) (d.flush (64 * (k : Int))).fence W) => in_may h (k : Int) (by constructor <;> omega) (Nat.le_trans hs3 (by decide)))
        rw [f2] at HM1
        obtain ⟨o1, o2⟩ := V.may_out (hup.flush (64 * (k : Int))).fence
        have HM2 := Lib.hid (fun (W : World) (h : DevIn w (.pointer (some ⟨D, 0, none⟩)) (d.flush (64 * (k : Int))).fence W) => in_may h (-1) (by decide) (Nat.le_trans hs3 (by decide)))
        rw [o1] at HM2
        have HM3 := Lib.hid (fun (W : World) (h : DevIn w (.pointer (some ⟨D, 0, none⟩)) (d.flush (64 * (k : Int))).fence W) => in_may h ((8 : Nat) : Int) (by decide) (Nat.le_trans hs3 (by decide)))
        rw [o2] at HM3
        clear f1 f2 o1 o2 hs2 hs3 hst hup HUP HST HSC HA HH hdj
        have ht2 : IntKind.i64.wrap (64 * (k : Int)) = 64 * (k : Int) := IntWalk.i64_in _ (by omega)
        go_wp2_with fail
        refine HF.out.mono ?_
        rintro e w4 ⟨rfl, hd4⟩
        have HD4 := Lib.hid hd4
        clear hd4
        go_wp2_with fail
        refine (HE.out _ HD4.out).mono ?_
        rintro e w5 ⟨rfl, hd5⟩
        have HD5 := Lib.hid hd5
        clear hd5
        go_wp2_with fail
        refine (HM1.out _ HD5.out).mono ?_
        rintro e w' ⟨rfl, rfl⟩
        go_wp2_with fail
        refine (HM2.out _ HD5.out).mono ?_
        rintro e w' ⟨rfl, rfl⟩
        go_wp2_with fail
        refine (HM3.out _ HD5.out).mono ?_
        rintro e w' ⟨rfl, rfl⟩
        go_wp2
        go_ret
        exact ⟨ret_bool rfl, HD5.out.below⟩
  · have HH := Lib.hid (fun wr hb => heavy_any w wr A len cap l h0 hb)
    rw [hhv] at HH
    clear h0 hhv
    go_enter Try.func9, Try.ntmps9
    go_wp2_with fail
    refine (alive_any _).mono ?_
    rintro e w1 ⟨rfl, hb1⟩
    have HB1 := Lib.hid hb1
    clear hb1
    go_wp2_with fail
    refine (HH.out w1 HB1.out).mono ?_
    rintro e w2 ⟨rfl, hb2⟩
    have HB2 : Hid (Below w.heap.size w w2) := HB1.out.trans (hb2.mono HB1.out.size)
    clear hb2
    go_wp2
    go_ret
    exact ⟨rfl, HB2.out⟩
end Go.Proofs.Ytdhjjiholmcagaa
