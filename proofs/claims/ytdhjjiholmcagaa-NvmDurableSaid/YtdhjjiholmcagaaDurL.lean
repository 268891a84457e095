/- The walk of NvmDurable: whatever is handed in, the call answers true, and what was there stays. -/
import Derived.Test.YtdhjjiholmcagaaDurA
namespace Go.Proofs.Ytdhjjiholmcagaa
open Go.RowKit Go.Maps

set_option maxHeartbeats 2000000 in
set_option maxRecDepth 100000 in
theorem nvmDurable_in (A : Option Addr) (len cap : Nat) (l : List Act) (B : Option Addr) (bn bc : Nat) (lb : List Act) (PA : Option Addr) (pn pc : Nat) (pz : List Int) (w : World) (h0 : IsActs w A len cap l) (h1 : IsActs w B bn bc lb) (hp : IsBytes w (.slice PA pn pc) pz) (hp2 : pz ≠ [] → ∀ a, PA = some a → a.block < w.heap.size)
    (hhv : heavyF l = false) (hhb : heavyF lb = false) (hpn : pn ≤ 100) :
    Calls Try.prog 4 #[.slice A len cap, .slice B bn bc, .slice PA pn pc] w fun e w' => e = .returned (.bool true) ∧ Below w.heap.size w w' := by
  have hl150 := heavy_out w A len cap l h0 hhv
  have hb150 := heavy_out w B bn bc lb h1 hhb
  have hlen := h0.1
  have hblen := h1.1
  have HH := Lib.hid (fun wr hb => heavy_any w wr A len cap l h0 hb)
  rw [hhv] at HH
  have HG := Lib.hid (fun wr hb => heavy_any w wr B bn bc lb h1 hb)
  rw [hhb] at HG
  have HA := Lib.hid (fun (wr : World) (hb : Below w.heap.size w wr) (i : Nat) (hi : i < len) => h0.at hb hi)
  have HB := Lib.hid (fun (wr : World) (hb : Below w.heap.size w wr) (i : Nat) (hi : i < bn) => h1.at hb hi)
  have hlc := h0.2.1
  have hcm := h0.2.2.1
  unfold maxLen at hcm
  have hblc := h1.2.1
  have hbcm := h1.2.2.1
  unfold maxLen at hbcm
  have HP := Lib.hid hp
  have HP2 := Lib.hid hp2
  obtain ⟨_, hpc, hpm⟩ := hp.len'
  unfold maxLen at hpm
  -- the device ahead of the flushes
  have HUP := Lib.hid (fun k => V.up_all (V.up_new (n := 8) (by decide) (by decide)) (l.take k))
  have HST : Hid (∀ k, (V.all (V.newDv 8) (l.take k)).steps ≤ 1000) := fun k => by
    have h1 := V.steps_all (V.newDv 8) (l.take k)
    have h2 : (l.take k).length ≤ l.length := by rw [List.length_take]; omega
    have h3 : (V.newDv 8).steps = 0 := rfl
    omega
  have HSC : Hid (∀ i a, l[i]? = some a → V.all (V.newDv 8) (l.take (i + 1)) = (V.all (V.newDv 8) (l.take i)).does a) := fun i a h => V.all_succ _ h
  have HTK : Hid (∀ i a, lb[i]? = some a → lb.take (i + 1) = lb.take i ++ [a]) := fun i a h => by
    rw [List.take_add_one, h]; rfl
  obtain ⟨dA, hdA⟩ : ∃ dA, dA = V.all (V.newDv 8) (l.take len) := ⟨_, rfl⟩
  have HUA : Hid (V.Up 8 dA) := by rw [hdA]; exact HUP.out len
  have hsA : dA.steps ≤ 1000 := by rw [hdA]; exact HST.out len
  obtain ⟨dd, hdd⟩ : ∃ dd, dd = V.dur 8 dA := ⟨_, rfl⟩
  have HUD : Hid (V.Up 8 dd) := by rw [hdd]; exact V.up_dur HUA.out
  have hsD : dd.steps ≤ 1009 := by rw [hdd, V.dur_steps HUA.out]; omega
  have HUB := Lib.hid (fun k => V.up_all HUD.out (lb.take k))
  have HSB : Hid (∀ k, (V.all dd (lb.take k)).steps ≤ 2000) := fun k => by
    have h1 := V.steps_all dd (lb.take k)
    have h2 : (lb.take k).length ≤ lb.length := by rw [List.length_take]; omega
    omega
  have HSE : Hid (∀ i a, lb[i]? = some a → V.all dd (lb.take (i + 1)) = (V.all dd (lb.take i)).does a) := fun i a h => V.all_succ _ h
  have HDU : Hid (∀ i, i < 512 → lb.any (V.touches · (i / 64)) = false → ((V.all dd lb).crash pz).image.getD i 0 = dd.image.getD i 0) := fun i hi ht => by
    rw [hdd]; exact V.durable HUA.out lb pz i hi ht
  have HL1 : Hid (dd.image.length = 512) := by show _ = _; rw [V.image_length HUD.out.good.lines, HUD.out.len]
  have HL2 : Hid (((V.all dd lb).crash pz).image.length = 512) := by
    have hu := (V.up_all HUD.out lb).crash pz
    show _ = _; rw [V.image_length hu.good.lines, hu.len]
  have HDA := Lib.hid hdA
  have HDD : Hid (dd = (V.flN dA 8).fence) := hdd
  have HTL : Hid (lb.take bn = lb) := by show _ = _; rw [List.take_of_length_le (by omega)]
  clear h0 h1 hhv hhb hp hp2 hdA hdd hlen hblen
  have hmm := @run_makeMap Try.prog
  go_enter Try.func4, Try.ntmps4
  go_wp2_with fail
  refine (alive_any _).mono ?_
  rintro e w1 ⟨rfl, hb1⟩
  have HB1 := Lib.hid hb1
  clear hb1
  go_wp2_with fail
  refine (HH.out w1 HB1.out).mono ?_
  rintro e w2 ⟨rfl, hb2⟩
  have HB2 : Hid (Below w.heap.size w w2) := HB1.out.trans (hb2.mono HB1.out.size)
  clear hb2
  go_wp2_with fail
  refine (HG.out w2 HB2.out).mono ?_
  rintro e w2' ⟨rfl, hb2⟩
  have HB2' : Hid (Below w.heap.size w w2') := HB2.out.trans (hb2.mono HB2.out.size)
  clear hb2
  go_wp2_with fail
  refine (in_new 8 (by decide) (by decide) w w2' HB2'.out).mono ?_
  rintro e w3 ⟨D, rfl, hd3⟩
  have HD3 := Lib.hid hd3
  clear hd3
  go_wp2_with fail
  go_loopw [9, 35] (fun _ x wr => ∃ j : Nat, j ≤ len ∧ x = .int .i64 j ∧ Hid (DevIn w (.pointer (some ⟨D, 0, none⟩)) (V.all (V.newDv 8) (l.take j)) wr)) (fun _ x _ => len - (intOf x).toNat)
  case atStart => exact ⟨0, by omega, rfl, HD3.out⟩
  case round =>
    obtain ⟨j, hj, rfl, hdj⟩ := hrel
    by_cases hlt : j < len
    · obtain ⟨a, b, o, e1, hga, rfl, hc0, hc1, hc2, hc3⟩ := HA.out _ hdj.out.below j hlt
      have E1 := Lib.hid (HSC.out j a e1)
      have hst := HST.out j
      generalize V.all (V.newDv 8) (l.take j) = d at *
      have HDO := Lib.hid (does_any w _ (.pointer (some ⟨D, 0, none⟩)) d a (hdj.out.alloc (.cells #[.int .u8 (a.kind : Int), .int .i64 a.off, .int .u64 (a.n : Int), .slice a.pa a.picks.length a.pc] 35)) hga.kind hga.off hga.n (Nat.le_trans hst (by decide)))
      clear e1 hga hst
      obtain ⟨ak, ao, an, apa, apc, apk⟩ := a
      simp only [Act.agg, Act.pv] at hc0 hc1 hc2 hc3 HDO
      go_wp2_with fail
      refine HDO.out.mono ?_
      rintro e w5 ⟨rfl, hd5⟩
      have HD5 := Lib.hid hd5
      clear hd5
      go_wp2
      go_roundw
      case rel => exact ⟨j + 1, by omega, by go_num, by rw [E1.out]; exact HD5.out⟩
      case measure => simp [intOf]; omega
    · obtain rfl : j = len := by omega
      have HD4 : Hid (DevIn w (.pointer (some ⟨D, 0, none⟩)) (V.flN dA 0) wr) := by rw [show V.flN dA 0 = dA from rfl, HDA.out]; exact hdj.out
      clear hdj HUP HST HSC HDA HA HH HG
      go_wp2_with fail
      go_loopw [10, 43] (fun _ x wr => ∃ j : Nat, j ≤ 8 ∧ x = .int .i64 j ∧ Hid (DevIn w (.pointer (some ⟨D, 0, none⟩)) (V.flN dA j) wr)) (fun _ x _ => 8 - (intOf x).toNat)
      case atStart => exact ⟨0, by omega, rfl, HD4.out⟩
      case round =>
        obtain ⟨i, hi, rfl, hdi⟩ := hrel
        by_cases hlt : i < 8
        · have hs8 := V.flN_steps HUA.out i (by omega)
          have HF := Lib.hid (in_flush hdi.out (64 * (i : Int)) (by constructor <;> omega) (by omega))
          rw [V.flN_err HUA.out i hlt] at HF
          have ht2 : IntKind.i64.wrap (64 * (i : Int)) = 64 * (i : Int) := IntWalk.i64_in _ (by omega)
          clear hs8
          go_wp2_with fail
          refine HF.out.mono ?_
          rintro e w5 ⟨rfl, hd5⟩
          have HD5 := Lib.hid hd5
          clear hd5
          go_wp2
          go_roundw
          case rel => exact ⟨i + 1, by omega, by go_num, HD5.out⟩
          case measure => simp [intOf]; omega
        · obtain rfl : i = 8 := by omega
          have hs8 := V.flN_steps HUA.out 8 (by omega)
          have HE := Lib.hid (in_fence hdi.out (by omega))
          rw [V.state_up (V.up_flN HUA.out 8), ← HDD.out] at HE
          clear hdi hs8 HD4
          go_wp2_with fail
          refine HE.out.mono ?_
          rintro e w5 ⟨rfl, hd5⟩
          have HD5 := Lib.hid hd5
          clear hd5 HE
          go_wp2_with fail
          refine (in_image HD5.out).mono ?_
          rintro e w6 ⟨⟨g1, rfl, hg1, hi1, hbi1⟩, hd6⟩
          rw [HL1.out] at hi1 ⊢
          have hg1l : g1 < w6.heap.size := World.block_lt_of_cell? w6 _ (bytes_cell hi1 0 (by decide))
          have hg0 : w.heap.size ≤ g1 := Nat.le_trans HD5.out.below.size hg1
          have hne12 : g1 ≠ w6.heap.size := Nat.ne_of_lt hg1l
          have hG2 : w.heap.size ≤ w6.heap.size := Nat.le_trans hg0 (Nat.le_of_lt hg1l)
          have hba : Below w6.heap.size w6 (w6.alloc (.map #[] 0)) := (Below.refl _ _).alloc (Nat.le_refl _) _
          have HK6 := Lib.hid ((HD5.out.devK.newer (K' := [g1]) hbi1 (fun k hk => .inr (by obtain rfl := List.mem_singleton.1 hk; exact ⟨hg1, hg1l⟩))).newer (K' := [g1, w6.heap.size]) hba (fun k hk => by
            rcases List.mem_cons.1 hk with e | e
            · exact .inl (List.mem_singleton.2 e)
            · obtain rfl := List.mem_singleton.1 e
              exact .inr ⟨Nat.le_refl _, by simp⟩))
          have HI6 := Lib.hid (hi1.below hba)
          have HT6 := Lib.hid (Tch.made w6)
          generalize hg2 : w6.heap.size = g2 at *
          clear hi1 hbi1 hd6 hg1 hg1l hba
          go_wp2_with fail
          go_loopw [14, 60] (fun _ x wr => ∃ j : Nat, j ≤ bn ∧ x = .int .i64 j ∧ Hid (DevK w (.pointer (some ⟨D, 0, none⟩)) (V.all dd (lb.take j)) [g1, g2] wr) ∧ Hid (IsBytes wr (.slice (some ⟨g1, 0, none⟩) 512 512) dd.image) ∧ ∃ n, n ≤ j ∧ Hid (Tch wr g2 n (lb.take j))) (fun _ x _ => bn - (intOf x).toNat)
          case atStart => exact ⟨0, by omega, rfl, HK6.out, HI6.out, 0, by omega, HT6.out⟩
          case round =>
            obtain ⟨j, hj, rfl, hkj, hij, n, hn, htj⟩ := hrel
            by_cases hlt : j < bn
            · obtain ⟨a, b, o, e1, hga, rfl, hc0, hc1, hc2, hc3⟩ := HB.out _ hkj.out.devIn.below j hlt
              have E1 := Lib.hid (HSE.out j a e1)
              have E2 := Lib.hid (HTK.out j a e1)
              have hst := HSB.out j
              have hwl : g2 < wr.heap.size := htj.out.lt
              have hgl : g1 < wr.heap.size := World.block_lt_of_cell? wr _ (bytes_cell hij.out 0 (by decide))
              generalize V.all dd (lb.take j) = d at *
              generalize lb.take j = lt at *
              have hba : Below wr.heap.size wr (wr.alloc (.cells #[.int .u8 (a.kind : Int), .int .i64 a.off, .int .u64 (a.n : Int), .slice a.pa a.picks.length a.pc] 35)) := (Below.refl _ _).alloc (Nat.le_refl _) _
              have HK1 := Lib.hid (hkj.out.newer (K' := [g1, g2, wr.heap.size]) hba (fun k hk => by
                simp only [List.mem_cons, List.not_mem_nil, or_false] at hk
                rcases hk with e | e | e
                · exact .inl (by simp [e])
                · exact .inl (by simp [e])
                · subst e; exact .inr ⟨Nat.le_refl _, by simp⟩))
              have HDO := Lib.hid (HK1.out.run (fun F hF => dev_does _ _ d F a hF hga.kind hga.off hga.n (Nat.le_trans hst (by decide))))
              have HI1 := Lib.hid (hij.out.below hba)
              have HT1 : Hid (Tch (wr.alloc (.cells #[.int .u8 (a.kind : Int), .int .i64 a.off, .int .u64 (a.n : Int), .slice a.pa a.picks.length a.pc] 35)) g2 n lt) := htj.out.at (hba.block g2 hwl)
              have HGO : Hid (I64 a.off) := hga.off
              clear e1 hga hst hba hkj hij htj
              obtain ⟨ak, ao, an, apa, apc, apk⟩ := a
              simp only [Act.agg, Act.pv] at hc0 hc1 hc2 hc3 HDO HI1 HT1 HGO E1 E2
              go_wp2_with fail
              refine HDO.out.mono ?_
              rintro e w7 ⟨rfl, hk7, hkb⟩
              have hbw : w7.heap[wr.heap.size]? = some (.cells #[.int .u8 (ak : Int), .int .i64 ao, .int .u64 (an : Int), .slice apa apk.length apc] 35 (0, 0)) := (hkb _ (by simp)).trans (heap_alloc_new wr _)
              have HI7 := Lib.hid (HI1.out.keep hkb (by simp))
              have HT7 := Lib.hid (HT1.out.at (hkb g2 (by simp)))
              have HK7 := Lib.hid (hk7.newer (K' := [g1, g2]) (Below.refl _ _) (fun k hk => .inl (by simp only [List.mem_cons, List.not_mem_nil, or_false] at hk ⊢; rcases hk with e | e <;> simp [e])))
              have cb1 : w7.cell? ⟨wr.heap.size, 1, none⟩ = some (.int .i64 ao) := cell_of_row w7 _ 1 _ _ _ hbw
              clear hk7 hkb hbw HDO HK1 HI1 HT1
              by_cases hneg : ao < 0
              · have HT8 := Lib.hid (HT7.out.skip ⟨ak, ao, an, apa, apc, apk⟩ hneg)
                go_wp2
                go_roundw
                case rel => exact ⟨j + 1, by omega, by go_num, by rw [E1.out]; exact HK7.out, HI7.out, n, by omega, by rw [E2.out]; exact HT8.out⟩
                case measure => simp [intOf]; omega
              · have hpos : 0 ≤ ao := by omega
                obtain ⟨hgo1, hgo2⟩ := HGO.out
                obtain ⟨x, hx⟩ : ∃ x, x = ao / 64 := ⟨_, rfl⟩
                have hx1 : IntKind.i64.wrap (ao.tdiv 64) = x := by rw [Int.tdiv_eq_ediv_of_nonneg hpos, IntWalk.i64_in _ (by omega)]; exact hx.symm
                have hx2 : ao.tdiv 64 = x := by rw [Int.tdiv_eq_ediv_of_nonneg hpos]; exact hx.symm
                have hx3 : ao / 64 = x := hx.symm
                have hx4 : IntKind.i64.wrap x = x := IntWalk.i64_in _ (by omega)
                have hwx : (Lit.int .i64 x).wf = true := by simp [Lit.wf, IntKind.min, IntKind.max, IntKind.signed, IntKind.bits]; omega
                obtain ⟨DD, hown, hat⟩ := HT7.out
                have hkey := keyOf_int_mk Try.underlying3 hwx
                have HX := Lib.hid hx
                have HAT := Lib.hid hat
                clear hx hat
                go_wp2_with (first
                  | (at_mapUpdate; refine wpList_mapUpdate_own _ rfl _ _ _ 60 rfl 3 4 lawI Try.underlying60 _ g2 n _ rfl hown (by unfold maxLen; omega) _ _ _ rfl rfl hkey _ [] (plainElem_bool Try.underlying4 true) ?_; intro w8 hown1 hgrow1)
                  | go_in)
                have HT8 := Lib.hid (Tch.put hown.isMap HAT.out ⟨ak, ao, an, apa, apc, apk⟩ hpos x HX.out hown1)
                have HK8 := Lib.hid (HK7.out.other g2 (by simp) hG2 hgrow1)
                go_roundw
                case rel => exact ⟨j + 1, by omega, by go_num, by rw [E1.out]; exact HK8.out, HI7.out.beside hgrow1 hne12, n + 1, by omega, by rw [E2.out]; exact HT8.out⟩
                case measure => simp [intOf]; omega
            · obtain rfl : j = bn := by omega
              rw [HTL.out] at hkj htj
              have hs2 := HSB.out j
              rw [HTL.out] at hs2
              have HC := Lib.hid (hkj.out.crash PA pn pc pz HP.out HP2.out (Nat.le_trans hs2 (by decide)))
              have HIj := Lib.hid hij.out
              have HTj := Lib.hid htj.out
              have hne13 : g1 ≠ g2 := hne12
              clear hkj hij htj HSB HSE HTK HUB HB HK6 HI6 HT6 hs2 hn
              go_wp2_with fail
              refine HC.out.mono ?_
              rintro e w9 ⟨rfl, hk9, hkb⟩
              have HI9 := Lib.hid (HIj.out.keep hkb (by simp))
              have HT9 := Lib.hid (HTj.out.at (hkb g2 (by simp)))
              have HD9 := Lib.hid hk9.devIn
              clear hk9 hkb HIj HTj HC
              go_wp2_with fail
              refine (in_image HD9.out).mono ?_
              rintro e w10 ⟨⟨g3, rfl, hg3, hi3, hbi3⟩, hd10⟩
              rw [HL2.out] at hi3 ⊢
              have HI10 := Lib.hid (HI9.out.below hbi3)
              have HT10 : Hid (Tch w10 g2 n lb) := HT9.out.at (hbi3.block g2 HT9.out.lt)
              have HI3 := Lib.hid hi3
              have HBZ := Lib.hid hd10.below
              clear hg3 hi3 hbi3 hd10 HI9 HT9
              go_wp2_with fail
              go_loopw [16, 87] (fun _ x wr => ∃ j : Nat, j ≤ 512 ∧ x = .int .i64 j ∧ Hid (Tch wr g2 n lb) ∧ Hid (IsBytes wr (.slice (some ⟨g1, 0, none⟩) 512 512) dd.image) ∧ Hid (IsBytes wr (.slice (some ⟨g3, 0, none⟩) 512 512) ((V.all dd lb).crash pz).image) ∧ Hid (Below w.heap.size w wr)) (fun _ x _ => 512 - (intOf x).toNat)
              case atStart => exact ⟨0, by omega, rfl, HT10.out, HI10.out, HI3.out, HBZ.out⟩
              case round =>
                obtain ⟨i, hi, rfl, ht, hi1, hi2, hbz⟩ := hrel
                by_cases hlt : i < 512
                · obtain ⟨q, hq⟩ : ∃ q, q = i / 64 := ⟨_, rfl⟩
                  have hq2 : (i : Int).tdiv 64 = (q : Int) := by rw [Int.tdiv_eq_ediv_of_nonneg (by omega)]; omega
                  have hq1 : IntKind.i64.wrap ((i : Int).tdiv 64) = (q : Int) := by rw [hq2, IntWalk.i64_in _ (by omega)]
                  have hq4 : IntKind.i64.wrap (q : Int) = (q : Int) := IntWalk.i64_in _ (by omega)
                  have hlk := fun k => (ht.out.drewN k).look q (by omega)
                  have hc1 := bytes_cell hi1.out i hlt
                  have hc2 := bytes_cell hi2.out i hlt
                  rw [Nat.zero_add] at hc1 hc2
                  have hdu := HDU.out i hlt
                  rw [← hq] at hdu
                  generalize ((V.all dd lb).crash pz).image.getD i 0 = y2 at *
                  generalize dd.image.getD i 0 = y1 at *
                  generalize lb.any (V.touches · q) = t at *
                  cases t
                  · obtain rfl := hdu rfl
                    clear hdu hq
                    go_wp2_with fail
                    go_quiet (fail)
                    go_wp2
                    go_roundw
                    case rel => exact ⟨i + 1, by omega, by go_num, ht.out.drewN _, hi1.out.drewN _, hi2.out.drewN _, below_drewN' hbz.out _⟩
                    case measure => simp [intOf]; omega
                  · clear hdu hq
                    go_wp2_with fail
                    go_quiet (fail)
                    go_wp2
                    go_roundw
                    case rel => exact ⟨i + 1, by omega, by go_num, ht.out.drewN _, hi1.out.drewN _, hi2.out.drewN _, below_drewN' hbz.out _⟩
                    case measure => simp [intOf]; omega
                · obtain rfl : i = 512 := by omega
                  go_wp2
                  go_ret
                  exact ⟨rfl, hbz.out⟩
end Go.Proofs.Ytdhjjiholmcagaa
