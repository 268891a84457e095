/- The walk of NvmContents: whatever is handed in, the call answers true, and what was there stays. -/
import Derived.Test.YtdhjjiholmcagaaCtA
import Derived.StillTailTactics
import Derived.Deep.RegionWith
import Derived.Deep.DeepFit
namespace Go.Proofs.Ytdhjjiholmcagaa
open Go.RowKit Go.Maps

set_option maxHeartbeats 2000000 in
set_option maxRecDepth 100000 in
theorem nvmContents_in (A : Option Addr) (len cap : Nat) (l : List Act) (PA : Option Addr) (pn pc : Nat) (pz : List Int) (w : World) (h0 : IsActs w A len cap l) (hp : IsBytes w (.slice PA pn pc) pz) (hp2 : pz ≠ [] → ∀ a, PA = some a → a.block < w.heap.size)
    (hhv : heavyF l = false) (hpn : pn ≤ 100) :
    Calls Try.prog 5 #[.slice A len cap, .slice PA pn pc] w fun e w' => e = .returned (.bool true) ∧ Below w.heap.size w w' := by
  have hl150 := heavy_out w A len cap l h0 hhv
  have hlen := h0.1
  have HH := Lib.hid (fun wr hb => heavy_any w wr A len cap l h0 hb)
  rw [hhv] at HH
  have HA := Lib.hid (fun (wr : World) (hb : Below w.heap.size w wr) (i : Nat) (hi : i < len) => h0.at hb hi)
  have hlc := h0.2.1
  have hcm := h0.2.2.1
  unfold maxLen at hcm
  have HP := Lib.hid hp
  have HP2 := Lib.hid hp2
  obtain ⟨_, hpc, hpm⟩ := hp.len'
  unfold maxLen at hpm
  have HUP := Lib.hid (fun k => V.up_all (V.up_new (n := 8) (by decide) (by decide)) (l.take k))
  have HST : Hid (∀ k, (V.all (V.newDv 8) (l.take k)).steps ≤ 1000) := fun k => by
    have h1 := V.steps_all (V.newDv 8) (l.take k)
    have h2 : (l.take k).length ≤ l.length := by rw [List.length_take]; omega
    have h3 : (V.newDv 8).steps = 0 := rfl
    omega
  have HSC : Hid (∀ i a, l[i]? = some a → V.all (V.newDv 8) (l.take (i + 1)) = (V.all (V.newDv 8) (l.take i)).does a) := fun i a h => V.all_succ _ h
  have HCT : Hid (∀ k, k < 8 → V.Was l k len (((V.all (V.newDv 8) l).crash pz).at k).now ∧ ((V.all (V.newDv 8) l).crash pz).may (k : Int) = 1) := fun k hk => by
    rw [← hlen]; exact V.contents l pz k hk
  have HTL : Hid (l.take len = l) := by show _ = _; rw [List.take_of_length_le (by omega)]
  clear h0 hhv hp hp2 hlen
  have hmm := @run_makeMap Try.prog
  go_enter Try.func5, Try.ntmps5
  go_wp2_with fail
  refine (alive_any _).mono ?_
  rintro e w1 ⟨rfl, hb1⟩
  have HB1 := Lib.hid hb1
  clear hb1
  go_wp2_with fail
  refine (HH.out w1 HB1.out).mono ?_
  rintro e w2 ⟨rfl, hb2⟩
  have HB2 : Hid (Below w.heap.size w w2) := HB1.out.trans (hb2.mono HB1.out.size)
  clear hb2
  go_wp2_with fail
  refine (in_new 8 (by decide) (by decide) w w2 HB2.out).mono ?_
  rintro e w3 ⟨D, rfl, hd3⟩
  have HD3 := Lib.hid hd3
  have HM3 := Lib.hid (MapsUp.start w3)
  have hba : Below w3.heap.size w3 (w3.alloc (.cells (List.replicate 8 (Value.map none)).toArray 63)) := (Below.refl _ _).alloc (Nat.le_refl _) _
  have HK3 := Lib.hid (hd3.devK.newer (K' := [w3.heap.size]) hba (fun k hk => .inr (by obtain rfl := List.mem_singleton.1 hk; exact ⟨Nat.le_refl _, by simp⟩)))
  have hH0 : w.heap.size ≤ w3.heap.size := hd3.below.size
  clear hd3 hba
  go_wp2_with fail
  generalize hHb : w3.heap.size = Hb at *
  go_loopw [7, 26] (fun _ x wr => ∃ i : Nat, i ≤ 8 ∧ x = .int .i64 i ∧ ∃ ms, Hid (MapsUp wr Hb ms i) ∧ Hid (DevK w (.pointer (some ⟨D, 0, none⟩)) (V.newDv 8) (Hb :: ms) wr) ∧ Hid (∀ b ∈ ms, w.heap.size ≤ b)) (fun _ x _ => 8 - (intOf x).toNat)
  case atStart => exact ⟨0, by omega, rfl, [], HM3.out, HK3.out, fun b hb => by cases hb⟩
  case round =>
    obtain ⟨i, hi, rfl, ms, hm, hk, hmlo⟩ := hrel
    by_cases hlt : i < 8
    · obtain ⟨i0, hi0, hiz0, hiz1, hiz2⟩ := info_parts info_u8
      go_wp2_with (at_make; go_must (refine wpList_make_full _ rfl _ _ 22 rfl (wr.alloc (.map #[] 0)).heap.size 5 i0 (.int .u8 0) 1 Try.underlying22 hi0 hiz0 hiz1 .i64 .i64 64 64 64 rfl rfl rfl rfl (by rw [hiz2]; decide) (by unfold maxLen; decide) (by simp) ?_))
      intro w2 hown hg
      generalize hmb : wr.heap.size = m at *
      have hba : Below wr.heap.size wr (wr.alloc (.map #[] 0)) := (Below.refl _ _).alloc (Nat.le_refl _) _
      have hb2 : Below wr.heap.size wr w2 := hba.grown hg (by simp) (fun k hk => by cases hk)
      have hs2 : m < w2.heap.size := by have := hg.size; simp at this; omega
      have hmsl := hm.out.lt
      have HU2 := Lib.hid (hm.out.keep (fun b hb => hb2.block b (hmsl b hb)))
      have hmm1 : m ∉ ms := fun h => by have := hmsl m (List.mem_cons_of_mem _ h); omega
      have hHm : Hb ≠ m := fun h => by have := hmsl Hb (List.mem_cons_self ..); omega
      have hlo : w.heap.size ≤ m := by have := hk.out.devIn.below.size; omega
      have HKK := Lib.hid (hk.out.newer (K' := Hb :: (ms ++ [m])) hb2 (fun k hk => by
        rcases List.mem_cons.1 hk with e | e
        · exact .inl (by simp [e])
        · rcases List.mem_append.1 e with e | e
          · exact .inl (List.mem_cons_of_mem _ e)
          · obtain rfl := List.mem_singleton.1 e; exact .inr ⟨by omega, hs2⟩))
      have hz64 : IsBytes w2 (.slice (some ⟨m + 1, 0, none⟩) 64 64) (List.replicate 64 0) := IsInts.of_own (k := .u8) (by rw [toList_madeCells_one] at hown; simpa using hown) (fun z hz => by obtain ⟨_, rfl⟩ := List.mem_replicate.1 hz; decide)
      have hcv : ∀ dst, Try.prog.underlying dst = some .string → (convert 22 dst (.slice (some ⟨m + 1, 0, none⟩) 64 64)).run Try.prog w2 = .ok (.string (strOfNums (List.replicate 64 0))) w2 := conv_whole hz64 0
      have hmo : w2.ownsMap Try.prog 9 (plainElem (H := Unit) Try.prog 4) m 0 (.map []) := by rw [← hmb]; exact (World.ownsMap_made wr _ _ _).kept hg (by simp)
      clear hown hg hba hb2 hz64 hmsl hk hm
      go_wp2_with (first
        | (refine wpList_insert_own w2 rfl _ _ _ 62 rfl 9 4 lawS Try.underlying62 _ m 0 _ rfl hmo (by unfold maxLen; decide) _ _ _ rfl rfl (keyOf_bytes (zs := List.replicate 64 0) (by simp)) _ [] (plainElem_bool Try.underlying4 true) ?_; intro w4 hown4 hg4; have HU4 := Lib.hid (HU2.out.keep (fun b hb => hg4.block b (HU2.out.lt b hb) (fun e => by cases e; rcases List.mem_cons.1 hb with e | e; exact hHm e.symm; exact hmm1 e))); have hcb := HU4.out.cell hlt; have hfr := HU4.out.free i)
        | go_in)
      have HK4 := Lib.hid ((HKK.out.other m (by simp) hlo hg4).only Hb (by simp) hH0 (Only.setCell w4 ⟨Hb, i, none⟩ (.map (some m))))
      have HU5 := Lib.hid (HU4.out.step hlt hHm hmm1 ((HasM.put (S := fun _ => False) hmo.isMap (fun zs h => h.elim) (List.replicate 64 0) hown4).mono (Nat.le_refl _) (fun zs h => .inr h)))
      go_roundw
      case rel => exact ⟨i + 1, by omega, by go_num, ms ++ [m], HU5.out, HK4.out, fun b hb => by
        rcases List.mem_append.1 hb with e | e
        · exact hmlo.out b e
        · rw [List.mem_singleton.1 e]; exact hlo⟩
      case measure => simp [intOf]; omega
    · obtain rfl : i = 8 := by omega
      have HM0 := Lib.hid (hm.out.done l)
      have HK0 := Lib.hid hk.out
      clear hm hk HM3 HK3 HD3
      go_wp2_with fail
      go_loopw [9, 10, 11, 38] (fun _ _ _ x wr => ∃ j : Nat, j ≤ len ∧ x = .int .i64 j ∧ Hid (DevK w (.pointer (some ⟨D, 0, none⟩)) (V.all (V.newDv 8) (l.take j)) (Hb :: ms) wr) ∧ Hid (MapsAt wr Hb ms (fun _ => j + 1) (fun k => V.Was l k j))) (fun _ _ _ x _ => len - (intOf x).toNat)
      case atStart => exact ⟨0, by omega, rfl, HK0.out, HM0.out⟩
      case round =>
        obtain ⟨j, hj, rfl, hkj, hmj⟩ := hrel
        by_cases hlt : j < len
        · obtain ⟨a, b, o, e1, hga, rfl, hc0, hc1, hc2, hc3⟩ := HA.out _ hkj.out.devIn.below j hlt
          have E1 := Lib.hid (HSC.out j a e1)
          have hst := HST.out j
          have HUD := Lib.hid (HUP.out (j + 1))
          have hba : Below wr.heap.size wr (wr.alloc (.cells #[.int .u8 (a.kind : Int), .int .i64 a.off, .int .u64 (a.n : Int), .slice a.pa a.picks.length a.pc] 35)) := (Below.refl _ _).alloc (Nat.le_refl _) _
          have HK1 := Lib.hid (hkj.out.newer (K' := Hb :: ms) hba (fun k hk => .inl hk))
          have HDO := Lib.hid (HK1.out.run (fun F hF => dev_does _ _ _ F a hF hga.kind hga.off hga.n (Nat.le_trans hst (by decide))))
          have HM1 := Lib.hid (hmj.out.below hba)
          have HQ : Hid (∀ k zs, V.Was l k (j + 1) zs → V.Was l k j zs ∨ zs = ((V.all (V.newDv 8) (l.take (j + 1))).at k).now) := fun k zs h => by
            obtain ⟨i, hi, e⟩ := h
            by_cases e2 : i = j + 1
            · subst e2; exact .inr e
            · exact .inl ⟨i, by omega, e⟩
          rw [← E1.out] at HDO
          generalize hdq : V.all (V.newDv 8) (l.take (j + 1)) = d at *
          have HDQ := Lib.hid hdq
          clear hdq
          have HL1 : Hid (d.image.length = 512) := by show _ = _; rw [V.image_length HUD.out.good.lines, HUD.out.len]
          clear e1 hga hst hba hkj hmj
          obtain ⟨ak, ao, an, apa, apc, apk⟩ := a
          simp only [Act.agg, Act.pv] at hc0 hc1 hc2 hc3 HDO HM1
          go_wp2_with fail
          refine HDO.out.mono ?_
          rintro e w7 ⟨rfl, hk7, hkb⟩
          have HM7 := Lib.hid (HM1.out.keep hkb)
          have HK7 := Lib.hid hk7
          clear hk7 hkb HDO HM1 HK1
          go_wp2_with fail
          refine (in_image HK7.out.devIn).mono ?_
          rintro e w8 ⟨⟨g, rfl, hg, hi8, hbi⟩, hd8⟩
          rw [HL1.out] at hi8 ⊢
          have hne : Hid (∀ b ∈ Hb :: ms, g ≠ b) := fun b hb e => by
            have h1 : b < w7.heap.size := by obtain ⟨F, h1, h2, h3, h4⟩ := HK7.out; exact (h4 b hb).2
            omega
          have HM8 := Lib.hid (HM7.out.below hbi)
          have HI8 := Lib.hid hi8
          have HK8 := Lib.hid (HK7.out.newer (K' := Hb :: ms) hbi (fun k hk => .inl hk))
          clear hg hi8 hbi hd8 HM7 HK7
          go_wp2_with fail
          go_loopw [11, 50] (fun _ x wr => ∃ i : Nat, i ≤ 8 ∧ x = .int .i64 i ∧ Hid (DevK w (.pointer (some ⟨D, 0, none⟩)) d (Hb :: ms) wr) ∧ Hid (MapsAt wr Hb ms (fun k => if k < i then j + 2 else j + 1) (fun k => V.Was l k (if k < i then j + 1 else j))) ∧ Hid (IsBytes wr (.slice (some ⟨g, 0, none⟩) 512 512) d.image)) (fun _ x _ => 8 - (intOf x).toNat)
          case atStart => exact ⟨0, by omega, rfl, HK8.out, by exact HM8.out, HI8.out⟩
          case round =>
            obtain ⟨i, hi, rfl, hki, hmi, hii⟩ := hrel
            by_cases hli : i < 8
            · obtain ⟨t, ht⟩ : ∃ t, t = 64 * i := ⟨_, rfl⟩
              obtain ⟨u, hu⟩ : ∃ u, u = t + 64 := ⟨_, rfl⟩
              have hcv : ∀ c, (convert 22 9 (.slice (some ⟨g, t, none⟩) 64 c)).run Try.prog wr.drew = .ok (.string (strOfNums (d.at i).now)) wr.drew := fun c => conv_line HUD.out hii.out i hli c ht 1 9 Try.underlying9
              have hcb := hmi.out.cell i hli
              have hnow := (HUD.out.good.at i).len
              obtain ⟨DD, hown, hat⟩ := hmi.out.has i hli
              simp only [Nat.lt_irrefl, if_false] at hown hat
              have HAT := Lib.hid hat
              have hmem := hmi.out.mem i hli
              have HNE : Hid (g ≠ ms.getD i 0) := hne.out _ (List.mem_cons_of_mem _ hmem)
              have HLO : Hid (w.heap.size ≤ ms.getD i 0) := hmlo.out _ hmem
              have HME : Hid (ms.getD i 0 ∈ Hb :: ms) := List.mem_cons_of_mem _ hmem
              have HQI := Lib.hid (HQ.out i)
              have hkey := keyOf_bytes (zs := (d.at i).now) (by omega)
              generalize hmq : ms.getD i 0 = mq at *
              have HMQ := Lib.hid hmq
              clear hmq hat hmem
              generalize hnw : (d.at i).now = nw at *
              clear hnw
              have ht1 : 64 * (i : Int) = (t : Int) := by omega
              have ht2 : IntKind.i64.wrap (64 * (i : Int)) = (t : Int) := by rw [IntWalk.i64_in _ (by omega)]; exact ht1
              have ht3 : IntKind.i64.wrap (t : Int) = (t : Int) := IntWalk.i64_in _ (by omega)
              have hu1 : (t : Int) + 64 = (u : Int) := by omega
              have hu2 : IntKind.i64.wrap ((t : Int) + 64) = (u : Int) := by rw [IntWalk.i64_in _ (by omega)]; exact hu1
              have hu3 : IntKind.i64.wrap (u : Int) = (u : Int) := IntWalk.i64_in _ (by omega)
              have hut : u - t = 64 := by omega
              have hu5 : u ≤ 512 := by omega
              have hu6 : (u : Int) ≤ 512 := by omega
              have htu : (t : Int) ≤ (u : Int) := by omega
              have htu2 : t ≤ u := by omega
              have hne5 : ¬ 512 = t := by omega
              have hi8 : (i : Int) < 8 := by omega
              clear ht hu hnow
              go_wp2_with fail
              go_still_tail 11, (by kernel_rfl)
              change wpList _ _ _ _ _ wr.drew
              go_wp2_with (first
                | (at_mapUpdate; go_must (refine wpList_mapUpdate_own wr.drew rfl _ _ _ 62 rfl 9 4 lawS Try.underlying62 _ mq (j + 1) _ rfl hown.drew (by unfold maxLen; omega) _ _ _ rfl rfl hkey _ [] (plainElem_bool Try.underlying4 true) ?_); intro w9 hown9 hg9)
                | go_in)
              have HN9 : Hid (HasM w9 mq (j + 2) (fun zs => V.Was l i j zs ∨ zs = nw)) := HasM.put hown.isMap HAT.out nw hown9
              have HM9 : Hid (MapsAt w9 Hb ms (fun k => if k < i + 1 then j + 2 else j + 1) (fun k => V.Was l k (if k < i + 1 then j + 1 else j))) :=
                (hmi.out.drewN 1).wrote i hli (by rw [HMQ.out]; exact hg9) (by
                  simp only [Nat.lt_succ_self, if_true]
                  rw [HMQ.out]; exact HN9.out.mono (Nat.le_refl _) HQI.out)
                  (fun k hk hne => by have e : (k < i + 1) ↔ (k < i) := by omega
                                      simp only [e]; exact Nat.le_refl _)
                  (fun k hk hne zs h => by have e : (k < i + 1) ↔ (k < i) := by omega
                                           simpa only [e] using h)
              have HK9 := Lib.hid ((hki.out.drewN 1).other mq HME.out HLO.out hg9)
              have HI9 := Lib.hid (IsBytes.beside (hii.out.drewN 1) hg9 HNE.out)
              go_roundw
              case rel => exact ⟨i + 1, by omega, by go_num, HK9.out, HM9.out, HI9.out⟩
              case measure => simp [intOf]; omega
            · obtain rfl : i = 8 := by omega
              have HM9 : Hid (MapsAt wr Hb ms (fun _ => j + 1 + 1) (fun k => V.Was l k (j + 1))) := hmi.out.mono (fun k hk => by simp only [hk, if_true]; exact Nat.le_refl _) (fun k hk zs h => by simpa only [hk, if_true] using h)
              have HK9 := Lib.hid hki.out
              clear hmi hki hii
              go_wp2
              go_roundw
              case rel =>
                rw [← HDQ.out] at HK9
                (repeat apply Exists.intro)
                refine ⟨⟨j + 1, by omega, ?_, HK9.out, HM9.out⟩, rfl⟩
                go_num
              case measure => simp [intOf]; omega
        · obtain rfl : j = len := by omega
          have hst := HST.out j
          rw [HTL.out] at hkj hst
          have HC := Lib.hid (hkj.out.crash PA pn pc pz HP.out HP2.out (Nat.le_trans hst (by decide)))
          have HMj := Lib.hid hmj.out
          have HUC : Hid (V.Up 8 ((V.all (V.newDv 8) l).crash pz)) := (V.up_all (V.up_new (n := 8) (by decide) (by decide)) l).crash pz
          have hsc : ((V.all (V.newDv 8) l).crash pz).steps ≤ 1000 := hst
          have hcc := V.crash_crash (V.all (V.newDv 8) l) pz [9, 8, 7]
          generalize (V.all (V.newDv 8) l).crash pz = dc at *
          have HCC := Lib.hid hcc
          have HL4 : Hid (dc.image.length = 512) := by show _ = _; rw [V.image_length HUC.out.good.lines, HUC.out.len]
          clear hst hcc hkj hmj HM0 HK0
          go_wp2_with fail
          refine HC.out.mono ?_
          rintro e w9 ⟨rfl, hk9, hkb⟩
          have HM9 := Lib.hid (HMj.out.keep hkb)
          have HK9 := Lib.hid hk9
          clear hk9 hkb HC HMj
          go_wp2_with fail
          refine (in_image HK9.out.devIn).mono ?_
          rintro e w10 ⟨⟨g4, rfl, hg4, hi4, hbi4⟩, hd10⟩
          rw [HL4.out] at hi4 ⊢
          have hg4l : g4 < w10.heap.size := World.block_lt_of_cell? w10 _ (bytes_cell hi4 0 (by decide))
          have HK10 := Lib.hid (HK9.out.newer (K' := [g4]) hbi4 (fun k hk => .inr (by obtain rfl := List.mem_singleton.1 hk; exact ⟨hg4, hg4l⟩)))
          have HM10 := Lib.hid (HM9.out.below hbi4)
          have HI10 := Lib.hid hi4
          clear hg4 hi4 hbi4 hd10 hg4l HK9 HM9
          go_wp2_with fail
          go_loopw [13, 71] (fun _ x wr => ∃ i : Nat, i ≤ 8 ∧ x = .int .i64 i ∧ Hid (DevK w (.pointer (some ⟨D, 0, none⟩)) dc [g4] wr) ∧ Hid (MapsAt wr Hb ms (fun _ => j + 1) (fun k => V.Was l k j)) ∧ Hid (IsBytes wr (.slice (some ⟨g4, 0, none⟩) 512 512) dc.image)) (fun _ x _ => 8 - (intOf x).toNat)
          case atStart => exact ⟨0, by omega, rfl, HK10.out, HM10.out, HI10.out⟩
          case round =>
            obtain ⟨i, hi, rfl, hki, hmi, hii⟩ := hrel
            by_cases hli : i < 8
            · obtain ⟨t, ht⟩ : ∃ t, t = 64 * i := ⟨_, rfl⟩
              obtain ⟨u, hu⟩ : ∃ u, u = t + 64 := ⟨_, rfl⟩
              have hcv := fun c m => conv_line HUC.out hii.out i hli c ht m 9 Try.underlying9
              have hcb := hmi.out.cell i hli
              have hnow := (HUC.out.good.at i).len
              have hlk := fun m => ((hmi.out.drewN m).has i hli).look (dc.at i).now (HCT.out i hli).1 (by omega)
              have HMAY := Lib.hid (fun (W : World) (h : DevIn w (.pointer (some ⟨D, 0, none⟩)) dc W) => in_may h (i : Int) (by constructor <;> omega) (Nat.le_trans hsc (by decide)))
              rw [(HCT.out i hli).2] at HMAY
              have HMQ : Hid (∀ W, DevIn w (.pointer (some ⟨D, 0, none⟩)) dc W → Calls Try.prog 25 #[.pointer (some ⟨D, 0, none⟩), .int .i64 (i : Int)] W fun e w' => e = .returned (.int .i64 1) ∧ ∃ m, w' = W.drewN m) := fun W h => (HMAY.out W h).mono fun e w' ⟨h1, h2⟩ => ⟨h1, 0, h2.symm⟩
              have HDI := Lib.hid (fun n => (hki.out.drewN n).devIn)
              clear HMAY hnow
              generalize ms.getD i 0 = mq at *
              generalize (dc.at i).now = nw at *
              have ht1 : 64 * (i : Int) = (t : Int) := by omega
              have ht2 : IntKind.i64.wrap (64 * (i : Int)) = (t : Int) := by rw [IntWalk.i64_in _ (by omega)]; exact ht1
              have ht3 : IntKind.i64.wrap (t : Int) = (t : Int) := IntWalk.i64_in _ (by omega)
              have hu1 : (t : Int) + 64 = (u : Int) := by omega
              have hu2 : IntKind.i64.wrap ((t : Int) + 64) = (u : Int) := by rw [IntWalk.i64_in _ (by omega)]; exact hu1
              have hu3 : IntKind.i64.wrap (u : Int) = (u : Int) := IntWalk.i64_in _ (by omega)
              have hut : u - t = 64 := by omega
              have hu5 : u ≤ 512 := by omega
              have hu6 : (u : Int) ≤ 512 := by omega
              have htu : (t : Int) ≤ (u : Int) := by omega
              have htu2 : t ≤ u := by omega
              have hne5 : ¬ 512 = t := by omega
              have hi8 : (i : Int) < 8 := by omega
              clear ht hu
              go_wp2_with fail
              go_quiet ((go_at_call 25; exact Calls.quiet_of (HMQ.out _ (HDI.out _))))
              go_wp2
              go_roundw
              case rel => exact ⟨i + 1, by omega, by go_num, hki.out.drewN _, hmi.out.drewN _, hii.out.drewN _⟩
              case measure => simp [intOf]; omega
            · obtain rfl : i = 8 := by omega
              have hba : Below wr.heap.size wr (wr.alloc (.cells #[.int .u8 9, .int .u8 8, .int .u8 7] 5)) := (Below.refl _ _).alloc (Nat.le_refl _) _
              have HPB : Hid (IsBytes (wr.alloc (.cells #[.int .u8 9, .int .u8 8, .int .u8 7] 5)) (.slice (some ⟨wr.heap.size, 0, none⟩) 3 3) [9, 8, 7]) := picks3 wr
              have HK11 := Lib.hid (hki.out.newer (K' := [g4, wr.heap.size]) hba (fun k hk => by
                rcases List.mem_cons.1 hk with e | e
                · exact .inl (List.mem_singleton.2 e)
                · obtain rfl := List.mem_singleton.1 e
                  exact .inr ⟨Nat.le_refl _, by simp⟩))
              have HC2 := Lib.hid (HK11.out.crash2 wr.heap.size 3 3 [9, 8, 7] HPB.out (by simp) (Nat.le_trans hsc (by decide)))
              have HI11 := Lib.hid (hii.out.below hba)
              clear hba hki hmi hii HK10 HM10 HI10
              go_wp2_with fail
              refine HC2.out.mono ?_
              rintro e w12 ⟨rfl, hk12, hkb⟩
              have HI12 := Lib.hid (HI11.out.keep hkb (by simp))
              have hcvb : (convert 22 9 (.slice (some ⟨g4, 0, none⟩) 512 512)).run Try.prog w12.drew = .ok (.string (strOfNums dc.image)) w12.drew := conv_whole HI12.out 1 9 Try.underlying9
              have him := in_image (hk12.drewN 1).devIn
              rw [HCC.out] at him
              have HIM := Lib.hid him
              clear hk12 hkb him HC2 HK11 HI11
              go_wp2_with fail
              go_region_with ((go_at_call 30; refine HIM.out.mono ?_; rintro e w13 ⟨⟨g5, rfl, hg5, hi5, hbi5⟩, hd13⟩; have hcva := conv_at hi5 9 Try.underlying9; have hcvc := conv_at (IsInts.below (HI12.out.drewN 1) hbi5) 9 Try.underlying9; have HDZ := Lib.hid hd13; clear hg5 hi5 hbi5 hd13))
              all_goals (go_wp2_with fail; go_ret; exact ⟨rfl, HDZ.out.below⟩)
end Go.Proofs.Ytdhjjiholmcagaa
