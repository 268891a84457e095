
/- Layer 7: Held and All. -/
import Derived.Test.YtaceogpdjbikiaaGreatDoorPoE
import Derived.Deep.AppendLies
namespace Go.Proofs.YtaceogpdjbikiaaGreatDoor

open Go.RowKit

theorem count_le (l : List Nat) : ∀ k, P.count l k ≤ 16 * k
  | 0 => Nat.le_refl _
  | k + 1 => by
    have h1 := count_le l k
    have h2 := S.pc_le (S.tkn (l.getD k 0)) 16
    unfold P.count
    omega
section

variable {w : World} {y : Lay} {sh : V.Sh} {ws xs : List Nat} {a : Addr} {da : Nat}

set_option maxRecDepth 100000 in
theorem po_held (h : PoAt w y (.pointer (some a)) sh ws xs) (hg : Good7 ws xs) :
    Calls Tryz.prog 16 #[.pointer (some ⟨y.P, 0, none⟩)] w fun e w' => e = .returned (.int .i64 (P.count xs ws.length : Nat)) ∧ Below w.heap.size w w' := by
  have HM := Lib.hid (po_made h)
  have h5 := h.c5
  obtain ⟨A, cap, hsv, hc1, hc2, _⟩ := h.sl
  rw [hsv] at h5
  have H0 := Lib.hid h
  have HG := Lib.hid hg
  have HSV := Lib.hid hsv
  have hm63 := hg.most
  have HCO : Hid (∀ k, P.count xs k ≤ 16 * k) := fun k => count_le xs k
  clear h hg hsv
  generalize hp : y.P = p at *
  clear hp
  have HNL := Lib.hid (rfl : ws.length = ws.length)
  generalize hnl : ws.length = n at *
  have HLT : Hid (∀ k, k < n → k < ws.length) := fun k h => by rw [hnl]; exact h
  clear HNL hnl
  go_enter Tryz.func16, Tryz.ntmps16
  go_wp2_with fail
  refine HM.out.mono ?_
  rintro e w1 ⟨rfl, rfl⟩
  go_wp2_with fail
  go_loopw [3, 5, 14] (fun mv _ kv wr => ∃ k : Nat, k ≤ n ∧ kv = .int .i64 k ∧ mv = .int .i64 (P.count xs k : Nat) ∧ Below w.heap.size w wr) (fun _ _ kv _ => n - (intOf kv).toNat)
  case atStart => exact ⟨0, Nat.zero_le _, rfl, rfl, Below.refl _ _⟩
  case round =>
    obtain ⟨k, hk, rfl, rfl, hb⟩ := hrel
    have HB := Lib.hid hb
    have h0' := H0.out.below hb
    obtain ⟨A', cap', hsv', _, _, hcell⟩ := h0'.sl
    clear hb
    by_cases hlt : k < n
    · obtain ⟨g, hA, hck⟩ := hcell k (HLT.out k hlt)
      have hAA : A = some ⟨g, 0, none⟩ := by
        have h2 := HSV.out.symm.trans hsv'
        simp only [Value.slice.injEq] at h2
        rw [h2.1, hA]
      subst hAA
      have hs := h0'.stock k (HLT.out k hlt)
      have hs2 := hs.c2
      have HL := Lib.hid (sl_list (xs.getD k 0) wr (HG.out.x64 (HLT.out k hlt)))
      have HCN : Hid ((P.count xs (k + 1) : Nat) = P.count xs k + (S.ls (S.tkn (xs.getD k 0)) 16).length) := by
        show _ = _
        rw [S.ls_length]; rfl
      have hcb := HCO.out k
      have hcb2 := HCO.out (k + 1)
      rw [HCN.out] at hcb2
      have hcn2 : (P.count xs k : Int) ≤ 1008 := by omega
      clear hcell hsv' hA hs h0'
      unfold sptr at hck
      generalize y.S k = sk at *
      generalize xs.getD k 0 = u at *
      generalize S.ls (S.tkn u) 16 = ls at *
      generalize P.count xs k = c0 at *
      have hls : ls.length ≤ 1008 := by omega
      go_wp2_with fail
      refine HL.out.mono ?_
      rintro e w2 ⟨A2, c2, rfl, hi2, hb2⟩
      have HB2 := Lib.hid (HB.out.trans (hb2.mono HB.out.size))
      clear hi2 hb2
      go_wp2
      go_roundw
      case rel => exact ⟨k + 1, by omega, by go_num, by rw [HCN.out]; go_num, HB2.out⟩
      case measure => simp [intOf]; omega
    · obtain rfl : k = n := by omega
      clear hcell hsv' h0'
      go_wp2
      go_ret
      exact ⟨rfl, HB.out⟩
/-- The places of a slab's blocks. -/
def offs (da k c : Nat) (ls : List Int) : List Int := ls.map fun b => ((P.off da k c b.toNat : Nat) : Int)
theorem all_wf {da : Nat} (hd : da ≤ 1000000) (ws : List Nat) (hm : ws.length ≤ 63) : ∀ k, k ≤ ws.length → ∀ z ∈ P.all da ws k, (Lit.int .i64 z).wf = true := by
  intro k hk z hz
  obtain ⟨i, b, hi, hf⟩ := (P.mem_all hk).1 hz
  have h1 := P.within hf
  have : z ≤ 2000000 := by have := h1.2; omega
  simp [Lit.wf, IntKind.min, IntKind.max, IntKind.signed, IntKind.bits]
  omega
set_option maxHeartbeats 1000000 in
set_option maxRecDepth 100000 in
theorem po_all (h : PoAt w y (.pointer (some a)) sh ws xs) (hs : ShOk sh da) (hg : Good7 ws xs) :
    Calls Tryz.prog 19 #[.pointer (some ⟨y.P, 0, none⟩)] w (LsPost w (P.all da ws ws.length)) := by
  obtain ⟨i0, hi, hz0, hz1, hz2⟩ := info_parts info_i64
  have HM := Lib.hid (po_made h)
  have h5 := h.c5
  obtain ⟨A, cap, hsv, hc1, hc2, _⟩ := h.sl
  rw [hsv] at h5
  have H0 := Lib.hid h
  have HG := Lib.hid hg
  have HS := Lib.hid hs
  have HSV := Lib.hid hsv
  have hm63 := hg.most
  have HWF := Lib.hid (all_wf hs.dmost ws hm63 ws.length (Nat.le_refl _))
  have HCO : Hid (∀ k, (P.all da ws k).length ≤ 16 * k) := fun k => by rw [P.all_length]; exact count_le ws k
  have HPL : Hid (∀ wr, Below w.heap.size w wr → ∀ k, k < ws.length → ∀ b, b ≤ 16 → Calls Tryz.prog 37 #[.pointer (some ⟨y.P, 0, none⟩), .pointer (some ⟨y.S k, 0, none⟩), .int .i64 ((b : Nat) : Int)] wr fun e w' => e = .returned (.int .i64 (P.off da k (S.cls (used ws xs k)) b : Nat)) ∧ ∃ m, w' = wr.drewN m) := fun wr hb k hk b hb16 =>
    po_place (h.below hb) hs ((h.below hb).stock k hk) (by omega) (hg.w64 hk) (hg.x64 hk) b hb16
  clear h hg hs hsv
  generalize hp : y.P = p at *
  clear hp
  generalize hnl : ws.length = n at *
  have HLT : Hid (∀ k, k < n → k < ws.length) := fun k h => by rw [hnl]; exact h
  clear hnl
  go_enter Tryz.func19, Tryz.ntmps19
  go_wp2_with fail
  refine HM.out.mono ?_
  rintro e w1 ⟨rfl, rfl⟩
  go_wp2_with fail
  go_loopw [3, 5, 7, 16] (fun lv _ _ kv wr => ∃ k : Nat, k ≤ n ∧ kv = .int .i64 k ∧ wr.ownsRow w.heap.size 3 1 lv (P.all da ws k).length ((P.all da ws k).map (Value.int .i64)) ∧ Below w.heap.size w wr) (fun _ _ _ kv _ => n - (intOf kv).toNat)
  case atStart => exact ⟨0, Nat.zero_le _, rfl, owns_nil, Below.refl _ _⟩
  case round =>
    obtain ⟨k, hk, rfl, hown, hb⟩ := hrel
    have HO := Lib.hid hown
    have HB := Lib.hid hb
    have h0' := H0.out.below hb
    obtain ⟨A', cap', hsv', _, _, hcell⟩ := h0'.sl
    clear hb hown
    by_cases hlt : k < n
    · obtain ⟨g, hA, hck⟩ := hcell k (HLT.out k hlt)
      have hAA : A = some ⟨g, 0, none⟩ := by
        have h2 := HSV.out.symm.trans hsv'
        simp only [Value.slice.injEq] at h2
        rw [h2.1, hA]
      subst hAA
      have hs := h0'.stock k (HLT.out k hlt)
      have hs1 := hs.c1
      have HL := Lib.hid (sl_list_new (ws.getD k 0) wr (HG.out.w64 (HLT.out k hlt)))
      obtain ⟨c, hc⟩ : ∃ c, S.cls (used ws xs k) = c := ⟨_, rfl⟩
      have HCL : Hid (S.ls (S.tkn (ws.getD k 0)) 16 ≠ [] → S.cls (ws.getD k 0) = c) := by
        intro hne
        rw [← hc]
        refine ((HG.out.pair k (HLT.out k hlt)).cls_w ?_).symm
        intro e
        rw [e] at hne
        exact hne rfl
      have HAN : Hid (P.all da ws (k + 1) = P.all da ws k ++ offs da k c (S.ls (S.tkn (ws.getD k 0)) 16)) := by
        show _ = _
        by_cases e : S.ls (S.tkn (ws.getD k 0)) 16 = []
        · show _ ++ List.map _ _ = _; rw [e]; rfl
        · rw [← HCL.out e]; rfl
      have HPK : Hid (∀ wr, Below w.heap.size w wr → ∀ b, b ≤ 16 → Calls Tryz.prog 37 #[.pointer (some ⟨p, 0, none⟩), .pointer (some ⟨y.S k, 0, none⟩), .int .i64 ((b : Nat) : Int)] wr fun e w' => e = .returned (.int .i64 (P.off da k c b : Nat)) ∧ ∃ m, w' = wr.drewN m) := fun wr hb b hb16 => by
        have h2 := HPL.out wr hb k hlt b hb16
        rwa [hc] at h2
      have HRG : Hid (∀ z ∈ S.ls (S.tkn (ws.getD k 0)) 16, 0 ≤ z ∧ z < ((16 : Nat) : Int)) := fun z hz => S.ls_range _ 16 z hz
      have HLL : Hid ((S.ls (S.tkn (ws.getD k 0)) 16).length ≤ 16) := by show _ ≤ _; rw [S.ls_length]; exact S.pc_le _ 16
      have HCK := Lib.hid (HCO.out k)
      clear hcell hsv' hA hs h0' hc HCL
      unfold sptr at hck
      generalize y.S k = sk at *
      generalize S.ls (S.tkn (ws.getD k 0)) 16 = ls at *
      generalize ws.getD k 0 = u at *
      generalize P.all da ws k = acc at *
      have hlsl := HLL.out
      have haccl := HCK.out
      go_wp2_with fail
      refine HL.out.mono ?_
      rintro e w2 ⟨A2, c2, rfl, hi2, hb2, hnw2⟩
      have HB2 := Lib.hid (HB.out.trans (hb2.mono HB.out.size))
      have HO2 := Lib.hid (owns_below HO.out hb2)
      have HI2 := Lib.hid hi2
      have HAP : Hid (∀ gg : Nat, u3.ownBlock = some gg → (Value.slice A2 ls.length c2).ownBlock ≠ some gg) := fun gg hgg e => by
        have h1 := hnw2 gg e
        have h2 := (HO.out.lt gg hgg).2
        omega
      clear hi2 hb2 hnw2
      go_wp2_with fail
      go_loopw [3, 7, 26] (fun lv _ jv wr => ∃ j : Nat, j ≤ ls.length ∧ jv = .int .i64 j ∧ wr.ownsRow w.heap.size 3 1 lv (acc ++ offs da k c (ls.take j)).length ((acc ++ offs da k c (ls.take j)).map (Value.int .i64)) ∧ Below w.heap.size w wr ∧ IsInts .i64 wr (.slice A2 ls.length c2) ls ∧ (∀ gg : Nat, lv.ownBlock = some gg → (Value.slice A2 ls.length c2).ownBlock ≠ some gg)) (fun _ _ jv _ => ls.length - (intOf jv).toNat)
      case atStart => exact ⟨0, Nat.zero_le _, rfl, by rw [List.take_zero, show offs da k c [] = [] from rfl, List.append_nil]; exact HO2.out, HB2.out, HI2.out, HAP.out⟩
      case round =>
        obtain ⟨j, hj, rfl, hown3, hb3, hint3, hap3⟩ := hrel
        have HO3 := Lib.hid hown3
        have HB3 := Lib.hid hb3
        have HI3 := Lib.hid hint3
        have HAP3 := Lib.hid hap3
        clear hown3 hb3 hint3 hap3
        by_cases hlt3 : j < ls.length
        · obtain ⟨b2, o2, rfl, -, hc21, hc22, hz⟩ := HI3.out.at6 hlt3
          have HTS : Hid (ls.take (j + 1) = ls.take j ++ [ls.getD j 0]) := by
            show _ = _
            rw [List.take_succ_eq_append_getElem hlt3, List.getD_eq_getElem?_getD, List.getElem?_eq_getElem hlt3]; rfl
          have hzr := HRG.out (ls.getD j 0) (by rw [List.getD_eq_getElem?_getD, List.getElem?_eq_getElem hlt3]; exact List.getElem_mem _)
          obtain ⟨z, hzz⟩ := Int.eq_ofNat_of_zero_le hzr.1
          rw [hzz] at hz HTS
          have hz16 : z ≤ 16 := by omega
          have HP3 := Lib.hid (HPK.out wr HB3.out z hz16)
          clear hzr hzz
          have HLE : Hid ((acc ++ offs da k c (ls.take j)).length ≤ 2000) := by
            show _ ≤ _
            rw [List.length_append, offs, List.length_map, List.length_take]; omega
          have HNX : Hid ((acc ++ offs da k c (ls.take j)).map (Value.int .i64) ++ [.int .i64 (P.off da k c z : Nat)] = (acc ++ offs da k c (ls.take (j + 1))).map (Value.int .i64) ∧ (acc ++ offs da k c (ls.take j)).length + 1 = (acc ++ offs da k c (ls.take (j + 1))).length) := by
            rw [HTS.out]
            constructor
            · simp [offs]
            · simp [offs]; omega
          obtain ⟨a3, cp3, rfl, hcp1, hcp2⟩ := owns_form HO3.out
          have hle := HLE.out
          have hm1 : (acc ++ offs da k c (ls.take j)).length + 1 ≤ maxLen := by unfold maxLen; omega
          have hm2 : ((acc ++ offs da k c (ls.take j)).length + 1) * 8 ≤ 140737488355328 := by omega
          generalize hcur : acc ++ offs da k c (ls.take j) = cur at *
          generalize P.off da k c z = oz at *
          have HO5 : Hid (∀ m o, ((wr.drewN m).alloc o).ownsRow w.heap.size 3 1 (.slice a3 cur.length cp3) cur.length (cur.map (Value.int .i64))) := fun m o => owns_below HO3.out ((below_drewN' (Below.refl _ _) m).alloc (Nat.le_refl _) o)
          have HB5 : Hid (∀ m o, Below w.heap.size w ((wr.drewN m).alloc o)) := fun m o => (below_drewN' HB3.out m).alloc HB3.out.size o
          have HI5 : Hid (∀ (m : Nat) o w5, ((wr.drewN m).alloc o).grownBy w5 (Value.slice a3 cur.length cp3).ownBlock → IsInts .i64 w5 (.slice (some ⟨b2, o2, none⟩) ls.length c2) ls ∧ b2 < ((wr.drewN m).alloc o).heap.size) := by
            intro m o w5 hg
            have hbl : b2 < wr.heap.size := World.block_lt_of_cell? wr _ hz
            have hbl2 : b2 < ((wr.drewN m).alloc o).heap.size := Nat.lt_trans hbl (by simp)
            have hne : some b2 ≠ (Value.slice a3 cur.length cp3).ownBlock := fun e => HAP3.out b2 e.symm rfl
            have hi1 : IsInts .i64 ((wr.drewN m).alloc o) (.slice (some ⟨b2, o2, none⟩) ls.length c2) ls := HI3.out.below ((below_drewN' (Below.refl _ _) m).alloc (Nat.le_refl _) o)
            exact ⟨hi1.keep (S := [b2]) (fun k hk => by rw [List.mem_singleton.1 hk]; exact hg.block b2 hbl2 hne) (List.mem_singleton_self _), hbl2⟩
          have HLT3 : Hid (j < ls.length) := hlt3
          go_wp2_with fail
          refine HP3.out.mono ?_
          rintro e w4 ⟨rfl, m4, rfl⟩
          go_wp2_with (at_builtin; refine wpList_append_lies _ rfl (.tmp 30) (.tmp 35) 37 rfl w.heap.size 3 i0 _ 1 8 Tryz.underlying37 hi hz0 hz1 hz2 rfl (by decide) _ cur.length _ rfl (HO5.out _ _) _ 1 1 [.int .i64 (oz : Int)] rfl rfl (World.news_of_block (heap_alloc_new _ _)) (by simp [Value.oneCell']) (by decide) hm1 hm2 (HB5.out _ _).size _ rfl ?_)
          intro g5 cap5 w5 o5 gr5 at5 lt5
          have HO6 : Hid (w5.ownsRow w.heap.size 3 1 (.slice (some ⟨g5, 0, none⟩) (cur.length + 1) cap5) (acc ++ offs da k c (ls.take (j + 1))).length ((acc ++ offs da k c (ls.take (j + 1))).map (Value.int .i64))) := by
            show World.ownsRow _ _ _ _ _ _ _
            rw [← HNX.out.1, ← HNX.out.2]; exact o5
          have HB6 : Hid (Below w.heap.size w w5) := (HB5.out _ _).grown gr5 (HB5.out _ _).size (fun k hk => owns_block HO3.out k hk)
          have HI6 := Lib.hid (HI5.out _ _ _ gr5)
          have HAP6 : Hid (∀ gg : Nat, (Value.slice (some ⟨g5, 0, none⟩) (cur.length + 1) cap5).ownBlock = some gg → (Value.slice (some ⟨b2, o2, none⟩) ls.length c2).ownBlock ≠ some gg) := by
            intro gg h1 h2
            have e1 : g5 = gg := by simpa [Value.ownBlock] using h1
            have e2 : b2 = gg := by simpa [Value.ownBlock] using h2
            rcases at5 with h3 | h3
            · exact HAP3.out b2 (by rw [h3, e1, e2]) rfl
            · have h4 := HI6.out.2
              have h9 : ∀ o : Obj, ((wr.drewN m4).alloc o).heap.size = wr.heap.size + 1 := fun o => by simp
              rw [h9] at h4
              try rw [h9] at h3
              omega
          clear o5 gr5 at5 lt5
          go_wp2
          go_roundw
          case rel => exact ⟨j + 1, HLT3.out, by go_num, HO6.out, HB6.out, HI6.out.1, HAP6.out⟩
          case measure => simp [intOf]; have := HLT3.out; omega
        · obtain rfl : j = ls.length := by omega
          have HO4 : Hid (wr.ownsRow w.heap.size 3 1 u3 (P.all da ws (k + 1)).length ((P.all da ws (k + 1)).map (Value.int .i64))) := by
            have h := HO3.out
            rw [List.take_length, ← HAN.out] at h
            exact h
          go_wp2
          go_roundw
          case rel => exact ⟨k + 1, by omega, by go_num, HO4.out, HB3.out⟩
          case measure => simp [intOf]; omega
    · obtain rfl : k = n := by omega
      have HI := Lib.hid (IsInts.of_own HO.out HWF.out)
      obtain ⟨a0, c0, rfl, _, _⟩ := owns_form HO.out
      clear hcell hsv' h0'
      go_wp2
      go_ret
      exact ⟨_, _, rfl, HI.out, HB.out⟩
end

end Go.Proofs.YtaceogpdjbikiaaGreatDoor
