/- RpA: Layer 7, the reference: words in memory; put, place, Count. What was there stays.
RpB: Layer 7, the reference: Find.
RpC: Layer 7, the reference: Reserve.
RpD: Layer 7, the reference: Take and Drop.
RpE: Layer 7, the reference: Drop.
RpF: Layer 7, the reference: New.
RpG: Layer 7, the reference: All.
RpH: PoolActs: a pool beside the document's.
RpI: PoolActs: the calls of the pool and of the document's, at the state. -/
import Derived.Test.YtaceogpdjbikiaaGreatDoorSm
import Derived.Test.YtaceogpdjbikiaaGreatDoorPoAgL
import Derived.Deep.DeepCutAuto
import Derived.Deep.CutBlock
import Derived.Deep.RegionHeldLaw
import Derived.StillTailTactics
import Derived.Deep.OwnRows
import Derived.Deep.RegionLaw
import Derived.Deep.AppendLies
import Derived.Test.YtaceogpdjbikiaaGreatDoorPoApM
import Derived.Test.YtaceogpdjbikiaaGreatDoorPoAcT
import Derived.Test.YtaceogpdjbikiaaGreatDoorPoDuT
namespace Go.Proofs.YtaceogpdjbikiaaGreatDoor

open Go.RowKit

/-- From block g on lie the words l. -/
def WAt (w : World) (g : Nat) (l : List Nat) : Prop := g < w.heap.size ∧ ∀ i, i < l.length → w.cell? ⟨g, i, none⟩ = some (.int .u64 (l.getD i 0 : Nat))
theorem WAt.keep {w w' : World} {g : Nat} {l : List Nat} (h : WAt w g l) (hs : w.heap.size ≤ w'.heap.size) (hb : w'.heap[g]? = w.heap[g]?) : WAt w' g l :=
  ⟨Nat.lt_of_lt_of_le h.1 hs, fun i hi => (World.cell?_of_block (w := w) (a := ⟨g, i, none⟩) hb).trans (h.2 i hi)⟩
theorem WAt.below {w w' : World} {g : Nat} {l : List Nat} (h : WAt w g l) (hb : Below w.heap.size w w') : WAt w' g l := h.keep hb.size (hb.block g h.1)
theorem WAt.drewN {w : World} {g : Nat} {l : List Nat} (h : WAt w g l) (m : Nat) : WAt (w.drewN m) g l := h
theorem wf64 {n : Nat} (h : n < 2 ^ 64) : (Lit.int .u64 (n : Int)).wf = true := by
  simp [Lit.wf, IntKind.min, IntKind.max, IntKind.signed, IntKind.bits]; omega
theorem WAt.ints {w : World} {g c : Nat} {l : List Nat} (h : WAt w g l) (h1 : l.length ≤ c) (h2 : c ≤ maxLen) (h64 : ∀ n ∈ l, n < 2 ^ 64) : IsInts .u64 w (.slice (some ⟨g, 0, none⟩) l.length c) (l.map fun n : Nat => (n : Int)) := by
  refine ⟨some ⟨g, 0, none⟩, c, by rw [List.length_map], by rw [List.length_map]; exact h1, h2, .inr ⟨g, 0, rfl, fun i hi => ?_⟩, fun z hz => ?_⟩
  · rw [List.length_map] at hi
    rw [Nat.zero_add, h.2 i hi, List.getD_eq_getElem?_getD, List.getD_eq_getElem?_getD, List.getElem?_map, List.getElem?_eq_getElem hi]; rfl
  · obtain ⟨n, hn, rfl⟩ := List.mem_map.1 hz
    exact wf64 (h64 n hn)
theorem WAt.of_own {w : World} {B g n c : Nat} {l : List Nat} (h : w.ownsRow B 53 1 (.slice (some ⟨g, 0, none⟩) n c) n ((l.map fun n : Nat => (n : Int)).map (Value.int .u64))) : WAt w g l ∧ B ≤ g ∧ n ≤ c ∧ c ≤ maxLen := by
  have hlt := (h.lt g rfl)
  have hl : l.length = n := by have := h.1; simpa using this
  obtain ⟨_, _, e, h1, h2⟩ := owns_form h
  simp only [Value.slice.injEq] at e
  obtain ⟨_, _, rfl⟩ := e
  refine ⟨⟨hlt.2, fun i hi => ?_⟩, hlt.1, h1, h2⟩
  rw [h.cellAt i (by omega), List.getElem?_map, List.getElem?_map, List.getD_eq_getElem?_getD, List.getElem?_eq_getElem hi]; rfl
set_option maxRecDepth 100000 in
/-- A list with another word. -/
theorem rp_put (w : World) (g c n : Nat) (l : List Nat) (i v : Nat) (h : WAt w g l) (hn : l.length = n) (h63 : n ≤ 63) (h1 : n ≤ c) (h2 : c ≤ maxLen) (h64 : ∀ x ∈ l, x < 2 ^ 64) (hi : i < n) (hv : v < 2 ^ 64) :
    Calls Tryz.prog 41 #[.slice (some ⟨g, 0, none⟩) n c, .int .i64 (i : Int), .int .u64 (v : Int)] w fun e w' => ∃ g' c', e = .returned (.slice (some ⟨g', 0, none⟩) n c') ∧ WAt w' g' (l.set i v) ∧ w.heap.size ≤ g' ∧ n ≤ c' ∧ c' ≤ maxLen ∧ Below w.heap.size w w' := by
  obtain ⟨i0, hi0, hz0, hz1, hz2⟩ := info_parts info_u64
  have hints := h.ints (by rw [hn]; exact h1) h2 h64
  rw [hn] at hints
  obtain ⟨zs, hzs⟩ : ∃ zs : List Int, zs = l.map fun n : Nat => (n : Int) := ⟨_, rfl⟩
  have HZS := Lib.hid hzs
  rw [← hzs] at hints
  have HI : Hid (∀ o, IsInts .u64 (w.alloc o) (.slice (some ⟨g, 0, none⟩) n c) zs) := fun o => hints.below ((Below.refl _ _).alloc (Nat.le_refl _) o)
  have hzl : zs.length = n := by rw [hzs, List.length_map, hn]
  have HZL := Lib.hid hzl
  have HN := Lib.hid hn
  have HOW : Hid ((w.alloc (.cells #[] 53)).ownsRow w.heap.size 53 1 (.slice (some ⟨w.heap.size, 0, none⟩) 0 0) 0 (([] : List Int).map (Value.int .u64))) := World.ownsRow_made w #[] 0 (Nat.le_refl _) (by decide) rfl
  have HB0 : Hid (Below w.heap.size w (w.alloc (.cells #[] 53))) := (Below.refl w.heap.size w).alloc (Nat.le_refl _) _
  have HV : Hid (v < 2 ^ 64) := hv
  clear hints h h64 hzs hzl hn hv
  go_enter Tryz.func41, Tryz.ntmps41
  go_wp2_with (at_builtin; refine wpList_append_ints rfl (.tmp 8) (.tmp 9) 33 rfl .u64 w.heap.size 53 i0 _ 8 Tryz.underlying33 hi0 hz0 hz1 hz2 rfl _ 0 [] rfl HOW.out _ n c zs rfl (HI.out _) (by unfold maxLen; omega) (by omega) (by simp) ?_)
  intro v' w1 hown' hgrow
  have hb1 : Below w.heap.size w w1 := HB0.out.grown hgrow (by simp) (fun k hk => by simp [Value.ownBlock] at hk; omega)
  obtain ⟨g', cap', rfl, hbg, _, hc1, hc2⟩ := own_parts hown' (fun e => by
    have hl := hown'.1
    rw [e] at hown'
    rcases hown'.2 with ⟨_, h0⟩ | ⟨_, _, _, h0, _⟩
    · omega
    · cases h0)
  have hcell : w1.cell? ⟨g', i, none⟩ = some (.int .u64 (zs.getD i 0)) := by
    rw [hown'.cellAt i (by omega), List.getElem?_map, List.getD_eq_getElem?_getD, List.getElem?_eq_getElem (by rw [HZL.out]; exact hi)]; rfl
  have hfz := hown'.frozenAt i
  have HS := Lib.hid (hown'.stored i (.int .u64 (v : Int))).1
  have HB2 := Lib.hid (hb1.setCell (p := ⟨g', i, none⟩) hbg (.int .u64 (v : Int)))
  clear hown' hgrow hb1
  go_wp2
  go_ret
  have he : (((l.set i v).map fun n : Nat => (n : Int)).map (Value.int .u64)) = (zs.map (Value.int .u64)).set i (.int .u64 (v : Int)) := by
    rw [HZS.out, List.map_set, List.map_set]
  have hs := HS.out
  rw [← he] at hs
  obtain ⟨q1, q2, q3, q4⟩ := WAt.of_own hs
  exact ⟨g', cap', rfl, q1, q2, q3, q4, HB2.out⟩
set_option maxRecDepth 100000 in
/-- The place of a block. -/
theorem rp_place (w : World) (A B C : Int) (da : Nat) (wv hv : Value) (s c b : Nat) (hd : da ≤ 1000000) (hs : s ≤ 63) (hb : b ≤ 16) :
    Calls Tryz.prog 42 #[.agg #[.int .i64 A, .int .i64 B, .int .i64 C, .int .i64 (da : Int), wv, hv], .int .i64 (s : Int), .int .i64 (c : Int), .int .i64 (b : Int)] w fun e w' => e = .returned (.int .i64 (P.off da s c b : Nat)) ∧ Below w.heap.size w w' := by
  have HL : Hid (∀ W : World, Calls Tryz.prog 80 #[.int .i64 (c : Int)] W fun e w' => e = .returned (.int .i64 (S.lns (c : Int) : Nat)) ∧ ∃ m, w' = W.drewN m) := fun W => rs_lines _ W
  have hl : S.lns (c : Int) ≤ 4 := lns_le _
  have hmul : 64 * b * S.lns (c : Int) ≤ 64 * 16 * 4 := Nat.mul_le_mul (Nat.mul_le_mul (Nat.le_refl _) hb) hl
  obtain ⟨z, hz⟩ : ∃ z, S.lns (c : Int) = z := ⟨_, rfl⟩
  obtain ⟨bz, hbz⟩ : ∃ bz, 64 * b * z = bz := ⟨_, rfl⟩
  rw [hz] at HL hmul hl
  rw [hbz] at hmul
  have e1 : 64 * (b : Int) * (z : Int) = (bz : Int) := by rw [← hbz]; simp
  have HE : Hid (((P.off da s c b : Nat) : Int) = (da : Int) + 1024 * (s : Int) + (bz : Int)) := by
    show _ = _
    unfold P.off
    rw [hz, hbz]; omega
  rw [HE.out]
  clear hz hbz HE
  have HB : Hid (∀ o m, Below w.heap.size w ((w.alloc o).drewN m)) := fun o m => below_drewN' ((Below.refl _ _).alloc (Nat.le_refl _) o) m
  go_enter Tryz.func42, Tryz.ntmps42
  go_wp2_with fail
  go_quiet ((go_at_call 80; exact Calls.quiet_of (HL.out _)))
  go_wp2
  go_ret
  exact ⟨rfl, HB.out _ _⟩
set_option maxRecDepth 100000 in
/-- How many blocks words have. -/
theorem rp_count (w : World) (g c n : Nat) (l : List Nat) (h : WAt w g l) (hn : l.length = n) (h63 : n ≤ 63) (h1 : n ≤ c) (_h2 : c ≤ maxLen) :
    Calls Tryz.prog 17 #[.slice (some ⟨g, 0, none⟩) n c] w fun e w' => e = .returned (.int .i64 (P.count l n : Nat)) ∧ Below w.heap.size w w' := by
  have HW := Lib.hid h
  have HLS : Hid (∀ (u : Nat) (W : World), Calls Tryz.prog 52 #[.int .u64 (u : Int)] W (LsPost W (S.ls (S.tkn u) 16))) := fun u W => rs_list u W
  have HN := Lib.hid hn
  clear h hn
  go_enter Tryz.func17, Tryz.ntmps17
  go_wp2_with fail
  go_loopw [3, 4] (fun x k wr => ∃ j : Nat, j ≤ n ∧ k = .int .i64 j ∧ x = .int .i64 (P.count l j : Nat) ∧ Below w.heap.size w wr) (fun _ k _ => n - (intOf k).toNat)
  case atStart => exact ⟨0, by omega, rfl, rfl, Below.refl _ _⟩
  case round =>
    obtain ⟨j, hj, rfl, rfl, hb⟩ := hrel
    have HB := Lib.hid hb
    have hle := count_le l j
    by_cases hlt : j < n
    · have hc := (HW.out.below hb).2 j (by rw [HN.out]; exact hlt)
      have HCN : Hid (P.count l (j + 1) = P.count l j + (S.ls (S.tkn (l.getD j 0)) 16).length) := by show _ = _; rw [S.ls_length]; rfl
      have HL := Lib.hid (HLS.out (l.getD j 0) wr)
      have hl16 : (S.ls (S.tkn (l.getD j 0)) 16).length ≤ 16 := by rw [S.ls_length]; exact S.pc_le _ 16
      clear hb
      generalize S.ls (S.tkn (l.getD j 0)) 16 = ls at *
      generalize l.getD j 0 = u at *
      generalize P.count l j = cn at *
      go_wp2_with fail
      refine HL.out.mono ?_
      rintro e w2 ⟨a2, c2, rfl, hi2, hb2⟩
      have HB2 := Lib.hid (HB.out.trans (hb2.mono HB.out.size))
      clear hi2 hb2
      go_wp2
      go_roundw
      case rel => exact ⟨j + 1, by omega, by go_num, by rw [HCN.out]; go_num, HB2.out⟩
      case measure => simp [intOf]; omega
    · obtain rfl : j = n := by omega
      clear hb
      go_wp2
      go_ret
      exact ⟨rfl, HB.out⟩
end Go.Proofs.YtaceogpdjbikiaaGreatDoor
namespace Go.Proofs.YtaceogpdjbikiaaGreatDoor

open Go.RowKit

noncomputable def fndR (da : Nat) (l : List Nat) (x : Int) : Int × Int := match P.find da l x with | some (i, b) => ((i : Int), (b : Int)) | none => (-1, -1)
theorem fndR_some {da : Nat} {l : List Nat} {x : Int} {i b : Nat} (h : P.FindIs da l x i b) : fndR da l x = ((i : Int), (b : Int)) := by unfold fndR; rw [P.find_some h]
theorem fndR_none {da : Nat} {l : List Nat} {x : Int} (h : ∀ i b, ¬ P.FindIs da l x i b) : fndR da l x = (-1, -1) := by unfold fndR; rw [P.find_none h]
/-- A boxed pool of the reference, in block b. -/
def RpBox (A B C D : Int) (wv hv : Value) (b : Nat) (w : World) : Prop := w.heap[b]? = some (.cells #[.int .i64 A, .int .i64 B, .int .i64 C, .int .i64 D, wv, hv] 35 (0, 0))
section

variable {A B C D : Int} {wv hv : Value} {b : Nat} {w w' : World}

theorem RpBox.cells (h : RpBox A B C D wv hv b w) : w.cell? ⟨b, 0, none⟩ = some (.int .i64 A) ∧ w.cell? ⟨b, 1, none⟩ = some (.int .i64 B) ∧ w.cell? ⟨b, 2, none⟩ = some (.int .i64 C) ∧ w.cell? ⟨b, 3, none⟩ = some (.int .i64 D) ∧ w.cell? ⟨b, 4, none⟩ = some wv ∧ w.cell? ⟨b, 5, none⟩ = some hv :=
  ⟨cell_of_row w b 0 _ _ _ h, cell_of_row w b 1 _ _ _ h, cell_of_row w b 2 _ _ _ h, cell_of_row w b 3 _ _ _ h, cell_of_row w b 4 _ _ _ h, cell_of_row w b 5 _ _ _ h⟩
theorem RpBox.lt (h : RpBox A B C D wv hv b w) : b < w.heap.size := (Array.getElem?_eq_some_iff.1 h).1
theorem RpBox.keep (h : RpBox A B C D wv hv b w) (hb : w'.heap[b]? = w.heap[b]?) : RpBox A B C D wv hv b w' := hb.trans h
theorem RpBox.below (h : RpBox A B C D wv hv b w) (hb : Below w.heap.size w w') : RpBox A B C D wv hv b w' := h.keep (hb.block b h.lt)
theorem RpBox.fr (h : RpBox A B C D wv hv b w) (j : Nat) : w.frozen? ⟨b, j, none⟩ = false := frozen_of_row w b j _ _ h
end

set_option maxHeartbeats 1000000 in
set_option maxRecDepth 100000 in
theorem rp_find (w : World) (A B C : Int) (da : Nat) (wv hv : Value) (g c n : Nat) (l : List Nat) (x : Int) (h : WAt w g l) (hn : l.length = n) (h63 : n ≤ 63) (h1 : n ≤ c) (_h2 : c ≤ maxLen) (hd : da ≤ 1000000) :
    Calls Tryz.prog 46 #[.agg #[.int .i64 A, .int .i64 B, .int .i64 C, .int .i64 (da : Int), wv, hv], .slice (some ⟨g, 0, none⟩) n c, .int .i64 x] w fun e w' => e = .returned (.tuple #[.int .i64 (fndR da l x).1, .int .i64 (fndR da l x).2]) ∧ Below w.heap.size w w' := by
  have HW := Lib.hid h
  have HN := Lib.hid hn
  have HOF : Hid (∀ (u : Nat) (W : World), Calls Tryz.prog 26 #[.int .u64 (u : Int)] W fun e w' => e = .returned (.tuple #[.agg (slabA (S.cls u) (S.tkn u)), .bool (S.rgt u)]) ∧ Below W.heap.size W w') := fun u W => rs_of u W
  have HPL : Hid (∀ (W : World) (s k j : Nat), s ≤ 63 → j ≤ 16 → Calls Tryz.prog 42 #[.agg #[.int .i64 A, .int .i64 B, .int .i64 C, .int .i64 (da : Int), wv, hv], .int .i64 (s : Int), .int .i64 (k : Int), .int .i64 (j : Int)] W fun e w' => e = .returned (.int .i64 (P.off da s k j : Nat)) ∧ Below W.heap.size W w') := fun W s k j hs hj => rp_place W A B C da wv hv s k j hd hs hj
  have HBX0 : Hid (RpBox A B C (da : Int) wv hv w.heap.size (w.alloc (.cells #[.int .i64 A, .int .i64 B, .int .i64 C, .int .i64 (da : Int), wv, hv] 35 (0, 0)))) := heap_alloc_new w _
  have HB0 : Hid (Below w.heap.size w (w.alloc (.cells #[.int .i64 A, .int .i64 B, .int .i64 C, .int .i64 (da : Int), wv, hv] 35 (0, 0)))) := (Below.refl _ _).alloc (Nat.le_refl _) _
  clear h hn
  go_enter Tryz.func46, Tryz.ntmps46
  go_wp2_with fail
  generalize hW0 : w.alloc (.cells #[.int .i64 A, .int .i64 B, .int .i64 C, .int .i64 (da : Int), wv, hv] 35 (0, 0)) = W0 at *
  clear hW0
  go_loopw [6, 7, 8] (fun _ _ kv wr => ∃ i : Nat, i ≤ n ∧ kv = .int .i64 i ∧ Hid (Below W0.heap.size W0 wr) ∧ Hid (∀ i' b, i' < i → ¬ P.FindIs da l x i' b)) (fun _ _ kv _ => n - (intOf kv).toNat)
  case atStart => exact ⟨0, by omega, rfl, Below.refl _ _, fun i' b hi => by omega⟩
  case round =>
    obtain ⟨i, hi, rfl, hbw, hno⟩ := hrel
    have HBR : Hid (Below w.heap.size w wr) := HB0.out.trans (hbw.out.mono HB0.out.size)
    by_cases hlt : i < n
    · have hc := (HW.out.below HBR.out).2 i (by rw [HN.out]; exact hlt)
      have HO := Lib.hid (HOF.out (l.getD i 0) wr)
      obtain ⟨t, ht⟩ : ∃ t, S.tkn (l.getD i 0) = t := ⟨_, rfl⟩
      obtain ⟨k, hk⟩ : ∃ k, S.cls (l.getD i 0) = k := ⟨_, rfl⟩
      have HFI : Hid (∀ b, P.FindIs da l x i b ↔ t.testBit b = true ∧ x = (P.off da i k b : Nat)) := by
        intro b
        unfold P.FindIs
        rw [ht, hk, HN.out]
        exact ⟨fun h => h.2, fun h => ⟨hlt, h⟩⟩
      rw [ht, hk] at HO
      clear ht hk
      generalize S.rgt (l.getD i 0) = rr at *
      generalize l.getD i 0 = u at *
      have HLT : Hid (i < n) := hlt
      go_wp2_with fail
      refine HO.out.mono ?_
      rintro e w5 ⟨rfl, hb5⟩
      go_upto_region 5 with (refine wpList_store_row rfl 65 (.tmp 9) (.tmp 24) rfl _ (slabA k t) rfl rfl 65 _ (heap_alloc_new w5 _) (by rw [slabA_size]; exact info_slab) (by rw [slabA_zero, slabA_size, slabA_size]) (slabA_one k t) ?_)
      rw [World.setRow_alloc_new]
      obtain ⟨s1, s2, _⟩ := slab_new hb5 k t
      generalize w5.alloc (.cells (slabA k t) 65 (0, 0)) = W6 at *
      generalize w5.heap.size = sg at *
      have S1 := Lib.hid s1
      have S2 : Hid (Below W0.heap.size W0 W6) := hbw.out.trans ((show Below wr.heap.size wr W6 from by exact s2 0).mono hbw.out.size)
      clear s1 s2 hb5 hbw
      go_wp2_with fail
      go_loopw [6, 7, 11] (fun _ _ bv wq => ∃ j : Nat, j ≤ 16 ∧ bv = .int .i64 j ∧ Hid (Below W6.heap.size W6 wq) ∧ Hid (∀ b, b < j → ¬ P.FindIs da l x i b)) (fun _ _ bv _ => 16 - (intOf bv).toNat)
      case atStart => exact ⟨0, by omega, rfl, Below.refl _ _, fun b hb => by omega⟩
      case round =>
        obtain ⟨j, hj, rfl, hbq, hnb⟩ := hrel
        by_cases hltj : j < 16
        · have hcell := (S1.out.below hbq.out).bit hltj
          have hcls := (S1.out.below hbq.out).cls
          have HBW : Hid (Below W0.heap.size W0 wr) := S2.out.trans (hbq.out.mono S2.out.size)
          obtain ⟨q0, q1, q2, q3, q4, q5⟩ := (HBX0.out.below HBW.out).cells
          cases hbit : t.testBit j with
          | false =>
            have HNO : Hid (∀ b, b < j + 1 → ¬ P.FindIs da l x i b) := by
              intro b hb hf
              by_cases e : b = j
              · subst e
                have := ((HFI.out b).1 hf).1
                rw [hbit] at this; cases this
              · exact hnb.out b (by omega) hf
            rw [hbit] at hcell
            clear hbit hnb q0 q1 q2 q3 q4 q5
            go_wp2
            go_roundw
            case rel => exact ⟨j + 1, by omega, by go_num, hbq, HNO⟩
            case measure => simp [intOf]; omega
          | true =>
            have HP := Lib.hid (HPL.out wr i k j (by omega) (by omega))
            have HBIT := Lib.hid hbit
            rw [hbit] at hcell
            clear hbit
            obtain ⟨of, hof⟩ : ∃ of : Nat, P.off da i k j = of := ⟨_, rfl⟩
            rw [hof] at HP
            have HOFF := Lib.hid hof
            clear hof
            go_wp2_with fail
            refine HP.out.mono ?_
            rintro e w8 ⟨rfl, hb8⟩
            have HB8 : Hid (Below W6.heap.size W6 w8) := hbq.out.trans (hb8.mono hbq.out.size)
            have HBE : Hid (Below w.heap.size w w8) := HB0.out.trans ((HBW.out.trans (hb8.mono HBW.out.size)).mono HB0.out.size)
            clear hb8 q0 q1 q2 q3 q4 q5 hcell hcls
            by_cases hx : (of : Int) = x
            · have HR : Hid (fndR da l x = ((i : Int), (j : Int))) := fndR_some ((HFI.out j).2 ⟨HBIT.out, by rw [HOFF.out]; exact hx.symm⟩)
              have hxb : ((of : Int) == x) = true := by simp [hx]
              have HRR : Hid (∀ e : Ending, e = .returned (.tuple #[.int .i64 (i : Int), .int .i64 (j : Int)]) → e = .returned (.tuple #[.int .i64 (fndR da l x).1, .int .i64 (fndR da l x).2])) := fun e he => by rw [HR.out]; exact he
              clear hnb
              go_wp2
              go_ret2
              exact ⟨HRR.out _ rfl, HBE.out⟩
            · have hxb : ((of : Int) == x) = false := by simp [hx]
              have HNO : Hid (∀ b, b < j + 1 → ¬ P.FindIs da l x i b) := by
                intro b hb hf
                by_cases e : b = j
                · subst e
                  exact hx (by rw [← HOFF.out]; exact ((HFI.out b).1 hf).2.symm)
                · exact hnb.out b (by omega) hf
              clear hnb
              go_wp2
              go_roundw
              case rel => exact ⟨j + 1, by omega, by go_num, HB8, HNO⟩
              case measure => simp [intOf]; omega
        · obtain rfl : j = 16 := by omega
          have HBW : Hid (Below W0.heap.size W0 wr) := S2.out.trans (hbq.out.mono S2.out.size)
          have HNO : Hid (∀ i' b, i' < i + 1 → ¬ P.FindIs da l x i' b) := by
            intro i' b hi' hf
            by_cases e : i' = i
            · subst e; exact hnb.out b hf.lt hf
            · exact hno.out i' b (by omega) hf
          clear hnb hno hbq
          go_wp2
          go_roundw
          case rel => exact ⟨i + 1, by have := HLT.out; omega, by go_num, HBW, HNO⟩
          case measure => simp [intOf]; have := HLT.out; omega
    · obtain rfl : i = n := by omega
      have HRR : Hid (∀ e : Ending, e = .returned (.tuple #[.int .i64 (-1), .int .i64 (-1)]) → e = .returned (.tuple #[.int .i64 (fndR da l x).1, .int .i64 (fndR da l x).2])) := fun e he => by
        rw [fndR_none (fun i' b hf => hno.out i' b (by have := hf.1; rw [HN.out] at this; exact this) hf)]; exact he
      clear hno hbw
      go_wp2
      go_ret2
      exact ⟨HRR.out _ rfl, HBR.out⟩
end Go.Proofs.YtaceogpdjbikiaaGreatDoor
namespace Go.Proofs.YtaceogpdjbikiaaGreatDoor

open Go.RowKit

section

variable {A B C D A' B' C' D' : Int} {wv hv wv' hv' : Value} {b B0 : Nat} {w w0 : World}

theorem RpBox.sets (h : RpBox A B C D wv hv b w) (A' B' C' D' : Int) (wv' hv' : Value) :
    RpBox A' B' C' D' wv' hv' b ((((((w.setCell ⟨b, 0, none⟩ (.int .i64 A')).setCell ⟨b, 1, none⟩ (.int .i64 B')).setCell ⟨b, 2, none⟩ (.int .i64 C')).setCell ⟨b, 3, none⟩ (.int .i64 D')).setCell ⟨b, 4, none⟩ wv').setCell ⟨b, 5, none⟩ hv') := by
  unfold RpBox at h ⊢
  have h0 := heap_setCell_same w b 0 _ _ (.int .i64 A') h
  have h1 := heap_setCell_same _ b 1 _ _ (.int .i64 B') h0
  have h2 := heap_setCell_same _ b 2 _ _ (.int .i64 C') h1
  have h3 := heap_setCell_same _ b 3 _ _ (.int .i64 D') h2
  have h4 := heap_setCell_same _ b 4 _ _ wv' h3
  have h5 := heap_setCell_same _ b 5 _ _ hv' h4
  exact h5
theorem RpBox.setH (h : RpBox A B C D wv hv b w) (hv' : Value) : RpBox A B C D wv hv' b (w.setCell ⟨b, 5, none⟩ hv') := heap_setCell_same w b 5 _ _ hv' h
theorem RpBox.setW (h : RpBox A B C D wv hv b w) (wv' : Value) : RpBox A B C D wv' hv b (w.setCell ⟨b, 4, none⟩ wv') := heap_setCell_same w b 4 _ _ wv' h
theorem RpBox.other (h : RpBox A B C D wv hv b w) {g : Nat} (hg : b ≠ g) (j : Nat) (v : Value) : RpBox A B C D wv hv b (w.setCell ⟨g, j, none⟩ v) := h.keep (Below.heap_setCell _ _ _ _ hg)
theorem sets6_below (h : Below B0 w0 w) (hb : B0 ≤ b) (v0 v1 v2 v3 v4 v5 : Value) :
    Below B0 w0 ((((((w.setCell ⟨b, 0, none⟩ v0).setCell ⟨b, 1, none⟩ v1).setCell ⟨b, 2, none⟩ v2).setCell ⟨b, 3, none⟩ v3).setCell ⟨b, 4, none⟩ v4).setCell ⟨b, 5, none⟩ v5) :=
  (((((h.setCell hb _).setCell hb _).setCell hb _).setCell hb _).setCell hb _).setCell hb _
theorem sets6_block (b k : Nat) (hk : k ≠ b) (v0 v1 v2 v3 v4 v5 : Value) :
    ((((((w.setCell ⟨b, 0, none⟩ v0).setCell ⟨b, 1, none⟩ v1).setCell ⟨b, 2, none⟩ v2).setCell ⟨b, 3, none⟩ v3).setCell ⟨b, 4, none⟩ v4).setCell ⟨b, 5, none⟩ v5).heap[k]? = w.heap[k]? := by
  rw [Below.heap_setCell _ _ _ _ hk, Below.heap_setCell _ _ _ _ hk, Below.heap_setCell _ _ _ _ hk, Below.heap_setCell _ _ _ _ hk, Below.heap_setCell _ _ _ _ hk, Below.heap_setCell _ _ _ _ hk]
theorem sets6_size (b : Nat) (v0 v1 v2 v3 v4 v5 : Value) :
    ((((((w.setCell ⟨b, 0, none⟩ v0).setCell ⟨b, 1, none⟩ v1).setCell ⟨b, 2, none⟩ v2).setCell ⟨b, 3, none⟩ v3).setCell ⟨b, 4, none⟩ v4).setCell ⟨b, 5, none⟩ v5).heap.size = w.heap.size := by
  simp [World.setCell]
end

theorem info_rpool : (Tryz.prog.info? 35).map (·.size) = some 6 := by kernel_rfl
/-- What a call leaves that hands back a struct in a block of its own, and two more. -/
theorem results_cell_tmp2 {P : Program} {fn : Func} {p q r : Tmp} {ty : TypeId} (h : fn.results = #[.cell p ty, .tmp q, .tmp r]) (tmps : Array Value) (w : World) (g : Nat) (t : TypeId) (cs : Array Value) (fr : Nat × Nat) (d : TypeDesc)
    (hp : tmps.getD p undef = .pointer (some ⟨g, 0, none⟩)) (hg : w.heap[g]? = some (.cells cs t fr))
    (hu : P.underlying ty = some d) (hd : (match d with | .struct _ | .array _ _ => true | _ => false) = true) (hi : (P.info? ty).map (·.size) = some cs.size) :
    (results fn tmps).run P w = .ok (.tuple #[.agg cs, tmps.getD q undef, tmps.getD r undef]) w := by
  have hp' : tmps[p]?.getD undef = .pointer (some ⟨g, 0, none⟩) := by simpa using hp
  simp [results, h, hp', asAddr, run_loadVar_row w g t ty cs fr d hg hu hd hi]
/-- The document's Reserve, of a class that there is. -/
def rR (da : Nat) (hs : List Nat) (c : Int) : List Nat × Int × Int := match P.pick c hs with
  | some i => (hs.set i (S.tkW (hs.getD i 0) c (S.nxt (hs.getD i 0) c)), (P.off da i c.toNat (S.nxt (hs.getD i 0) c).toNat : Nat), 0)
  | none => (hs, 0, 6)
theorem rR_is {da : Nat} {ws hs : List Nat} {c : Int} (hc : c = 1 ∨ c = 2) : P.Pl.reserve ⟨da, ws, hs⟩ c = (⟨da, ws, (rR da hs c).1⟩, (rR da hs c).2.1, (rR da hs c).2.2) := by
  unfold P.Pl.reserve rR
  rw [if_pos hc]
  dsimp only
  cases P.pick c hs <;> rfl
/-- What a call leaves that hands back a pool with other reserved words. -/
def RsPost (w : World) (A B C : Int) (da : Nat) (wv : Value) (gh _ch n : Nat) (r : List Nat × Int × Int) (e : Ending) (w' : World) : Prop :=
  ∃ gh' ch', e = .returned (.tuple #[.agg #[.int .i64 A, .int .i64 B, .int .i64 C, .int .i64 (da : Int), wv, .slice (some ⟨gh', 0, none⟩) n ch'], .int .i64 r.2.1, .int .i64 r.2.2]) ∧ WAt w' gh' r.1 ∧ (gh' = gh ∨ w.heap.size ≤ gh') ∧ n ≤ ch' ∧ ch' ≤ maxLen ∧ Below w.heap.size w w'
theorem findIdx_at {hs : List Nat} {f : Nat → Bool} {i : Nat} (hi : i < hs.length) (hf : f (hs.getD i 0) = true) (hm : ∀ j, j < i → f (hs.getD j 0) = false) : hs.findIdx? f = some i := by
  rw [List.findIdx?_eq_some_iff_getElem]
  refine ⟨hi, ?_, fun j hj => ?_⟩
  · rw [List.getD_eq_getElem?_getD, List.getElem?_eq_getElem hi] at hf; exact hf
  · have h := hm j hj
    rw [List.getD_eq_getElem?_getD, List.getElem?_eq_getElem (by omega)] at h
    simpa using h
theorem findIdx_none {hs : List Nat} {f : Nat → Bool} (hm : ∀ j, j < hs.length → f (hs.getD j 0) = false) : hs.findIdx? f = none := by
  rw [List.findIdx?_eq_none_iff]
  intro x hx
  obtain ⟨j, hj, rfl⟩ := List.mem_iff_getElem.1 hx
  have h := hm j hj
  rwa [List.getD_eq_getElem?_getD, List.getElem?_eq_getElem hj] at h
theorem nxt_range {u : Nat} (hu : u < 2 ^ 64) (c : Int) : -1 ≤ S.nxt u c ∧ S.nxt u c ≤ 16 := by
  cases hs : S.sui u c with
  | false => rw [S.nxt_not hs]; omega
  | true =>
    have hb := S.blk_le c
    rcases S.nxt_of hu hs with ⟨h, _⟩ | ⟨k, h, h2, _⟩ <;> rw [h] <;> omega
set_option maxHeartbeats 2000000 in
set_option maxRecDepth 100000 in
theorem rp_reserve (w : World) (A B C : Int) (da : Nat) (gw cw gh ch n : Nat) (hs : List Nat) (c : Nat) (hc : c = 1 ∨ c = 2) (h : WAt w gh hs) (hn : hs.length = n) (h63 : n ≤ 63) (h1 : n ≤ ch) (h2 : ch ≤ maxLen) (hr : ∀ i, i < n → S.rgt (hs.getD i 0) = true) (hd : da ≤ 1000000) :
    Calls Tryz.prog 11 #[.agg #[.int .i64 A, .int .i64 B, .int .i64 C, .int .i64 (da : Int), (.slice (some ⟨gw, 0, none⟩) n cw), .slice (some ⟨gh, 0, none⟩) n ch], .int .i64 (c : Int)] w (RsPost w A B C da (.slice (some ⟨gw, 0, none⟩) n cw) gh ch n (rR da hs (c : Int))) := by
  have HW := Lib.hid h
  have HN := Lib.hid hn
  have HR := Lib.hid hr
  have HBL : Hid (∀ W : World, Calls Tryz.prog 38 #[.int .i64 (c : Int)] W fun e w' => e = .returned (.int .i64 (S.blk (c : Int) : Nat)) ∧ ∃ m, w' = W.drewN m) := fun W => rs_blocks _ W
  have hbk : S.blk (c : Int) ≠ 0 := by rcases hc with rfl | rfl <;> decide
  have HNX : Hid (∀ (u : Nat) (W : World), u < 2 ^ 64 → Calls Tryz.prog 39 #[.int .u64 (u : Int), .int .i64 (c : Int)] W fun e w' => e = .returned (.int .i64 (S.nxt u (c : Int))) ∧ Below W.heap.size W w') := fun u W hu => rs_next u (c : Int) W hu
  have HC := Lib.hid hc
  have HBX0 : Hid (RpBox A B C (da : Int) (.slice (some ⟨gw, 0, none⟩) n cw) (.slice (some ⟨gh, 0, none⟩) n ch) w.heap.size ((w.alloc (.cells #[.int .i64 A, .int .i64 B, .int .i64 C, .int .i64 (da : Int), (.slice (some ⟨gw, 0, none⟩) n cw), .slice (some ⟨gh, 0, none⟩) n ch] 35 (0, 0))).alloc (.cells #[.int .i64 0, .int .i64 0, .int .i64 0, .int .i64 0, .slice none 0 0, .slice none 0 0] 35 (0, 0)))) := heap_alloc2_old w _ _
  have HRC0 : Hid (RpBox 0 0 0 0 (.slice none 0 0) (.slice none 0 0) (w.heap.size + 1) ((w.alloc (.cells #[.int .i64 A, .int .i64 B, .int .i64 C, .int .i64 (da : Int), (.slice (some ⟨gw, 0, none⟩) n cw), .slice (some ⟨gh, 0, none⟩) n ch] 35 (0, 0))).alloc (.cells #[.int .i64 0, .int .i64 0, .int .i64 0, .int .i64 0, .slice none 0 0, .slice none 0 0] 35 (0, 0)))) := heap_alloc2_new w _ _
  have HB0 : Hid (Below w.heap.size w ((w.alloc (.cells #[.int .i64 A, .int .i64 B, .int .i64 C, .int .i64 (da : Int), (.slice (some ⟨gw, 0, none⟩) n cw), .slice (some ⟨gh, 0, none⟩) n ch] 35 (0, 0))).alloc (.cells #[.int .i64 0, .int .i64 0, .int .i64 0, .int .i64 0, .slice none 0 0, .slice none 0 0] 35 (0, 0)))) := ((Below.refl _ _).alloc (Nat.le_refl _) _).alloc (by simp) _
  have hsz0 : ((w.alloc (.cells #[.int .i64 A, .int .i64 B, .int .i64 C, .int .i64 (da : Int), (.slice (some ⟨gw, 0, none⟩) n cw), .slice (some ⟨gh, 0, none⟩) n ch] 35 (0, 0))).alloc (.cells #[.int .i64 0, .int .i64 0, .int .i64 0, .int .i64 0, .slice none 0 0, .slice none 0 0] 35 (0, 0))).heap.size = w.heap.size + 2 := by simp
  clear h hn hr hc
  obtain ⟨bk, hbk2⟩ : ∃ bk, S.blk (c : Int) = bk := ⟨_, rfl⟩
  rw [hbk2] at HBL hbk
  have hbk0 : ((bk : Int) == 0) = false := by simp; omega
  clear hbk2 hbk
  go_enter Tryz.func11, Tryz.ntmps11
  go_upto_region 1 with fail
  generalize hW0 : (w.alloc (.cells #[.int .i64 A, .int .i64 B, .int .i64 C, .int .i64 (da : Int), (.slice (some ⟨gw, 0, none⟩) n cw), .slice (some ⟨gh, 0, none⟩) n ch] 35 (0, 0))).alloc (.cells #[.int .i64 0, .int .i64 0, .int .i64 0, .int .i64 0, .slice none 0 0, .slice none 0 0] 35 (0, 0)) = W0 at *
  clear hW0
  have hsz0' := Lib.hid hsz0
  clear hsz0
  go_wp2_with fail
  refine (HBL.out _).mono ?_
  rintro e w2 ⟨rfl, m2, rfl⟩
  go_upto_block 0 with fail
  go_cut [7] (fun s wx => Hid (Below W0.heap.size W0 wx) ∧ ((∃ i : Nat, s = .int .i64 i ∧ i < n ∧ hs.findIdx? (P.fits (c : Int)) = some i) ∨ (s = .int .i64 (-1) ∧ hs.findIdx? (P.fits (c : Int)) = none)))
  case first =>
    go_wp2_with fail
    go_loopw [7, 8] (fun s kv wr => ∃ i : Nat, i ≤ n ∧ kv = .int .i64 i ∧ s = .int .i64 (-1) ∧ Hid (Below W0.heap.size W0 wr) ∧ Hid (∀ j, j < i → P.fits (c : Int) (hs.getD j 0) = false)) (fun _ kv _ => n - (intOf kv).toNat)
    case atStart => exact ⟨0, by omega, rfl, rfl, below_drewN' (Below.refl _ _) _, fun j hj => by omega⟩
    case round =>
      obtain ⟨i, hi, rfl, rfl, hbw, hno⟩ := hrel
      obtain ⟨q0, q1, q2, q3, q4, q5⟩ := (HBX0.out.below hbw.out).cells
      have HBR : Hid (Below w.heap.size w wr) := HB0.out.trans (hbw.out.mono HB0.out.size)
      by_cases hlt : i < n
      · have hcell := (HW.out.below HBR.out).2 i (by rw [HN.out]; exact hlt)
        have h64 : hs.getD i 0 < 2 ^ 64 := P.lt64 (HR.out i hlt)
        have HX := Lib.hid (HNX.out (hs.getD i 0) wr h64)
        have HFT : Hid (P.fits (c : Int) (hs.getD i 0) = decide (hs.getD i 0 ≠ 0 ∧ 0 ≤ S.nxt (hs.getD i 0) (c : Int))) := rfl
        have HLT : Hid (i < n) := hlt
        have hnx : -1 ≤ S.nxt (hs.getD i 0) (c : Int) ∧ S.nxt (hs.getD i 0) (c : Int) ≤ 16 := nxt_range (by exact h64) _
        obtain ⟨u, hu⟩ : ∃ u, hs.getD i 0 = u := ⟨_, rfl⟩
        rw [hu] at hcell HX HFT hnx
        have HU := Lib.hid hu
        clear hu h64
        generalize S.nxt u (c : Int) = nx at *
        by_cases hu0 : u = 0
        · have hub : ((u : Int) != 0) = false := by simp [hu0]
          have HNO : Hid (∀ j, j < i + 1 → P.fits (c : Int) (hs.getD j 0) = false) := by
            intro j hj
            by_cases e : j = i
            · subst e
              rw [HU.out, HFT.out]; simp [hu0]
            · exact hno.out j (by omega)
          clear hno
          go_wp2
          go_roundw
          case rel => exact ⟨i + 1, by omega, by go_num, rfl, hbw, HNO⟩
          case measure => simp [intOf]; omega
        · have hub : ((u : Int) != 0) = true := by simp; omega
          go_wp2_with fail
          refine HX.out.mono ?_
          rintro e w5 ⟨rfl, hb5⟩
          have HB5 : Hid (Below W0.heap.size W0 w5) := hbw.out.trans (hb5.mono hbw.out.size)
          clear hb5 q0 q1 q2 q3 q4 q5 hcell
          by_cases hge : 0 ≤ nx
          · have HF : Hid (hs.findIdx? (P.fits (c : Int)) = some i) := findIdx_at (by rw [HN.out]; exact HLT.out) (by rw [HU.out, HFT.out]; simp; exact ⟨hu0, hge⟩) hno.out
            clear hno
            go_wp2
            go_meet
            case rel => exact ⟨HB5, .inl ⟨i, rfl, HLT.out, HF.out⟩⟩
          · have HNO : Hid (∀ j, j < i + 1 → P.fits (c : Int) (hs.getD j 0) = false) := by
              intro j hj
              by_cases e : j = i
              · subst e
                rw [HU.out, HFT.out]; simp; intro _; omega
              · exact hno.out j (by omega)
            clear hno
            go_wp2
            go_roundw
            case rel => exact ⟨i + 1, by have := HLT.out; omega, by go_num, rfl, HB5, HNO⟩
            case measure => simp [intOf]; have := HLT.out; omega
      · obtain rfl : i = n := by omega
        have HF : Hid (hs.findIdx? (P.fits (c : Int)) = none) := findIdx_none (fun j hj => hno.out j (by rw [HN.out] at hj; exact hj))
        clear hno
        go_wp2
        go_meet
        case rel => exact ⟨hbw, .inr ⟨rfl, HF.out⟩⟩
  case rest =>
    obtain ⟨hbw, hat⟩ := hcut
    go_upto_block 2 with fail
    go_cut [7] (fun s wx => Hid (Below W0.heap.size W0 wx) ∧ ((∃ i : Nat, s = .int .i64 i ∧ i < n ∧ P.pick (c : Int) hs = some i) ∨ (s = .int .i64 (-1) ∧ P.pick (c : Int) hs = none)))
    case first =>
      rcases hat with ⟨i, rfl, hin, hf⟩ | ⟨rfl, hf⟩
      · have HP : Hid (P.pick (c : Int) hs = some i) := by show _ = _; unfold P.pick; rw [hf]
        obtain ⟨q0, q1, q2, q3, q4, q5⟩ := (HBX0.out.below hbw.out).cells
        have hn0 : 0 < n := by omega
        clear hf
        go_wp2_with fail
        refine wp_loop_rounds 1 ?_
        rw [rounds_succ]
        go_wp2
        go_meet
        case rel => exact ⟨hbw, .inl ⟨i, rfl, hin, HP.out⟩⟩
      · have HF := Lib.hid hf
        clear hf
        go_wp2_with fail
        go_loopw [7, 9] (fun s kv wr => ∃ i : Nat, i ≤ n ∧ kv = .int .i64 i ∧ Hid (Below W0.heap.size W0 wr) ∧ ((s = .int .i64 (-1) ∧ Hid (∀ j, j < i → decide (hs.getD j 0 = 0) = false)) ∨ (∃ a : Nat, s = .int .i64 a ∧ a < n ∧ Hid (hs.findIdx? (fun w => decide (w = 0)) = some a)))) (fun _ kv _ => n - (intOf kv).toNat)
        case atStart => exact ⟨0, by omega, rfl, hbw, .inl ⟨rfl, fun j hj => by omega⟩⟩
        case round =>
          obtain ⟨i, hi, rfl, hbr, hst⟩ := hrel
          obtain ⟨q0, q1, q2, q3, q4, q5⟩ := (HBX0.out.below hbr.out).cells
          rcases hst with ⟨rfl, hno⟩ | ⟨a, rfl, han, hfa⟩
          · have HBR : Hid (Below w.heap.size w wr) := HB0.out.trans (hbr.out.mono HB0.out.size)
            by_cases hlt : i < n
            · have hcell := (HW.out.below HBR.out).2 i (by rw [HN.out]; exact hlt)
              obtain ⟨u, hu⟩ : ∃ u, hs.getD i 0 = u := ⟨_, rfl⟩
              rw [hu] at hcell
              have HU := Lib.hid hu
              clear hu
              by_cases hu0 : u = 0
              · have hub : ((u : Int) == 0) = true := by simp [hu0]
                have HFI : Hid (hs.findIdx? (fun w => decide (w = 0)) = some i) := findIdx_at (f := fun w => decide (w = 0)) (by rw [HN.out]; exact hlt) (by rw [HU.out]; simp [hu0]) hno.out
                have HLT : Hid (i < n) := hlt
                clear hno
                go_wp2
                go_roundw
                case rel => exact ⟨i + 1, by omega, by go_num, hbr, .inr ⟨i, rfl, HLT.out, HFI⟩⟩
                case measure => simp [intOf]; have := HLT.out; omega
              · have hub : ((u : Int) == 0) = false := by simp; omega
                have HNO : Hid (∀ j, j < i + 1 → decide (hs.getD j 0 = 0) = false) := by
                  intro j hj
                  by_cases e : j = i
                  · subst e
                    rw [HU.out]; simp [hu0]
                  · exact hno.out j (by omega)
                have HLT : Hid (i < n) := hlt
                clear hno
                go_wp2
                go_roundw
                case rel => exact ⟨i + 1, by omega, by go_num, hbr, .inl ⟨rfl, HNO⟩⟩
                case measure => simp [intOf]; have := HLT.out; omega
            · obtain rfl : i = n := by omega
              have HP : Hid (P.pick (c : Int) hs = none) := by
                show _ = _
                unfold P.pick
                rw [HF.out]
                exact findIdx_none (f := fun w => decide (w = 0)) (fun j hj => hno.out j (by rw [HN.out] at hj; exact hj))
              clear hno
              go_wp2
              go_meet
              case rel => exact ⟨hbr, .inr ⟨rfl, HP.out⟩⟩
          · have HP : Hid (P.pick (c : Int) hs = some a) := by show _ = _; unfold P.pick; rw [HF.out]; exact hfa.out
            have hna : ¬ ((a : Int) < 0) := by omega
            by_cases hlt : i < n
            · go_wp2
              go_meet
              case rel => exact ⟨hbr, .inl ⟨a, rfl, han, HP.out⟩⟩
            · have hge : ¬ ((i : Int) < (n : Int)) := by omega
              go_wp2
              go_meet
              case rel => exact ⟨hbr, .inl ⟨a, rfl, han, HP.out⟩⟩
    case rest =>
      clear hat hbw
      obtain ⟨hbw, hat⟩ := hcut
      have hbx := HBX0.out.below hbw.out
      have hrc := HRC0.out.below hbw.out
      obtain ⟨q0, q1, q2, q3, q4, q5⟩ := hbx.cells
      obtain ⟨r0, r1, r2, r3, r4, r5⟩ := hrc.cells
      have f0 := hrc.fr 0; have f1 := hrc.fr 1; have f2 := hrc.fr 2; have f3 := hrc.fr 3; have f4 := hrc.fr 4; have f5 := hrc.fr 5
      have HBX := Lib.hid hbx
      have HRC := Lib.hid hrc
      have HBR : Hid (Below w.heap.size w wc) := HB0.out.trans (hbw.out.mono HB0.out.size)
      rcases hat with ⟨i, rfl, hin, hpk⟩ | ⟨rfl, hpk⟩
      · obtain ⟨hpi, hpf⟩ := P.pick_some hpk
        obtain ⟨b, b1, b2, b3⟩ := P.nxt_take (c := (c : Int)) (by have := HC.out; omega) (HR.out i hin) hpf
        have hb16 : b ≤ 16 := by have := S.blk_le (c : Int); omega
        have h64 : hs.getD i 0 < 2 ^ 64 := P.lt64 (HR.out i hin)
        have HRR : Hid (rR da hs (c : Int) = (hs.set i (S.tkW (hs.getD i 0) (c : Int) (b : Int)), ((P.off da i c b : Nat) : Int), 0)) := by
          show _ = _
          unfold rR
          rw [hpk]
          dsimp only
          rw [b1, Int.toNat_natCast, Int.toNat_natCast]
        have HNI := Lib.hid (HNX.out (hs.getD i 0) wc h64)
        rw [b1] at HNI
        have HTI : Hid (∀ W : World, Calls Tryz.prog 40 #[.int .u64 (hs.getD i 0 : Nat), .int .i64 (c : Int), .int .i64 (b : Int)] W fun e w' => e = .returned (.tuple #[.int .u64 (S.tkW (hs.getD i 0) (c : Int) (b : Int) : Nat), .bool (S.tak (hs.getD i 0) (c : Int) (b : Int))]) ∧ Below W.heap.size W w') := fun W => rs_take (hs.getD i 0) (c : Int) (b : Int) W h64
        have hv64 : S.tkW (hs.getD i 0) (c : Int) (b : Int) < 2 ^ 64 := S.tkW_lt h64 _ _
        have HPU : Hid (∀ W : World, WAt W gh hs → Calls Tryz.prog 41 #[.slice (some ⟨gh, 0, none⟩) n ch, .int .i64 (i : Int), .int .u64 (S.tkW (hs.getD i 0) (c : Int) (b : Int) : Nat)] W fun e w' => ∃ g' c', e = .returned (.slice (some ⟨g', 0, none⟩) n c') ∧ WAt w' g' (hs.set i (S.tkW (hs.getD i 0) (c : Int) (b : Int))) ∧ W.heap.size ≤ g' ∧ n ≤ c' ∧ c' ≤ maxLen ∧ Below W.heap.size W w') := fun W hW => rp_put W gh ch n hs i _ hW HN.out h63 h1 h2 (fun x hx => by
          obtain ⟨j, hj, rfl⟩ := List.mem_iff_getElem.1 hx
          have := P.lt64 (HR.out j (by rw [← HN.out]; exact hj))
          rwa [List.getD_eq_getElem?_getD, List.getElem?_eq_getElem hj] at this) hin hv64
        have HCE : Hid (∀ W, Below W0.heap.size W0 W → RpBox A B C (da : Int) (.slice (some ⟨gw, 0, none⟩) n cw) (.slice (some ⟨gh, 0, none⟩) n ch) w.heap.size W ∧ RpBox 0 0 0 0 (.slice none 0 0) (.slice none 0 0) (w.heap.size + 1) W ∧ WAt W gh hs) := fun W hb => ⟨HBX0.out.below hb, HRC0.out.below hb, HW.out.below (HB0.out.trans (hb.mono HB0.out.size))⟩
        have hcell := (HCE.out wc hbw.out).2.2.2 i (by rw [HN.out]; exact hin)
        generalize S.tak (hs.getD i 0) (c : Int) (b : Int) = tk at *
        generalize hv : S.tkW (hs.getD i 0) (c : Int) (b : Int) = v at *
        obtain ⟨u, hu⟩ : ∃ u, hs.getD i 0 = u := ⟨_, rfl⟩
        rw [hu] at HNI HTI hcell
        have HU := Lib.hid hu
        clear hpk hpi hpf b1 b2 b3 h64 hbx hrc f0 f1 f2 f3 f4 f5 r0 r1 r2 r3 r4 r5 HBX HRC hv hu hv64
        go_wp2_with fail
        refine HNI.out.mono ?_
        rintro e w5 ⟨rfl, hb5⟩
        have HB5 : Hid (Below W0.heap.size W0 w5) := hbw.out.trans (hb5.mono hbw.out.size)
        obtain ⟨x5, y5, z5⟩ := HCE.out w5 HB5.out
        obtain ⟨p0, p1, p2, p3, p4, p5⟩ := x5.cells
        have hcell5 := z5.2 i (by rw [HN.out]; exact hin)
        rw [HU.out] at hcell5
        clear hcell q0 q1 q2 q3 q4 q5
        go_wp2_with fail
        refine (HTI.out _).mono ?_
        rintro e w6 ⟨rfl, hb6⟩
        have HB6 : Hid (Below W0.heap.size W0 w6) := HB5.out.trans (hb6.mono HB5.out.size)
        obtain ⟨x6, y6, z6⟩ := HCE.out w6 HB6.out
        obtain ⟨q0, q1, q2, q3, q4, q5⟩ := x6.cells
        have HPI := Lib.hid (HPU.out w6 z6)
        clear p0 p1 p2 p3 p4 p5 hcell5 x5 y5 z5 hb5 hb6 y6 z6 x6
        go_wp2_with fail
        refine HPI.out.mono ?_
        rintro e w7 ⟨g', c', rfl, hw7, hg7, h71, h72, hb7⟩
        have HB7 : Hid (Below W0.heap.size W0 w7) := HB6.out.trans (hb7.mono HB6.out.size)
        obtain ⟨x7, y7, z7⟩ := HCE.out w7 HB7.out
        have HX7 := Lib.hid x7
        have HY7 := Lib.hid y7
        have HW7 := Lib.hid hw7
        have p5 := x7.cells.2.2.2.2.2
        have pf := x7.fr 5
        have hg7' : w.heap.size + 2 ≤ g' := by have := HB6.out.size; have := hsz0'.out; omega
        have HB7' : Hid (Below w.heap.size w w7) := HB0.out.trans (HB7.out.mono HB0.out.size)
        have HPL : Hid (∀ W : World, Calls Tryz.prog 42 #[.agg #[.int .i64 A, .int .i64 B, .int .i64 C, .int .i64 (da : Int), .slice (some ⟨gw, 0, none⟩) n cw, .slice (some ⟨g', 0, none⟩) n c'], .int .i64 (i : Int), .int .i64 (c : Int), .int .i64 (b : Int)] W fun e w' => e = .returned (.int .i64 (P.off da i c b : Nat)) ∧ Below W.heap.size W w') := fun W => rp_place W A B C da _ _ i c b hd (by omega) hb16
        generalize P.off da i c b = of at *
        clear q0 q1 q2 q3 q4 q5 x7 y7 z7 hb7 hw7
        go_upto_region 19 with fail
        have HX8 : Hid (RpBox A B C (da : Int) (.slice (some ⟨gw, 0, none⟩) n cw) (.slice (some ⟨g', 0, none⟩) n c') w.heap.size (w7.setCell ⟨w.heap.size, 5, none⟩ (.slice (some ⟨g', 0, none⟩) n c'))) := HX7.out.setH _
        have HY8 : Hid (RpBox 0 0 0 0 (.slice none 0 0) (.slice none 0 0) (w.heap.size + 1) (w7.setCell ⟨w.heap.size, 5, none⟩ (.slice (some ⟨g', 0, none⟩) n c'))) := HY7.out.other (by omega) _ _
        have HW8 : Hid (WAt (w7.setCell ⟨w.heap.size, 5, none⟩ (.slice (some ⟨g', 0, none⟩) n c')) g' (hs.set i v)) := HW7.out.keep (by simp [World.setCell]) (Below.heap_setCell _ _ _ _ (by show g' ≠ w.heap.size; omega))
        have HB8 : Hid (Below w.heap.size w (w7.setCell ⟨w.heap.size, 5, none⟩ (.slice (some ⟨g', 0, none⟩) n c'))) := HB7'.out.setCell (by show w.heap.size ≤ w.heap.size; omega) _
        generalize w7.setCell ⟨w.heap.size, 5, none⟩ (.slice (some ⟨g', 0, none⟩) n c') = W8 at *
        clear p5 pf
        obtain ⟨p0, p1, p2, p3, p4, p5⟩ := RpBox.cells (w := W8.drew) HX8.out
        obtain ⟨r0, r1, r2, r3, r4, r5⟩ := RpBox.cells (w := W8.drew) HY8.out
        have f0 := RpBox.fr (w := W8.drew) HY8.out 0; have f1 := RpBox.fr (w := W8.drew) HY8.out 1; have f2 := RpBox.fr (w := W8.drew) HY8.out 2; have f3 := RpBox.fr (w := W8.drew) HY8.out 3; have f4 := RpBox.fr (w := W8.drew) HY8.out 4; have f5 := RpBox.fr (w := W8.drew) HY8.out 5
        have HDE : Hid (∀ W, Below W8.drew.heap.size W8.drew W → RpBox A B C (da : Int) (.slice (some ⟨gw, 0, none⟩) n cw) (.slice (some ⟨g', 0, none⟩) n c') w.heap.size W ∧ RpBox 0 0 0 0 (.slice none 0 0) (.slice none 0 0) (w.heap.size + 1) W ∧ WAt W g' (hs.set i v) ∧ Below w.heap.size w W) := fun W hb => ⟨RpBox.below (w := W8.drew) HX8.out hb, RpBox.below (w := W8.drew) HY8.out hb, WAt.below (w := W8.drew) HW8.out hb, HB8.out.drew.trans (hb.mono HB8.out.drew.size)⟩
        have HFI : Hid (∀ W, RpBox A B C (da : Int) (.slice (some ⟨gw, 0, none⟩) n cw) (.slice (some ⟨g', 0, none⟩) n c') (w.heap.size + 1) W → WAt W g' (hs.set i v) → Below w.heap.size w W → RsPost w A B C da (.slice (some ⟨gw, 0, none⟩) n cw) gh ch n (rR da hs (c : Int)) (.returned (.tuple #[.agg #[.int .i64 A, .int .i64 B, .int .i64 C, .int .i64 (da : Int), .slice (some ⟨gw, 0, none⟩) n cw, .slice (some ⟨g', 0, none⟩) n c'], .int .i64 (of : Int), .int .i64 0])) W) := fun W _ b9 c9 => by
          rw [HRR.out]
          exact ⟨g', c', rfl, b9, .inr (by omega), h71, h72, c9⟩
        have HS6 : Hid (∀ W, RpBox 0 0 0 0 (.slice none 0 0) (.slice none 0 0) (w.heap.size + 1) W → WAt W g' (hs.set i v) → Below w.heap.size w W → RpBox A B C (da : Int) (.slice (some ⟨gw, 0, none⟩) n cw) (.slice (some ⟨g', 0, none⟩) n c') (w.heap.size + 1) ((((((W.setCell ⟨w.heap.size + 1, 0, none⟩ (.int .i64 A)).setCell ⟨w.heap.size + 1, 1, none⟩ (.int .i64 B)).setCell ⟨w.heap.size + 1, 2, none⟩ (.int .i64 C)).setCell ⟨w.heap.size + 1, 3, none⟩ (.int .i64 (da : Int))).setCell ⟨w.heap.size + 1, 4, none⟩ (.slice (some ⟨gw, 0, none⟩) n cw)).setCell ⟨w.heap.size + 1, 5, none⟩ (.slice (some ⟨g', 0, none⟩) n c')) ∧ WAt ((((((W.setCell ⟨w.heap.size + 1, 0, none⟩ (.int .i64 A)).setCell ⟨w.heap.size + 1, 1, none⟩ (.int .i64 B)).setCell ⟨w.heap.size + 1, 2, none⟩ (.int .i64 C)).setCell ⟨w.heap.size + 1, 3, none⟩ (.int .i64 (da : Int))).setCell ⟨w.heap.size + 1, 4, none⟩ (.slice (some ⟨gw, 0, none⟩) n cw)).setCell ⟨w.heap.size + 1, 5, none⟩ (.slice (some ⟨g', 0, none⟩) n c')) g' (hs.set i v) ∧ Below w.heap.size w ((((((W.setCell ⟨w.heap.size + 1, 0, none⟩ (.int .i64 A)).setCell ⟨w.heap.size + 1, 1, none⟩ (.int .i64 B)).setCell ⟨w.heap.size + 1, 2, none⟩ (.int .i64 C)).setCell ⟨w.heap.size + 1, 3, none⟩ (.int .i64 (da : Int))).setCell ⟨w.heap.size + 1, 4, none⟩ (.slice (some ⟨gw, 0, none⟩) n cw)).setCell ⟨w.heap.size + 1, 5, none⟩ (.slice (some ⟨g', 0, none⟩) n c'))) := fun W a9 b9 c9 => ⟨a9.sets A B C (da : Int) _ _, b9.keep (by rw [sets6_size]; exact Nat.le_refl _) (sets6_block _ _ (by omega) _ _ _ _ _ _), sets6_below c9 (by omega) _ _ _ _ _ _⟩
        have HS7 := Lib.hid (HS6.out W8.drew HY8.out HW8.out HB8.out.drew)
        have HDE2 : Hid (∀ W, Below ((((((W8.drew.setCell ⟨w.heap.size + 1, 0, none⟩ (.int .i64 A)).setCell ⟨w.heap.size + 1, 1, none⟩ (.int .i64 B)).setCell ⟨w.heap.size + 1, 2, none⟩ (.int .i64 C)).setCell ⟨w.heap.size + 1, 3, none⟩ (.int .i64 (da : Int))).setCell ⟨w.heap.size + 1, 4, none⟩ (.slice (some ⟨gw, 0, none⟩) n cw)).setCell ⟨w.heap.size + 1, 5, none⟩ (.slice (some ⟨g', 0, none⟩) n c')).heap.size ((((((W8.drew.setCell ⟨w.heap.size + 1, 0, none⟩ (.int .i64 A)).setCell ⟨w.heap.size + 1, 1, none⟩ (.int .i64 B)).setCell ⟨w.heap.size + 1, 2, none⟩ (.int .i64 C)).setCell ⟨w.heap.size + 1, 3, none⟩ (.int .i64 (da : Int))).setCell ⟨w.heap.size + 1, 4, none⟩ (.slice (some ⟨gw, 0, none⟩) n cw)).setCell ⟨w.heap.size + 1, 5, none⟩ (.slice (some ⟨g', 0, none⟩) n c')) W → RpBox A B C (da : Int) (.slice (some ⟨gw, 0, none⟩) n cw) (.slice (some ⟨g', 0, none⟩) n c') (w.heap.size + 1) W ∧ WAt W g' (hs.set i v) ∧ Below w.heap.size w W) := fun W hb => ⟨HS7.out.1.below hb, HS7.out.2.1.below hb, HS7.out.2.2.trans (hb.mono HS7.out.2.2.size)⟩
        go_region_with (first
          | (go_at_call 42; refine (HPL.out _).mono ?_; rintro e w9 ⟨rfl, hb9⟩; first
              | (obtain ⟨x9, y9, z9, t9⟩ := HDE.out w9 hb9; have HSE := Lib.hid (HS6.out w9 y9 z9 t9); obtain ⟨a0, a1, a2, a3, a4, a5⟩ := x9.cells; obtain ⟨b0, b1, b2, b3, b4, b5⟩ := y9.cells; have d0 := y9.fr 0; have d1 := y9.fr 1; have d2 := y9.fr 2; have d3 := y9.fr 3; have d4 := y9.fr 4; have d5 := y9.fr 5; clear x9 y9 z9 t9 hb9)
              | (have HSE := Lib.hid (HDE2.out w9 hb9); clear hb9))
          | fail)
        all_goals
          go_wp2
          (try simp only [Exit.inBlock, Exit.then])
          refine bodyPost_ret (results_cell_tmp2 rfl _ _ (w.heap.size + 1) 35 _ (0, 0) _ rfl HSE.out.1 Tryz.underlying35 rfl info_rpool) rfl ?_
          exact HFI.out _ HSE.out.1 HSE.out.2.1 HSE.out.2.2
      · have HRR : Hid (rR da hs (c : Int) = (hs, 0, 6)) := by show _ = _; unfold rR; rw [hpk]
        have HWE : Hid (WAt ((((((wc.setCell ⟨w.heap.size + 1, 0, none⟩ (.int .i64 A)).setCell ⟨w.heap.size + 1, 1, none⟩ (.int .i64 B)).setCell ⟨w.heap.size + 1, 2, none⟩ (.int .i64 C)).setCell ⟨w.heap.size + 1, 3, none⟩ (.int .i64 (da : Int))).setCell ⟨w.heap.size + 1, 4, none⟩ (.slice (some ⟨gw, 0, none⟩) n cw)).setCell ⟨w.heap.size + 1, 5, none⟩ (.slice (some ⟨gh, 0, none⟩) n ch)) gh hs) := (HW.out.below HBR.out).keep (by rw [sets6_size]; exact Nat.le_refl _) (sets6_block _ _ (by have := HW.out.1; omega) _ _ _ _ _ _)
        have HRX := Lib.hid (HRC.out.sets A B C (da : Int) (.slice (some ⟨gw, 0, none⟩) n cw) (.slice (some ⟨gh, 0, none⟩) n ch))
        have HBE := Lib.hid (sets6_below (b := w.heap.size + 1) HBR.out (by omega) (.int .i64 A) (.int .i64 B) (.int .i64 C) (.int .i64 (da : Int)) (.slice (some ⟨gw, 0, none⟩) n cw) (.slice (some ⟨gh, 0, none⟩) n ch))
        clear hpk hbx hrc hbw
        go_wp2
        (try simp only [Exit.inBlock, Exit.then])
        refine bodyPost_ret (results_cell_tmp2 rfl _ _ (w.heap.size + 1) 35 _ (0, 0) _ rfl HRX.out Tryz.underlying35 rfl info_rpool) rfl ?_
        rw [HRR.out]
        exact ⟨gh, ch, rfl, HWE.out, .inl rfl, h1, h2, HBE.out⟩
end Go.Proofs.YtaceogpdjbikiaaGreatDoor
namespace Go.Proofs.YtaceogpdjbikiaaGreatDoor

open Go.RowKit

/-- What a call leaves that hands back a pool and an error. -/
def PlPost (w : World) (A B C : Int) (da : Nat) (gw gh n : Nat) (r : P.Pl × Int) (e : Ending) (w' : World) : Prop :=
  ∃ gw' cw' gh' ch', e = .returned (.tuple #[.agg #[.int .i64 A, .int .i64 B, .int .i64 C, .int .i64 (da : Int), .slice (some ⟨gw', 0, none⟩) n cw', .slice (some ⟨gh', 0, none⟩) n ch'], .int .i64 r.2]) ∧ WAt w' gw' r.1.ws ∧ WAt w' gh' r.1.hs ∧ (gw' = gw ∨ w.heap.size ≤ gw') ∧ (gh' = gh ∨ w.heap.size ≤ gh') ∧ (n ≤ cw' ∧ cw' ≤ maxLen) ∧ (n ≤ ch' ∧ ch' ≤ maxLen) ∧ Below w.heap.size w w'
theorem all64 {l : List Nat} {n : Nat} (hn : l.length = n) (h : ∀ i, i < n → l.getD i 0 < 2 ^ 64) : ∀ x ∈ l, x < 2 ^ 64 := fun x hx => by
  obtain ⟨j, hj, rfl⟩ := List.mem_iff_getElem.1 hx
  have := h j (by omega)
  rwa [List.getD_eq_getElem?_getD, List.getElem?_eq_getElem hj] at this
set_option maxHeartbeats 2000000 in
set_option maxRecDepth 100000 in
theorem rp_take (w : World) (A B C : Int) (da : Nat) (gw cw gh ch n : Nat) (ws hs : List Nat) (x : Int) (hw : WAt w gw ws) (hh : WAt w gh hs) (hnw : ws.length = n) (hnh : hs.length = n) (h63 : n ≤ 63) (hcw : n ≤ cw ∧ cw ≤ maxLen) (hch : n ≤ ch ∧ ch ≤ maxLen) (h64w : ∀ i, i < n → ws.getD i 0 < 2 ^ 64) (hd : da ≤ 1000000) :
    Calls Tryz.prog 15 #[.agg #[.int .i64 A, .int .i64 B, .int .i64 C, .int .i64 (da : Int), .slice (some ⟨gw, 0, none⟩) n cw, .slice (some ⟨gh, 0, none⟩) n ch], .int .i64 x] w (PlPost w A B C da gw gh n (P.Pl.take ⟨da, ws, hs⟩ x)) := by
  have HW := Lib.hid hw
  have HH := Lib.hid hh
  have HNW := Lib.hid hnw
  have HNH := Lib.hid hnh
  have H64 := Lib.hid h64w
  have HCW := Lib.hid hcw
  have HCH := Lib.hid hch
  have HFH : Hid (∀ W : World, WAt W gh hs → Calls Tryz.prog 46 #[.agg #[.int .i64 A, .int .i64 B, .int .i64 C, .int .i64 (da : Int), .slice (some ⟨gw, 0, none⟩) n cw, .slice (some ⟨gh, 0, none⟩) n ch], .slice (some ⟨gh, 0, none⟩) n ch, .int .i64 x] W fun e w' => e = .returned (.tuple #[.int .i64 (fndR da hs x).1, .int .i64 (fndR da hs x).2]) ∧ Below W.heap.size W w') := fun W hW => rp_find W A B C da _ _ gh ch n hs x hW hnh h63 hch.1 hch.2 hd
  have HFW : Hid (∀ W : World, WAt W gw ws → Calls Tryz.prog 46 #[.agg #[.int .i64 A, .int .i64 B, .int .i64 C, .int .i64 (da : Int), .slice (some ⟨gw, 0, none⟩) n cw, .slice (some ⟨gh, 0, none⟩) n ch], .slice (some ⟨gw, 0, none⟩) n cw, .int .i64 x] W fun e w' => e = .returned (.tuple #[.int .i64 (fndR da ws x).1, .int .i64 (fndR da ws x).2]) ∧ Below W.heap.size W w') := fun W hW => rp_find W A B C da _ _ gw cw n ws x hW hnw h63 hcw.1 hcw.2 hd
  have HBX0 : Hid (RpBox A B C (da : Int) (.slice (some ⟨gw, 0, none⟩) n cw) (.slice (some ⟨gh, 0, none⟩) n ch) w.heap.size ((w.alloc (.cells #[.int .i64 A, .int .i64 B, .int .i64 C, .int .i64 (da : Int), .slice (some ⟨gw, 0, none⟩) n cw, .slice (some ⟨gh, 0, none⟩) n ch] 35 (0, 0))).alloc (.cells #[.int .i64 0, .int .i64 0, .int .i64 0, .int .i64 0, .slice none 0 0, .slice none 0 0] 35 (0, 0)))) := heap_alloc2_old w _ _
  have HRC0 : Hid (RpBox 0 0 0 0 (.slice none 0 0) (.slice none 0 0) (w.heap.size + 1) ((w.alloc (.cells #[.int .i64 A, .int .i64 B, .int .i64 C, .int .i64 (da : Int), .slice (some ⟨gw, 0, none⟩) n cw, .slice (some ⟨gh, 0, none⟩) n ch] 35 (0, 0))).alloc (.cells #[.int .i64 0, .int .i64 0, .int .i64 0, .int .i64 0, .slice none 0 0, .slice none 0 0] 35 (0, 0)))) := heap_alloc2_new w _ _
  have HB0 : Hid (Below w.heap.size w ((w.alloc (.cells #[.int .i64 A, .int .i64 B, .int .i64 C, .int .i64 (da : Int), .slice (some ⟨gw, 0, none⟩) n cw, .slice (some ⟨gh, 0, none⟩) n ch] 35 (0, 0))).alloc (.cells #[.int .i64 0, .int .i64 0, .int .i64 0, .int .i64 0, .slice none 0 0, .slice none 0 0] 35 (0, 0)))) := ((Below.refl _ _).alloc (Nat.le_refl _) _).alloc (by simp) _
  have hsz0 := Lib.hid (show ((w.alloc (.cells #[.int .i64 A, .int .i64 B, .int .i64 C, .int .i64 (da : Int), .slice (some ⟨gw, 0, none⟩) n cw, .slice (some ⟨gh, 0, none⟩) n ch] 35 (0, 0))).alloc (.cells #[.int .i64 0, .int .i64 0, .int .i64 0, .int .i64 0, .slice none 0 0, .slice none 0 0] 35 (0, 0))).heap.size = w.heap.size + 2 by simp)
  clear hw hh hnw hnh h64w hcw hch
  obtain ⟨R, hR⟩ : ∃ R, P.Pl.take ⟨da, ws, hs⟩ x = R := ⟨_, rfl⟩
  rw [hR]
  have HR := Lib.hid hR
  clear hR
  go_enter Tryz.func15, Tryz.ntmps15
  go_upto_region 1 with fail
  generalize hW0 : (w.alloc (.cells #[.int .i64 A, .int .i64 B, .int .i64 C, .int .i64 (da : Int), .slice (some ⟨gw, 0, none⟩) n cw, .slice (some ⟨gh, 0, none⟩) n ch] 35 (0, 0))).alloc (.cells #[.int .i64 0, .int .i64 0, .int .i64 0, .int .i64 0, .slice none 0 0, .slice none 0 0] 35 (0, 0)) = W0 at *
  clear hW0
  have HCE : Hid (∀ W, Below W0.heap.size W0 W → RpBox A B C (da : Int) (.slice (some ⟨gw, 0, none⟩) n cw) (.slice (some ⟨gh, 0, none⟩) n ch) w.heap.size W ∧ RpBox 0 0 0 0 (.slice none 0 0) (.slice none 0 0) (w.heap.size + 1) W ∧ WAt W gw ws ∧ WAt W gh hs ∧ Below w.heap.size w W) := fun W hb => ⟨HBX0.out.below hb, HRC0.out.below hb, HW.out.below (HB0.out.trans (hb.mono HB0.out.size)), HH.out.below (HB0.out.trans (hb.mono HB0.out.size)), HB0.out.trans (hb.mono HB0.out.size)⟩
  obtain ⟨a1, a2, a3, a4, a5⟩ := HCE.out W0 (Below.refl _ _)
  obtain ⟨q0, q1, q2, q3, q4, q5⟩ := a1.cells
  have HF0 := Lib.hid (HFH.out W0 a4)
  clear a1 a2 a3 a4 a5
  obtain ⟨fh1, fh2, hfh⟩ : ∃ a b, fndR da hs x = (a, b) := ⟨_, _, rfl⟩
  obtain ⟨fw1, fw2, hfw⟩ : ∃ a b, fndR da ws x = (a, b) := ⟨_, _, rfl⟩
  rw [hfh] at HF0
  rw [hfw] at HFW
  have HFHE := Lib.hid hfh
  have HFWE := Lib.hid hfw
  clear hfh hfw
  dsimp only at HF0 HFW
  go_wp2_with fail
  refine HF0.out.mono ?_
  rintro e w2 ⟨rfl, hb2⟩
  have HB2 := Lib.hid hb2
  obtain ⟨a1, a2, a3, a4, a5⟩ := HCE.out w2 hb2
  have HF1 := Lib.hid (HFW.out w2 a3)
  clear q0 q1 q2 q3 q4 q5
  obtain ⟨q0, q1, q2, q3, q4, q5⟩ := a1.cells
  clear a1 a2 a3 a4 a5 hb2
  go_wp2_with fail
  refine HF1.out.mono ?_
  rintro e w3 ⟨rfl, hb3⟩
  have hbw := HB2.out.trans (hb3.mono HB2.out.size)
  have HB3 := Lib.hid hbw
  obtain ⟨a1, a2, a3, a4, a5⟩ := HCE.out w3 hbw
  clear q0 q1 q2 q3 q4 q5 hb3 hbw
  obtain ⟨q0, q1, q2, q3, q4, q5⟩ := a1.cells
  have f0 := a2.fr 0; have f1 := a2.fr 1; have f2 := a2.fr 2; have f3 := a2.fr 3; have f4 := a2.fr 4; have f5 := a2.fr 5
  obtain ⟨r0, r1, r2, r3, r4, r5⟩ := a2.cells
  have HSTOP : Hid (R = (⟨da, ws, hs⟩, 7) → PlPost w A B C da gw gh n R (.returned (.tuple #[.agg #[.int .i64 A, .int .i64 B, .int .i64 C, .int .i64 (da : Int), .slice (some ⟨gw, 0, none⟩) n cw, .slice (some ⟨gh, 0, none⟩) n ch], .int .i64 7])) ((((((w3.setCell ⟨w.heap.size + 1, 0, none⟩ (.int .i64 A)).setCell ⟨w.heap.size + 1, 1, none⟩ (.int .i64 B)).setCell ⟨w.heap.size + 1, 2, none⟩ (.int .i64 C)).setCell ⟨w.heap.size + 1, 3, none⟩ (.int .i64 (da : Int))).setCell ⟨w.heap.size + 1, 4, none⟩ (.slice (some ⟨gw, 0, none⟩) n cw)).setCell ⟨w.heap.size + 1, 5, none⟩ (.slice (some ⟨gh, 0, none⟩) n ch))) := fun hR => by
    rw [hR]
    exact ⟨gw, cw, gh, ch, rfl, a3.keep (by rw [sets6_size]; exact Nat.le_refl _) (sets6_block _ _ (by have := HW.out.1; omega) _ _ _ _ _ _), a4.keep (by rw [sets6_size]; exact Nat.le_refl _) (sets6_block _ _ (by have := HH.out.1; omega) _ _ _ _ _ _), .inl rfl, .inl rfl, HCW.out, HCH.out, sets6_below a5 (by omega) _ _ _ _ _ _⟩
  have HSROW := Lib.hid (a2.sets A B C (da : Int) (.slice (some ⟨gw, 0, none⟩) n cw) (.slice (some ⟨gh, 0, none⟩) n ch))
  rcases P.find_cases da hs x with ⟨eh, hnoh⟩ | ⟨i, b, eh, hfi⟩
  · have h1 := HFHE.out
    rw [fndR_none hnoh] at h1
    simp only [Prod.mk.injEq] at h1
    obtain ⟨e1, e2⟩ := h1
    have HST := Lib.hid (HSTOP.out (by rw [← HR.out]; unfold P.Pl.take; dsimp only; rw [eh]))
    clear HFHE HFWE hnoh eh
    subst e1 e2
    clear a1 a2 a3 a4 a5 HSTOP
    go_wp2
    (try simp only [Exit.inBlock, Exit.then])
    refine bodyPost_ret (results_cell_tmp rfl _ _ (w.heap.size + 1) 35 _ (0, 0) _ rfl HSROW.out Tryz.underlying35 rfl info_rpool) rfl ?_
    exact HST.out
  · have h1 := HFHE.out
    rw [fndR_some hfi] at h1
    simp only [Prod.mk.injEq] at h1
    obtain ⟨e1, e2⟩ := h1
    rcases P.find_cases da ws x with ⟨ew, hnow⟩ | ⟨i', b', ew, hfi'⟩
    · have h2 := HFWE.out
      rw [fndR_none hnow] at h2
      simp only [Prod.mk.injEq] at h2
      obtain ⟨e3, e4⟩ := h2
      have hin : i < n := by have := hfi.1; rw [HNH.out] at this; exact this
      have hb16 : b < 16 := hfi.lt
      obtain ⟨k, hk⟩ : ∃ k, S.cls (hs.getD i 0) = k := ⟨_, rfl⟩
      obtain ⟨t, ht⟩ : ∃ t, S.tkn (hs.getD i 0) = t := ⟨_, rfl⟩
      have h64 := H64.out i hin
      obtain ⟨v, hv⟩ : ∃ v, S.tkW (ws.getD i 0) (k : Int) (b : Int) = v := ⟨_, rfl⟩
      have hv64 : v < 2 ^ 64 := by rw [← hv]; exact S.tkW_lt h64 _ _
      have HRR : Hid (R = (⟨da, ws.set i v, hs⟩, 0)) := by
        show _ = _
        rw [← HR.out]
        unfold P.Pl.take
        dsimp only
        rw [eh, ew]
        dsimp only
        rw [hk, hv]
      have HO : Hid (Calls Tryz.prog 26 #[.int .u64 (hs.getD i 0 : Nat)] w3 fun e w' => e = .returned (.tuple #[.agg (slabA k t), .bool (S.rgt (hs.getD i 0))]) ∧ Below w3.heap.size w3 w') := by
        have h := rs_of (hs.getD i 0) w3
        rwa [hk, ht] at h
      have HTI : Hid (∀ W : World, Calls Tryz.prog 40 #[.int .u64 (ws.getD i 0 : Nat), .int .i64 (k : Int), .int .i64 (b : Int)] W fun e w' => e = .returned (.tuple #[.int .u64 (v : Int), .bool (S.tak (ws.getD i 0) (k : Int) (b : Int))]) ∧ Below W.heap.size W w') := fun W => by
        have h := rs_take (ws.getD i 0) (k : Int) (b : Int) W h64
        rwa [hv] at h
      have HPU : Hid (∀ W : World, WAt W gw ws → Calls Tryz.prog 41 #[.slice (some ⟨gw, 0, none⟩) n cw, .int .i64 (i : Int), .int .u64 (v : Int)] W fun e w' => ∃ g' c', e = .returned (.slice (some ⟨g', 0, none⟩) n c') ∧ WAt w' g' (ws.set i v) ∧ W.heap.size ≤ g' ∧ n ≤ c' ∧ c' ≤ maxLen ∧ Below W.heap.size W w') := fun W hW => rp_put W gw cw n ws i v hW HNW.out h63 HCW.out.1 HCW.out.2 (all64 HNW.out H64.out) hin hv64
      have hcell := a4.2 i (by rw [HNH.out]; exact hin)
      have HCH9 : Hid (∀ W, Below W0.heap.size W0 W → W.cell? ⟨gw, i, none⟩ = some (.int .u64 (ws.getD i 0 : Nat))) := fun W hb => (HCE.out W hb).2.2.1.2 i (by rw [HNW.out]; exact hin)
      generalize S.tak (ws.getD i 0) (k : Int) (b : Int) = tk at *
      generalize S.rgt (hs.getD i 0) = rr at *
      generalize hs.getD i 0 = u at *
      generalize ws.getD i 0 = uw at *
      have hi0 : ¬ ((i : Int) < 0) := by omega
      have HINN : Hid (i < n) := hin
      clear HFHE HFWE eh ew hfi hnow hv hk ht hv64 h64 HSTOP HSROW a1 a2 a3 a4 a5 f0 f1 f2 f3 f4 f5 r0 r1 r2 r3 r4 r5
      subst e1 e2 e3 e4
      go_wp2_with fail
      refine HO.out.mono ?_
      rintro e w5 ⟨rfl, hb5⟩
      go_upto_region 6 with (refine wpList_store_row rfl 65 (.tmp 10) (.tmp 44) rfl _ (slabA k t) rfl rfl 65 _ (heap_alloc_new w5 _) (by rw [slabA_size]; exact info_slab) (by rw [slabA_zero, slabA_size, slabA_size]) (slabA_one k t) ?_)
      rw [World.setRow_alloc_new]
      obtain ⟨s1, s2, _⟩ := slab_new hb5 k t
      generalize w5.alloc (.cells (slabA k t) 65 (0, 0)) = W6 at *
      generalize w5.heap.size = sg at *
      have HB6 : Hid (Below W0.heap.size W0 W6) := HB3.out.trans ((show Below w3.heap.size w3 W6 from by exact s2 0).mono HB3.out.size)
      have HSG : Hid (∀ W, Below W6.drew.heap.size W6.drew W → W.cell? ⟨w.heap.size, 4, none⟩ = some (.slice (some ⟨gw, 0, none⟩) n cw) ∧ W.cell? ⟨gw, i, none⟩ = some (.int .u64 (uw : Int)) ∧ W.cell? ⟨sg, 0, none⟩ = some (.int .i64 (k : Int))) := fun W hb => by
        have h1 := HB6.out.drew.trans (hb.mono HB6.out.drew.size)
        exact ⟨(HCE.out _ h1).1.cells.2.2.2.2.1, HCH9.out _ h1, SlabAt.cls (SlabAt.below (w := W6.drew) (by exact s1) hb)⟩
      have HSC : Hid (∀ W, Below W6.drew.heap.size W6.drew W → Below W0.heap.size W0 W) := fun W hb => HB6.out.drew.trans (hb.mono HB6.out.drew.size)
      have hS := HSG.out W6.drew (Below.refl _ _)
      clear s1 s2 hb5 q0 q1 q2 q3 q4 q5 hcell HCH9
      go_wp2_with fail
      first | (go_region_held_law (fun W => W.cell? ⟨w.heap.size, 4, none⟩ = some (.slice (some ⟨gw, 0, none⟩) n cw) ∧ W.cell? ⟨gw, i, none⟩ = some (.int .u64 (uw : Int)) ∧ W.cell? ⟨sg, 0, none⟩ = some (.int .i64 (k : Int))) (first | exact hS | exact hS2)
        (first | (go_at_call 40; refine (HTI.out _).mono ?_; rintro e w7 ⟨rfl, hb7⟩; have hS2 := HSG.out _ hb7; have HB7 := Lib.hid (HSC.out _ hb7); clear hb7))) | fail "held"
      clear hS hS2 HSG HSC
      obtain ⟨a1, a2, a3, a4, a5⟩ := HCE.out w7 HB7.out
      have HPI := Lib.hid (HPU.out w7 a3)
      obtain ⟨q0, q1, q2, q3, q4, q5⟩ := a1.cells
      clear a1 a2 a3 a4 a5
      go_wp2_with fail
      refine HPI.out.mono ?_
      rintro e w8 ⟨g', c', rfl, hw8, hg8, h81, h82, hb8⟩
      have HB8 : Hid (Below W0.heap.size W0 w8) := HB7.out.trans (hb8.mono HB7.out.size)
      obtain ⟨a1, a2, a3, a4, a5⟩ := HCE.out w8 HB8.out
      have hg8' : w.heap.size + 2 ≤ g' := by have := HB7.out.size; have := hsz0.out; omega
      have HX9 : Hid (RpBox A B C (da : Int) (.slice (some ⟨g', 0, none⟩) n c') (.slice (some ⟨gh, 0, none⟩) n ch) w.heap.size (w8.setCell ⟨w.heap.size, 4, none⟩ (.slice (some ⟨g', 0, none⟩) n c'))) := a1.setW _
      have HY9 : Hid (RpBox 0 0 0 0 (.slice none 0 0) (.slice none 0 0) (w.heap.size + 1) (w8.setCell ⟨w.heap.size, 4, none⟩ (.slice (some ⟨g', 0, none⟩) n c'))) := a2.other (by omega) _ _
      have HW9 : Hid (WAt (w8.setCell ⟨w.heap.size, 4, none⟩ (.slice (some ⟨g', 0, none⟩) n c')) g' (ws.set i v)) := hw8.keep (by simp [World.setCell]) (Below.heap_setCell _ _ _ _ (by show g' ≠ w.heap.size; omega))
      have HH9 : Hid (WAt (w8.setCell ⟨w.heap.size, 4, none⟩ (.slice (some ⟨g', 0, none⟩) n c')) gh hs) := a4.keep (by simp [World.setCell]) (Below.heap_setCell _ _ _ _ (by have := HH.out.1; show gh ≠ w.heap.size; omega))
      have HB9 : Hid (Below w.heap.size w (w8.setCell ⟨w.heap.size, 4, none⟩ (.slice (some ⟨g', 0, none⟩) n c'))) := a5.setCell (by show w.heap.size ≤ w.heap.size; omega) _
      have p4 := a1.cells.2.2.2.2.1
      have pf := a1.fr 4
      clear q0 q1 q2 q3 q4 q5 a1 a2 a3 a4 a5 hb8 hw8
      go_upto_region 8 with fail
      generalize w8.setCell ⟨w.heap.size, 4, none⟩ (.slice (some ⟨g', 0, none⟩) n c') = W9 at *
      clear p4 pf
      obtain ⟨q0, q1, q2, q3, q4, q5⟩ := HX9.out.cells
      obtain ⟨r0, r1, r2, r3, r4, r5⟩ := HY9.out.cells
      have f0 := HY9.out.fr 0; have f1 := HY9.out.fr 1; have f2 := HY9.out.fr 2; have f3 := HY9.out.fr 3; have f4 := HY9.out.fr 4; have f5 := HY9.out.fr 5
      have HRW := Lib.hid (HY9.out.sets A B C (da : Int) (.slice (some ⟨g', 0, none⟩) n c') (.slice (some ⟨gh, 0, none⟩) n ch))
      have HWE := Lib.hid (WAt.keep (w' := ((((((W9.setCell ⟨w.heap.size + 1, 0, none⟩ (.int .i64 A)).setCell ⟨w.heap.size + 1, 1, none⟩ (.int .i64 B)).setCell ⟨w.heap.size + 1, 2, none⟩ (.int .i64 C)).setCell ⟨w.heap.size + 1, 3, none⟩ (.int .i64 (da : Int))).setCell ⟨w.heap.size + 1, 4, none⟩ (.slice (some ⟨g', 0, none⟩) n c')).setCell ⟨w.heap.size + 1, 5, none⟩ (.slice (some ⟨gh, 0, none⟩) n ch))) HW9.out (by rw [sets6_size]; exact Nat.le_refl _) (sets6_block _ _ (by omega) _ _ _ _ _ _))
      have HHE := Lib.hid (WAt.keep (w' := ((((((W9.setCell ⟨w.heap.size + 1, 0, none⟩ (.int .i64 A)).setCell ⟨w.heap.size + 1, 1, none⟩ (.int .i64 B)).setCell ⟨w.heap.size + 1, 2, none⟩ (.int .i64 C)).setCell ⟨w.heap.size + 1, 3, none⟩ (.int .i64 (da : Int))).setCell ⟨w.heap.size + 1, 4, none⟩ (.slice (some ⟨g', 0, none⟩) n c')).setCell ⟨w.heap.size + 1, 5, none⟩ (.slice (some ⟨gh, 0, none⟩) n ch))) HH9.out (by rw [sets6_size]; exact Nat.le_refl _) (sets6_block _ _ (by have := HH.out.1; omega) _ _ _ _ _ _))
      have HBE := Lib.hid (sets6_below (b := w.heap.size + 1) HB9.out (by omega) (.int .i64 A) (.int .i64 B) (.int .i64 C) (.int .i64 (da : Int)) (.slice (some ⟨g', 0, none⟩) n c') (.slice (some ⟨gh, 0, none⟩) n ch))
      go_wp2
      (try simp only [Exit.inBlock, Exit.then])
      refine bodyPost_ret (results_cell_tmp rfl _ _ (w.heap.size + 1) 35 _ (0, 0) _ rfl HRW.out Tryz.underlying35 rfl info_rpool) rfl ?_
      rw [HRR.out]
      exact ⟨g', c', gh, ch, rfl, HWE.out, HHE.out, .inr (by omega), .inl rfl, ⟨h81, h82⟩, HCH.out, HBE.out⟩
    · have h2 := HFWE.out
      rw [fndR_some hfi'] at h2
      simp only [Prod.mk.injEq] at h2
      obtain ⟨e3, e4⟩ := h2
      have HST := Lib.hid (HSTOP.out (by rw [← HR.out]; unfold P.Pl.take; dsimp only; rw [eh, ew]))
      clear HFHE HFWE eh ew hfi hfi'
      subst e1 e2 e3 e4
      have hi0 : ¬ ((i : Int) < 0) := by omega
      clear a1 a2 a3 a4 a5 HSTOP
      go_wp2
      (try simp only [Exit.inBlock, Exit.then])
      refine bodyPost_ret (results_cell_tmp rfl _ _ (w.heap.size + 1) 35 _ (0, 0) _ rfl HSROW.out Tryz.underlying35 rfl info_rpool) rfl ?_
      exact HST.out
end Go.Proofs.YtaceogpdjbikiaaGreatDoor
namespace Go.Proofs.YtaceogpdjbikiaaGreatDoor

open Go.RowKit

set_option maxHeartbeats 2000000 in
set_option maxRecDepth 100000 in
theorem rp_drop (w : World) (A B C : Int) (da : Nat) (gw cw gh ch n : Nat) (ws hs : List Nat) (x : Int) (hw : WAt w gw ws) (hh : WAt w gh hs) (hnw : ws.length = n) (hnh : hs.length = n) (h63 : n ≤ 63) (hcw : n ≤ cw ∧ cw ≤ maxLen) (hch : n ≤ ch ∧ ch ≤ maxLen) (h64w : ∀ i, i < n → ws.getD i 0 < 2 ^ 64) (h64h : ∀ i, i < n → hs.getD i 0 < 2 ^ 64) (hd : da ≤ 1000000) :
    Calls Tryz.prog 13 #[.agg #[.int .i64 A, .int .i64 B, .int .i64 C, .int .i64 (da : Int), .slice (some ⟨gw, 0, none⟩) n cw, .slice (some ⟨gh, 0, none⟩) n ch], .int .i64 x] w (PlPost w A B C da gw gh n (P.Pl.drop ⟨da, ws, hs⟩ x)) := by
  have HW := Lib.hid hw
  have HH := Lib.hid hh
  have HNW := Lib.hid hnw
  have HNH := Lib.hid hnh
  have H64 := Lib.hid h64w
  have H64H := Lib.hid h64h
  have HCW := Lib.hid hcw
  have HCH := Lib.hid hch
  have HFH : Hid (∀ W : World, WAt W gh hs → Calls Tryz.prog 46 #[.agg #[.int .i64 A, .int .i64 B, .int .i64 C, .int .i64 (da : Int), .slice (some ⟨gw, 0, none⟩) n cw, .slice (some ⟨gh, 0, none⟩) n ch], .slice (some ⟨gh, 0, none⟩) n ch, .int .i64 x] W fun e w' => e = .returned (.tuple #[.int .i64 (fndR da hs x).1, .int .i64 (fndR da hs x).2]) ∧ Below W.heap.size W w') := fun W hW => rp_find W A B C da _ _ gh ch n hs x hW hnh h63 hch.1 hch.2 hd
  have HBX0 : Hid (RpBox A B C (da : Int) (.slice (some ⟨gw, 0, none⟩) n cw) (.slice (some ⟨gh, 0, none⟩) n ch) w.heap.size ((w.alloc (.cells #[.int .i64 A, .int .i64 B, .int .i64 C, .int .i64 (da : Int), .slice (some ⟨gw, 0, none⟩) n cw, .slice (some ⟨gh, 0, none⟩) n ch] 35 (0, 0))).alloc (.cells #[.int .i64 0, .int .i64 0, .int .i64 0, .int .i64 0, .slice none 0 0, .slice none 0 0] 35 (0, 0)))) := heap_alloc2_old w _ _
  have HRC0 : Hid (RpBox 0 0 0 0 (.slice none 0 0) (.slice none 0 0) (w.heap.size + 1) ((w.alloc (.cells #[.int .i64 A, .int .i64 B, .int .i64 C, .int .i64 (da : Int), .slice (some ⟨gw, 0, none⟩) n cw, .slice (some ⟨gh, 0, none⟩) n ch] 35 (0, 0))).alloc (.cells #[.int .i64 0, .int .i64 0, .int .i64 0, .int .i64 0, .slice none 0 0, .slice none 0 0] 35 (0, 0)))) := heap_alloc2_new w _ _
  have HB0 : Hid (Below w.heap.size w ((w.alloc (.cells #[.int .i64 A, .int .i64 B, .int .i64 C, .int .i64 (da : Int), .slice (some ⟨gw, 0, none⟩) n cw, .slice (some ⟨gh, 0, none⟩) n ch] 35 (0, 0))).alloc (.cells #[.int .i64 0, .int .i64 0, .int .i64 0, .int .i64 0, .slice none 0 0, .slice none 0 0] 35 (0, 0)))) := ((Below.refl _ _).alloc (Nat.le_refl _) _).alloc (by simp) _
  have hsz0 := Lib.hid (show ((w.alloc (.cells #[.int .i64 A, .int .i64 B, .int .i64 C, .int .i64 (da : Int), .slice (some ⟨gw, 0, none⟩) n cw, .slice (some ⟨gh, 0, none⟩) n ch] 35 (0, 0))).alloc (.cells #[.int .i64 0, .int .i64 0, .int .i64 0, .int .i64 0, .slice none 0 0, .slice none 0 0] 35 (0, 0))).heap.size = w.heap.size + 2 by simp)
  clear hw hh hnw hnh h64w h64h hcw hch
  obtain ⟨R, hR⟩ : ∃ R, P.Pl.drop ⟨da, ws, hs⟩ x = R := ⟨_, rfl⟩
  rw [hR]
  have HR := Lib.hid hR
  clear hR
  go_enter Tryz.func13, Tryz.ntmps13
  go_upto_region 1 with fail
  generalize hW0 : (w.alloc (.cells #[.int .i64 A, .int .i64 B, .int .i64 C, .int .i64 (da : Int), .slice (some ⟨gw, 0, none⟩) n cw, .slice (some ⟨gh, 0, none⟩) n ch] 35 (0, 0))).alloc (.cells #[.int .i64 0, .int .i64 0, .int .i64 0, .int .i64 0, .slice none 0 0, .slice none 0 0] 35 (0, 0)) = W0 at *
  clear hW0
  have HCE : Hid (∀ W, Below W0.heap.size W0 W → RpBox A B C (da : Int) (.slice (some ⟨gw, 0, none⟩) n cw) (.slice (some ⟨gh, 0, none⟩) n ch) w.heap.size W ∧ RpBox 0 0 0 0 (.slice none 0 0) (.slice none 0 0) (w.heap.size + 1) W ∧ WAt W gw ws ∧ WAt W gh hs ∧ Below w.heap.size w W) := fun W hb => ⟨HBX0.out.below hb, HRC0.out.below hb, HW.out.below (HB0.out.trans (hb.mono HB0.out.size)), HH.out.below (HB0.out.trans (hb.mono HB0.out.size)), HB0.out.trans (hb.mono HB0.out.size)⟩
  obtain ⟨a1, a2, a3, a4, a5⟩ := HCE.out W0 (Below.refl _ _)
  obtain ⟨q0, q1, q2, q3, q4, q5⟩ := a1.cells
  have HF0 := Lib.hid (HFH.out W0 a4)
  clear a1 a2 a3 a4 a5
  obtain ⟨fh1, fh2, hfh⟩ : ∃ a b, fndR da hs x = (a, b) := ⟨_, _, rfl⟩
  rw [hfh] at HF0
  have HFHE := Lib.hid hfh
  clear hfh
  dsimp only at HF0
  go_wp2_with fail
  refine HF0.out.mono ?_
  rintro e w3 ⟨rfl, hb3⟩
  have HB3 := Lib.hid hb3
  obtain ⟨a1, a2, a3, a4, a5⟩ := HCE.out w3 hb3
  clear q0 q1 q2 q3 q4 q5 hb3
  obtain ⟨q0, q1, q2, q3, q4, q5⟩ := a1.cells
  have f0 := a2.fr 0; have f1 := a2.fr 1; have f2 := a2.fr 2; have f3 := a2.fr 3; have f4 := a2.fr 4; have f5 := a2.fr 5
  obtain ⟨r0, r1, r2, r3, r4, r5⟩ := a2.cells
  have HSTOP : Hid (R = (⟨da, ws, hs⟩, 7) → PlPost w A B C da gw gh n R (.returned (.tuple #[.agg #[.int .i64 A, .int .i64 B, .int .i64 C, .int .i64 (da : Int), .slice (some ⟨gw, 0, none⟩) n cw, .slice (some ⟨gh, 0, none⟩) n ch], .int .i64 7])) ((((((w3.setCell ⟨w.heap.size + 1, 0, none⟩ (.int .i64 A)).setCell ⟨w.heap.size + 1, 1, none⟩ (.int .i64 B)).setCell ⟨w.heap.size + 1, 2, none⟩ (.int .i64 C)).setCell ⟨w.heap.size + 1, 3, none⟩ (.int .i64 (da : Int))).setCell ⟨w.heap.size + 1, 4, none⟩ (.slice (some ⟨gw, 0, none⟩) n cw)).setCell ⟨w.heap.size + 1, 5, none⟩ (.slice (some ⟨gh, 0, none⟩) n ch))) := fun hR => by
    rw [hR]
    exact ⟨gw, cw, gh, ch, rfl, a3.keep (by rw [sets6_size]; exact Nat.le_refl _) (sets6_block _ _ (by have := HW.out.1; omega) _ _ _ _ _ _), a4.keep (by rw [sets6_size]; exact Nat.le_refl _) (sets6_block _ _ (by have := HH.out.1; omega) _ _ _ _ _ _), .inl rfl, .inl rfl, HCW.out, HCH.out, sets6_below a5 (by omega) _ _ _ _ _ _⟩
  have HSROW := Lib.hid (a2.sets A B C (da : Int) (.slice (some ⟨gw, 0, none⟩) n cw) (.slice (some ⟨gh, 0, none⟩) n ch))
  rcases P.find_cases da hs x with ⟨eh, hnoh⟩ | ⟨i, b, eh, hfi⟩
  · have h1 := HFHE.out
    rw [fndR_none hnoh] at h1
    simp only [Prod.mk.injEq] at h1
    obtain ⟨e1, e2⟩ := h1
    have HST := Lib.hid (HSTOP.out (by rw [← HR.out]; unfold P.Pl.drop; dsimp only; rw [eh]))
    clear HFHE hnoh eh
    subst e1 e2
    clear a1 a2 a3 a4 a5 HSTOP
    go_wp2
    (try simp only [Exit.inBlock, Exit.then])
    refine bodyPost_ret (results_cell_tmp rfl _ _ (w.heap.size + 1) 35 _ (0, 0) _ rfl HSROW.out Tryz.underlying35 rfl info_rpool) rfl ?_
    exact HST.out
  · have h1 := HFHE.out
    rw [fndR_some hfi] at h1
    simp only [Prod.mk.injEq] at h1
    obtain ⟨e1, e2⟩ := h1
    have hin : i < n := by have := hfi.1; rw [HNH.out] at this; exact this
    have hb16 : b < 16 := hfi.lt
    have h64 := H64.out i hin
    have h64h := H64H.out i hin
    obtain ⟨v, hv⟩ : ∃ v, S.drW (hs.getD i 0) (b : Int) = v := ⟨_, rfl⟩
    obtain ⟨y, hy⟩ : ∃ y, S.drW (ws.getD i 0) (b : Int) = y := ⟨_, rfl⟩
    have hv64 : v < 2 ^ 64 := by rw [← hv]; exact S.drW_lt h64h _
    have hy64 : y < 2 ^ 64 := by rw [← hy]; exact S.drW_lt h64 _
    have HRR : Hid (R = (⟨da, ws.set i y, hs.set i v⟩, 0)) := by
      show _ = _
      rw [← HR.out]
      unfold P.Pl.drop
      dsimp only
      rw [eh]
      dsimp only
      rw [hv, hy]
    have HNOT : Hid (S.has (ws.getD i 0) (b : Int) = false → ws.set i y = ws) := fun h => by
      rw [← hy, S.drop_not h]; exact set_get ws i
    have HTH : Hid (∀ W : World, Calls Tryz.prog 47 #[.int .u64 (hs.getD i 0 : Nat), .int .i64 (b : Int)] W fun e w' => e = .returned (.tuple #[.int .u64 (v : Int), .bool (S.has (hs.getD i 0) (b : Int))]) ∧ Below W.heap.size W w') := fun W => by
      have h := rs_drop (hs.getD i 0) (b : Int) W h64h
      rwa [hv] at h
    have HTW : Hid (∀ W : World, Calls Tryz.prog 47 #[.int .u64 (ws.getD i 0 : Nat), .int .i64 (b : Int)] W fun e w' => e = .returned (.tuple #[.int .u64 (y : Int), .bool (S.has (ws.getD i 0) (b : Int))]) ∧ Below W.heap.size W w') := fun W => by
      have h := rs_drop (ws.getD i 0) (b : Int) W h64
      rwa [hy] at h
    have HPH : Hid (∀ W : World, WAt W gh hs → Calls Tryz.prog 41 #[.slice (some ⟨gh, 0, none⟩) n ch, .int .i64 (i : Int), .int .u64 (v : Int)] W fun e w' => ∃ g' c', e = .returned (.slice (some ⟨g', 0, none⟩) n c') ∧ WAt w' g' (hs.set i v) ∧ W.heap.size ≤ g' ∧ n ≤ c' ∧ c' ≤ maxLen ∧ Below W.heap.size W w') := fun W hW => rp_put W gh ch n hs i v hW HNH.out h63 HCH.out.1 HCH.out.2 (all64 HNH.out H64H.out) hin hv64
    have HPW : Hid (∀ W : World, WAt W gw ws → Calls Tryz.prog 41 #[.slice (some ⟨gw, 0, none⟩) n cw, .int .i64 (i : Int), .int .u64 (y : Int)] W fun e w' => ∃ g' c', e = .returned (.slice (some ⟨g', 0, none⟩) n c') ∧ WAt w' g' (ws.set i y) ∧ W.heap.size ≤ g' ∧ n ≤ c' ∧ c' ≤ maxLen ∧ Below W.heap.size W w') := fun W hW => rp_put W gw cw n ws i y hW HNW.out h63 HCW.out.1 HCW.out.2 (all64 HNW.out H64.out) hin hy64
    have hcell := a4.2 i (by rw [HNH.out]; exact hin)
    have HCH9 : Hid (∀ W, WAt W gw ws → W.cell? ⟨gw, i, none⟩ = some (.int .u64 (ws.getD i 0 : Nat))) := fun W hb => hb.2 i (by rw [HNW.out]; exact hin)
    generalize S.has (hs.getD i 0) (b : Int) = tk at *
    generalize hhas : S.has (ws.getD i 0) (b : Int) = hw9 at *
    generalize hs.getD i 0 = u at *
    generalize ws.getD i 0 = uw at *
    have hi0 : ¬ ((i : Int) < 0) := by omega
    clear HFHE eh hfi hv hy hv64 hy64 h64 h64h HSTOP HSROW a1 a2 a3 a4 a5 f0 f1 f2 f3 f4 f5 r0 r1 r2 r3 r4 r5 hhas
    subst e1 e2
    go_wp2_with fail
    refine (HTH.out _).mono ?_
    rintro e w7 ⟨rfl, hb7⟩
    have HB7 : Hid (Below W0.heap.size W0 w7) := HB3.out.trans (hb7.mono HB3.out.size)
    obtain ⟨a1, a2, a3, a4, a5⟩ := HCE.out w7 HB7.out
    have HPI := Lib.hid (HPH.out w7 a4)
    clear q0 q1 q2 q3 q4 q5
    obtain ⟨q0, q1, q2, q3, q4, q5⟩ := a1.cells
    clear a1 a2 a3 a4 a5 hb7 hcell
    go_wp2_with fail
    refine HPI.out.mono ?_
    rintro e w8 ⟨g', c', rfl, hw8, hg8, h81, h82, hb8⟩
    have HB8 : Hid (Below W0.heap.size W0 w8) := HB7.out.trans (hb8.mono HB7.out.size)
    obtain ⟨a1, a2, a3, a4, a5⟩ := HCE.out w8 HB8.out
    have hg8' : w.heap.size + 2 ≤ g' := by have := HB7.out.size; have := hsz0.out; omega
    have hgl8 := hw8.1
    have HX9 : Hid (RpBox A B C (da : Int) (.slice (some ⟨gw, 0, none⟩) n cw) (.slice (some ⟨g', 0, none⟩) n c') w.heap.size (w8.setCell ⟨w.heap.size, 5, none⟩ (.slice (some ⟨g', 0, none⟩) n c'))) := a1.setH _
    have HY9 : Hid (RpBox 0 0 0 0 (.slice none 0 0) (.slice none 0 0) (w.heap.size + 1) (w8.setCell ⟨w.heap.size, 5, none⟩ (.slice (some ⟨g', 0, none⟩) n c'))) := a2.other (by omega) _ _
    have HH9 : Hid (WAt (w8.setCell ⟨w.heap.size, 5, none⟩ (.slice (some ⟨g', 0, none⟩) n c')) g' (hs.set i v)) := hw8.keep (by simp [World.setCell]) (Below.heap_setCell _ _ _ _ (by show g' ≠ w.heap.size; omega))
    have HW9 : Hid (WAt (w8.setCell ⟨w.heap.size, 5, none⟩ (.slice (some ⟨g', 0, none⟩) n c')) gw ws) := a3.keep (by simp [World.setCell]) (Below.heap_setCell _ _ _ _ (by have := HW.out.1; show gw ≠ w.heap.size; omega))
    have HB9 : Hid (Below w.heap.size w (w8.setCell ⟨w.heap.size, 5, none⟩ (.slice (some ⟨g', 0, none⟩) n c'))) := a5.setCell (by show w.heap.size ≤ w.heap.size; omega) _
    have p5 := a1.cells.2.2.2.2.2
    have pf := a1.fr 5
    clear q0 q1 q2 q3 q4 q5 a1 a2 a3 a4 a5 hb8 hw8
    go_upto_region 6 with fail
    generalize w8.setCell ⟨w.heap.size, 5, none⟩ (.slice (some ⟨g', 0, none⟩) n c') = W9 at *
    clear p5 pf
    obtain ⟨q0, q1, q2, q3, q4, q5⟩ := HX9.out.cells
    have hcw := HCH9.out _ HW9.out
    go_wp2_with fail
    refine (HTW.out _).mono ?_
    rintro e w10 ⟨rfl, hb10⟩
    have HX10 := Lib.hid (HX9.out.below hb10)
    have HY10 := Lib.hid (HY9.out.below hb10)
    have HW10 := Lib.hid (HW9.out.below hb10)
    have HH10 := Lib.hid (HH9.out.below hb10)
    have HB10 : Hid (Below w.heap.size w w10) := HB9.out.trans (hb10.mono HB9.out.size)
    clear q0 q1 q2 q3 q4 q5 hcw hb10
    obtain ⟨q0, q1, q2, q3, q4, q5⟩ := HX10.out.cells
    cases hw9 with
    | false =>
      have HYW := Lib.hid (HNOT.out rfl)
      obtain ⟨r0, r1, r2, r3, r4, r5⟩ := HY10.out.cells
      have f0 := HY10.out.fr 0; have f1 := HY10.out.fr 1; have f2 := HY10.out.fr 2; have f3 := HY10.out.fr 3; have f4 := HY10.out.fr 4; have f5 := HY10.out.fr 5
      have HRW := Lib.hid (HY10.out.sets A B C (da : Int) (.slice (some ⟨gw, 0, none⟩) n cw) (.slice (some ⟨g', 0, none⟩) n c'))
      have HWE := Lib.hid (WAt.keep (w' := ((((((w10.setCell ⟨w.heap.size + 1, 0, none⟩ (.int .i64 A)).setCell ⟨w.heap.size + 1, 1, none⟩ (.int .i64 B)).setCell ⟨w.heap.size + 1, 2, none⟩ (.int .i64 C)).setCell ⟨w.heap.size + 1, 3, none⟩ (.int .i64 (da : Int))).setCell ⟨w.heap.size + 1, 4, none⟩ (.slice (some ⟨gw, 0, none⟩) n cw)).setCell ⟨w.heap.size + 1, 5, none⟩ (.slice (some ⟨g', 0, none⟩) n c'))) HW10.out (by rw [sets6_size]; exact Nat.le_refl _) (sets6_block _ _ (by have := HW.out.1; omega) _ _ _ _ _ _))
      have HHE := Lib.hid (WAt.keep (w' := ((((((w10.setCell ⟨w.heap.size + 1, 0, none⟩ (.int .i64 A)).setCell ⟨w.heap.size + 1, 1, none⟩ (.int .i64 B)).setCell ⟨w.heap.size + 1, 2, none⟩ (.int .i64 C)).setCell ⟨w.heap.size + 1, 3, none⟩ (.int .i64 (da : Int))).setCell ⟨w.heap.size + 1, 4, none⟩ (.slice (some ⟨gw, 0, none⟩) n cw)).setCell ⟨w.heap.size + 1, 5, none⟩ (.slice (some ⟨g', 0, none⟩) n c'))) HH10.out (by rw [sets6_size]; exact Nat.le_refl _) (sets6_block _ _ (by omega) _ _ _ _ _ _))
      have HBE := Lib.hid (sets6_below (b := w.heap.size + 1) HB10.out (by omega) (.int .i64 A) (.int .i64 B) (.int .i64 C) (.int .i64 (da : Int)) (.slice (some ⟨gw, 0, none⟩) n cw) (.slice (some ⟨g', 0, none⟩) n c'))
      go_wp2
      (try simp only [Exit.inBlock, Exit.then])
      refine bodyPost_ret (results_cell_tmp rfl _ _ (w.heap.size + 1) 35 _ (0, 0) _ rfl HRW.out Tryz.underlying35 rfl info_rpool) rfl ?_
      rw [HRR.out, HYW.out]
      exact ⟨gw, cw, g', c', rfl, HWE.out, HHE.out, .inl rfl, .inr (by omega), HCW.out, ⟨h81, h82⟩, HBE.out⟩
    | true =>
      have HPX := Lib.hid (HPW.out w10 HW10.out)
      go_wp2_with fail
      refine HPX.out.mono ?_
      rintro e w11 ⟨g2, c2, rfl, hw11, hg11, h111, h112, hb11⟩
      have x11 := HX10.out.below hb11
      have y11 := HY10.out.below hb11
      have z11 := HH10.out.below hb11
      have hb12 := HB10.out.trans (hb11.mono HB10.out.size)
      have hg2 : w.heap.size + 2 ≤ g2 := by have := HH10.out.1; omega
      have HX12 : Hid (RpBox A B C (da : Int) (.slice (some ⟨g2, 0, none⟩) n c2) (.slice (some ⟨g', 0, none⟩) n c') w.heap.size (w11.setCell ⟨w.heap.size, 4, none⟩ (.slice (some ⟨g2, 0, none⟩) n c2))) := x11.setW _
      have HY12 : Hid (RpBox 0 0 0 0 (.slice none 0 0) (.slice none 0 0) (w.heap.size + 1) (w11.setCell ⟨w.heap.size, 4, none⟩ (.slice (some ⟨g2, 0, none⟩) n c2))) := y11.other (by omega) _ _
      have HW12 : Hid (WAt (w11.setCell ⟨w.heap.size, 4, none⟩ (.slice (some ⟨g2, 0, none⟩) n c2)) g2 (ws.set i y)) := hw11.keep (by simp [World.setCell]) (Below.heap_setCell _ _ _ _ (by show g2 ≠ w.heap.size; omega))
      have HH12 : Hid (WAt (w11.setCell ⟨w.heap.size, 4, none⟩ (.slice (some ⟨g2, 0, none⟩) n c2)) g' (hs.set i v)) := z11.keep (by simp [World.setCell]) (Below.heap_setCell _ _ _ _ (by show g' ≠ w.heap.size; omega))
      have HB12 : Hid (Below w.heap.size w (w11.setCell ⟨w.heap.size, 4, none⟩ (.slice (some ⟨g2, 0, none⟩) n c2))) := hb12.setCell (by show w.heap.size ≤ w.heap.size; omega) _
      have p4 := x11.cells.2.2.2.2.1
      have pf := x11.fr 4
      clear q0 q1 q2 q3 q4 q5 x11 y11 z11 hb12 hb11 hw11
      go_upto_region 9 with fail
      generalize w11.setCell ⟨w.heap.size, 4, none⟩ (.slice (some ⟨g2, 0, none⟩) n c2) = W12 at *
      clear p4 pf
      obtain ⟨q0, q1, q2, q3, q4, q5⟩ := HX12.out.cells
      obtain ⟨r0, r1, r2, r3, r4, r5⟩ := HY12.out.cells
      have f0 := HY12.out.fr 0; have f1 := HY12.out.fr 1; have f2 := HY12.out.fr 2; have f3 := HY12.out.fr 3; have f4 := HY12.out.fr 4; have f5 := HY12.out.fr 5
      have HRW := Lib.hid (HY12.out.sets A B C (da : Int) (.slice (some ⟨g2, 0, none⟩) n c2) (.slice (some ⟨g', 0, none⟩) n c'))
      have HWE := Lib.hid (WAt.keep (w' := ((((((W12.setCell ⟨w.heap.size + 1, 0, none⟩ (.int .i64 A)).setCell ⟨w.heap.size + 1, 1, none⟩ (.int .i64 B)).setCell ⟨w.heap.size + 1, 2, none⟩ (.int .i64 C)).setCell ⟨w.heap.size + 1, 3, none⟩ (.int .i64 (da : Int))).setCell ⟨w.heap.size + 1, 4, none⟩ (.slice (some ⟨g2, 0, none⟩) n c2)).setCell ⟨w.heap.size + 1, 5, none⟩ (.slice (some ⟨g', 0, none⟩) n c'))) HW12.out (by rw [sets6_size]; exact Nat.le_refl _) (sets6_block _ _ (by omega) _ _ _ _ _ _))
      have HHE := Lib.hid (WAt.keep (w' := ((((((W12.setCell ⟨w.heap.size + 1, 0, none⟩ (.int .i64 A)).setCell ⟨w.heap.size + 1, 1, none⟩ (.int .i64 B)).setCell ⟨w.heap.size + 1, 2, none⟩ (.int .i64 C)).setCell ⟨w.heap.size + 1, 3, none⟩ (.int .i64 (da : Int))).setCell ⟨w.heap.size + 1, 4, none⟩ (.slice (some ⟨g2, 0, none⟩) n c2)).setCell ⟨w.heap.size + 1, 5, none⟩ (.slice (some ⟨g', 0, none⟩) n c'))) HH12.out (by rw [sets6_size]; exact Nat.le_refl _) (sets6_block _ _ (by omega) _ _ _ _ _ _))
      have HBE := Lib.hid (sets6_below (b := w.heap.size + 1) HB12.out (by omega) (.int .i64 A) (.int .i64 B) (.int .i64 C) (.int .i64 (da : Int)) (.slice (some ⟨g2, 0, none⟩) n c2) (.slice (some ⟨g', 0, none⟩) n c'))
      go_wp2
      (try simp only [Exit.inBlock, Exit.then])
      refine bodyPost_ret (results_cell_tmp rfl _ _ (w.heap.size + 1) 35 _ (0, 0) _ rfl HRW.out Tryz.underlying35 rfl info_rpool) rfl ?_
      rw [HRR.out]
      exact ⟨g2, c2, g', c', rfl, HWE.out, HHE.out, .inr (by omega), .inr (by omega), ⟨h111, h112⟩, ⟨h81, h82⟩, HBE.out⟩
end Go.Proofs.YtaceogpdjbikiaaGreatDoor
namespace Go.Proofs.YtaceogpdjbikiaaGreatDoor

open Go.RowKit

theorem wat_made {w : World} {g s : Nat} (h : w.heap[g]? = some (.cells (madeCells #[.int .u64 0] s) 53 (0, 0))) : WAt w g (List.replicate s 0) := by
  refine ⟨(Array.getElem?_eq_some_iff.1 h).1, fun i hi => ?_⟩
  rw [List.length_replicate] at hi
  rw [cell_of_row w g i _ _ _ h, ← Array.getElem?_toList, toList_madeCells_one, List.getElem?_replicate, if_pos hi, List.getD_eq_getElem?_getD, List.getElem?_replicate, if_pos hi]; rfl
theorem four_new (w : World) (o1 o2 o3 o4 : Obj) : (((((w.alloc o1).alloc o2).alloc o3).alloc o4).drew.heap[w.heap.size + 1]? = some o2) ∧ (((((w.alloc o1).alloc o2).alloc o3).alloc o4).drew.heap[w.heap.size + 1 + 1]? = some o3) ∧ (((((w.alloc o1).alloc o2).alloc o3).alloc o4).drew.heap[w.heap.size + 1 + 1 + 1]? = some o4) ∧ Below w.heap.size w ((((w.alloc o1).alloc o2).alloc o3).alloc o4).drew := by
  have e1 : (w.alloc o1).heap.size = w.heap.size + 1 := by simp
  have e2 : ((w.alloc o1).alloc o2).heap.size = w.heap.size + 1 + 1 := by simp
  have e3 : (((w.alloc o1).alloc o2).alloc o3).heap.size = w.heap.size + 1 + 1 + 1 := by simp
  have h2 := heap_alloc_new (w.alloc o1) o2
  have h3 := heap_alloc_new ((w.alloc o1).alloc o2) o3
  have h4 := heap_alloc_new (((w.alloc o1).alloc o2).alloc o3) o4
  rw [e1] at h2
  rw [e2] at h3
  rw [e3] at h4
  refine ⟨?_, ?_, h4, Below.drew ?_⟩
  · exact (Below.heap_alloc _ _ _ (by omega)).trans ((Below.heap_alloc _ _ _ (by omega)).trans h2)
  · exact (Below.heap_alloc _ _ _ (by omega)).trans h3
  · exact ((((Below.refl _ _).alloc (Nat.le_refl _) _).alloc (by omega) _).alloc (by omega) _).alloc (by omega) _
set_option maxHeartbeats 1000000 in
set_option maxRecDepth 100000 in
theorem rp_new (w : World) (A C D : Int) (s : Nat) (hs : s ≤ 63) :
    Calls Tryz.prog 9 #[.agg #[.int .i64 A, .int .i64 (s : Int), .int .i64 C, .int .i64 D]] w fun e w' => ∃ gw gh, e = .returned (.agg #[.int .i64 A, .int .i64 (s : Int), .int .i64 C, .int .i64 D, .slice (some ⟨gw, 0, none⟩) s s, .slice (some ⟨gh, 0, none⟩) s s]) ∧ WAt w' gw (List.replicate s 0) ∧ WAt w' gh (List.replicate s 0) ∧ w.heap.size ≤ gw ∧ w.heap.size ≤ gh ∧ Below w.heap.size w w' := by
  have hmk : ∀ W : World, (Instr.makeSlice 33 (.int .i64 (s : Int)) (.int .i64 (s : Int))).run Tryz.prog W = .ok (.slice (some ⟨W.heap.size, 0, none⟩) s s) (W.alloc (.cells (madeCells #[.int .u64 0] s) 53)) := fun W => run_make_row' 33 53 (.int .u64 0) 8 Tryz.underlying33 info_u64 rfl .i64 .i64 s (by omega) (by omega) W
  go_enter Tryz.func9, Tryz.ntmps9
  go_upto_region 1 with fail
  go_region_with (fail)
  all_goals
    go_wp2
    (try simp only [Exit.inBlock, Exit.then])
    refine bodyPost_ret (results_cell_row rfl _ _ (w.heap.size + 1) 35 _ (0, 0) _ rfl (four_new w _ _ _ _).1 Tryz.underlying35 rfl info_rpool) rfl ?_
    first
      | exact ⟨w.heap.size + 1 + 1, w.heap.size + 1 + 1 + 1, rfl, wat_made (four_new w _ _ _ _).2.1, wat_made (four_new w _ _ _ _).2.2.1, by omega, by omega, (four_new w _ _ _ _).2.2.2⟩
      | exact ⟨w.heap.size + 1 + 1 + 1, w.heap.size + 1 + 1, rfl, wat_made (four_new w _ _ _ _).2.2.1, wat_made (four_new w _ _ _ _).2.1, by omega, by omega, (four_new w _ _ _ _).2.2.2⟩
end Go.Proofs.YtaceogpdjbikiaaGreatDoor
namespace Go.Proofs.YtaceogpdjbikiaaGreatDoor

open Go.RowKit

set_option maxRecDepth 100000 in
theorem rs_list_new (n : Nat) (w : World) :
    Calls Tryz.prog 52 #[.int .u64 n] w (LsNew w (S.ls (S.tkn n) 16)) := by
  obtain ⟨i0, hi, hz0, hz1, hz2⟩ := info_parts info_i64
  have HOF := fun W => Lib.hid (rs_of n W)
  generalize S.tkn n = t at *
  generalize S.cls n = c at *
  generalize S.rgt n = rr at *
  go_enter Tryz.func52, Tryz.ntmps52
  go_wp2_with fail
  refine ((HOF _).out).mono ?_
  clear HOF
  rintro e w5 ⟨rfl, hb5⟩
  go_upto_region 2 with (refine wpList_store_row rfl 65 (.tmp 3) (.tmp 10) rfl _ (slabA c t) rfl rfl 65 _ (heap_alloc_new w5 _) (by rw [slabA_size]; exact info_slab) (by rw [slabA_zero, slabA_size, slabA_size]) (slabA_one c t) ?_)
  rw [World.setRow_alloc_new]
  obtain ⟨s1, s2, _⟩ := slab_new hb5 c t
  generalize w5.alloc (.cells (slabA c t) 65 (0, 0)) = W6 at *
  generalize w5.heap.size = g at *
  have S1 := Lib.hid s1; have S2 := Lib.hid s2
  clear s1 s2 hb5
  go_wp2_with fail
  go_loopw [5, 6] (fun l k wr => ∃ j : Nat, j ≤ 16 ∧ k = .int .i64 j ∧ wr.ownsRow W6.heap.size 3 1 l (S.ls t j).length ((S.ls t j).map (Value.int .i64)) ∧ Below W6.heap.size W6 wr) (fun _ k _ => 16 - (intOf k).toNat)
  case atStart => exact ⟨0, by omega, rfl, owns_nil, Below.refl _ _⟩
  case round =>
    obtain ⟨j, hj, rfl, hown, hbel⟩ := hrel
    have HO := Lib.hid hown
    have HBE := Lib.hid hbel
    obtain ⟨a0, c0, rfl, _, _⟩ := owns_form hown
    have hlen : (S.ls t j).length ≤ 16 := by rw [S.ls_length]; exact Nat.le_trans (S.pc_le t j) (by omega)
    clear hown hbel
    by_cases hlt : j < 16
    · have hcell : wr.cell? ⟨g, 1 + j, none⟩ = some (.bool (t.testBit j)) := (S1.out.below HBE.out).bit hlt
      have HSU : Hid (S.ls t (j + 1) = S.ls t j ++ (if t.testBit j then [(j : Int)] else [])) := rfl
      cases hbit : t.testBit j with
      | false =>
        rw [hbit] at hcell
        have HS2 : Hid (S.ls t (j + 1) = S.ls t j) := by show _ = _; rw [HSU.out, hbit]; simp
        clear hbit
        generalize S.ls t j = L at *
        go_wp2
        go_roundw
        case rel => exact ⟨j + 1, by omega, by go_num, by rw [HS2.out]; exact owns_below HO.out (below_drewN' (Below.refl _ _) 0), HBE.out⟩
        case measure => simp [intOf]; omega
      | true =>
        rw [hbit] at hcell
        have HS2 : Hid (S.ls t (j + 1) = S.ls t j ++ [(j : Int)]) := by show _ = _; rw [HSU.out, hbit]; simp
        clear hbit
        generalize S.ls t j = L at *
        have HO3 : Hid (∀ o, (wr.alloc o).ownsRow W6.heap.size 3 1 (.slice a0 L.length c0) L.length (L.map (Value.int .i64))) := fun o => owns_below HO.out ((Below.refl _ _).alloc (Nat.le_refl _) o)
        have HB3 : Hid (∀ o, Below W6.heap.size W6 (wr.alloc o)) := fun o => HBE.out.alloc HBE.out.size o
        have HI1 : Hid (∀ t, IsInts .i64 (wr.alloc (.cells #[.int .i64 (j : Int)] t (0, 0))) (.slice (some ⟨wr.heap.size, 0, none⟩) 1 1) [(j : Int)]) := fun t => isInts_new .i64 wr [(j : Int)] t (0, 0) (by intro z hz; obtain rfl := List.mem_singleton.1 hz; exact wf_small (by omega) (by omega)) (by unfold maxLen; simp)
        go_wp2_with (at_builtin; refine wpList_append_ints rfl (.tmp 20) (.tmp 22) 37 rfl .i64 W6.heap.size 3 i0 _ 8 Tryz.underlying37 hi hz0 hz1 hz2 rfl _ _ _ rfl (HO3.out _) _ 1 1 _ rfl (HI1.out _) (by unfold maxLen; omega) (by omega) (HB3.out _).size ?_)
        intro v' w7 hown' hgr
        have HO5 : Hid (w7.ownsRow W6.heap.size 3 1 v' (S.ls t (j + 1)).length ((S.ls t (j + 1)).map (Value.int .i64))) := by
          show World.ownsRow _ _ _ _ _ _ _
          rw [HS2.out]
          simpa using hown'
        have HB5 : Hid (Below W6.heap.size W6 w7) := (HB3.out _).grown hgr (HB3.out _).size (fun k hk => owns_block HO.out k hk)
        clear hown' hgr
        go_wp2
        go_roundw
        case rel => exact ⟨j + 1, by omega, by go_num, HO5.out, HB5.out⟩
        case measure => simp [intOf]; omega
    · obtain rfl : j = 16 := by omega
      have HI := Lib.hid (IsInts.of_own HO.out (ls_wf t 16 (Nat.le_refl _)))
      have HNW : Hid (∀ k, (Value.slice a0 (S.ls t 16).length c0).ownBlock = some k → w.heap.size ≤ k) := fun k hk => Nat.le_trans (S2.out 0).size (owns_block HO.out k hk)
      have HB9 : Hid (Below w.heap.size w wr) := (S2.out 0).trans (HBE.out.mono (S2.out 0).size)
      go_wp2
      go_ret
      exact ⟨_, _, rfl, HI.out, HB9.out, HNW.out⟩
/-- What All keeps: what is told so far, a slab's list, and the slab. -/
structure AlSt (W0 : World) (lv : Value) (L : List Int) (lsv : Value) (ls : List Int) (sg k t : Nat) (w : World) : Prop where
  own : w.ownsRow W0.heap.size 3 1 lv L.length (L.map (Value.int .i64))
  below : Below W0.heap.size W0 w
  ints : IsInts .i64 w lsv ls
  slab : SlabAt w sg k t
  ap1 : ∀ gg, lv.ownBlock = some gg → lsv.ownBlock ≠ some gg
  ap2 : ∀ gg, lv.ownBlock = some gg → gg ≠ sg
theorem AlSt.step {W0 : World} {lv : Value} {L : List Int} {b2 o2 n c2 : Nat} {ls : List Int} {sg k t : Nat} {w w4 w5 : World} {g5 cap5 : Nat} {z : Int} {o : Obj} (h : AlSt W0 lv L (.slice (some ⟨b2, o2, none⟩) n c2) ls sg k t w) (hb2 : b2 < w.heap.size) (hb : Below w.heap.size w w4)
    (hw5 : w5.ownsRow W0.heap.size 3 1 (.slice (some ⟨g5, 0, none⟩) (L.length + 1) cap5) (L.length + 1) (L.map (Value.int .i64) ++ [.int .i64 z])) (gr : (w4.alloc o).grownBy w5 lv.ownBlock) (at5 : lv.ownBlock = some g5 ∨ g5 = (w4.alloc o).heap.size) :
    AlSt W0 (.slice (some ⟨g5, 0, none⟩) (L.length + 1) cap5) (L ++ [z]) (.slice (some ⟨b2, o2, none⟩) n c2) ls sg k t w5 := by
  have hsz : (w4.alloc o).heap.size = w4.heap.size + 1 := by simp
  have hs4 := hb.size
  have hsl := h.slab.lt
  have hlt : ∀ b, b < w.heap.size → lv.ownBlock ≠ some b → w5.heap[b]? = w.heap[b]? := fun b hbl hne =>
    (gr.block b (by omega) (fun e => hne e.symm)).trans ((Below.heap_alloc _ _ _ (by omega)).trans (hb.block b hbl))
  have n1 : lv.ownBlock ≠ some b2 := fun e => h.ap1 b2 e rfl
  have n2 : lv.ownBlock ≠ some sg := fun e => h.ap2 sg e rfl
  refine ⟨by rw [List.length_append, List.map_append]; exact hw5, ?_, h.ints.keep (S := [b2]) (fun k hk => by rw [List.mem_singleton.1 hk]; exact hlt b2 hb2 n1) (List.mem_singleton_self _), (hlt sg hsl n2).trans h.slab, fun gg hg e => ?_, fun gg hg e => ?_⟩
  · refine (h.below.trans ((hb.mono h.below.size).alloc (Nat.le_trans h.below.size hs4) o)).grown gr (by have := h.below.size; omega) (fun k hk => owns_block h.own k hk)
  · have e1 : g5 = gg := by simpa [Value.ownBlock] using hg
    have e2 : b2 = gg := by simpa [Value.ownBlock] using e
    rcases at5 with h5 | h5
    · exact n1 (by rw [h5, e1, e2])
    · omega
  · have e1 : g5 = gg := by simpa [Value.ownBlock] using hg
    rcases at5 with h5 | h5
    · exact n2 (by rw [h5, e1, e])
    · omega
set_option maxHeartbeats 2000000 in
set_option maxRecDepth 100000 in
theorem rp_all (w : World) (A B C : Int) (da : Nat) (gw cw gh ch n : Nat) (ws : List Nat) (hw : WAt w gw ws) (hnw : ws.length = n) (h63 : n ≤ 63) (hcw : n ≤ cw ∧ cw ≤ maxLen) (hd : da ≤ 1000000) :
    Calls Tryz.prog 20 #[.agg #[.int .i64 A, .int .i64 B, .int .i64 C, .int .i64 (da : Int), .slice (some ⟨gw, 0, none⟩) n cw, .slice (some ⟨gh, 0, none⟩) n ch]] w (LsPost w (P.all da ws n)) := by
  obtain ⟨i0, hi, hz0, hz1, hz2⟩ := info_parts info_i64
  have HW := Lib.hid hw
  have HNW := Lib.hid hnw
  have HWF := Lib.hid (all_wf hd ws (by omega) n (by omega))
  have HCO : Hid (∀ k, (P.all da ws k).length ≤ 16 * k) := fun k => by rw [P.all_length]; exact count_le ws k
  have HLS : Hid (∀ (u : Nat) (W : World), Calls Tryz.prog 52 #[.int .u64 (u : Int)] W (LsNew W (S.ls (S.tkn u) 16))) := fun u W => rs_list_new u W
  have HOF : Hid (∀ (u : Nat) (W : World), Calls Tryz.prog 26 #[.int .u64 (u : Int)] W fun e w' => e = .returned (.tuple #[.agg (slabA (S.cls u) (S.tkn u)), .bool (S.rgt u)]) ∧ Below W.heap.size W w') := fun u W => rs_of u W
  have HPL : Hid (∀ (W : World) (s k j : Nat), s ≤ 63 → j ≤ 16 → Calls Tryz.prog 42 #[.agg #[.int .i64 A, .int .i64 B, .int .i64 C, .int .i64 (da : Int), .slice (some ⟨gw, 0, none⟩) n cw, .slice (some ⟨gh, 0, none⟩) n ch], .int .i64 (s : Int), .int .i64 (k : Int), .int .i64 (j : Int)] W fun e w' => e = .returned (.int .i64 (P.off da s k j : Nat)) ∧ Below W.heap.size W w') := fun W s k j hs hj => rp_place W A B C da _ _ s k j hd hs hj
  have HBX0 : Hid (RpBox A B C (da : Int) (.slice (some ⟨gw, 0, none⟩) n cw) (.slice (some ⟨gh, 0, none⟩) n ch) w.heap.size (w.alloc (.cells #[.int .i64 A, .int .i64 B, .int .i64 C, .int .i64 (da : Int), .slice (some ⟨gw, 0, none⟩) n cw, .slice (some ⟨gh, 0, none⟩) n ch] 35 (0, 0)))) := heap_alloc_new w _
  have HB0 : Hid (Below w.heap.size w (w.alloc (.cells #[.int .i64 A, .int .i64 B, .int .i64 C, .int .i64 (da : Int), .slice (some ⟨gw, 0, none⟩) n cw, .slice (some ⟨gh, 0, none⟩) n ch] 35 (0, 0)))) := (Below.refl _ _).alloc (Nat.le_refl _) _
  clear hw hnw hd
  go_enter Tryz.func20, Tryz.ntmps20
  go_upto_region 1 with fail
  generalize hW0 : w.alloc (.cells #[.int .i64 A, .int .i64 B, .int .i64 C, .int .i64 (da : Int), .slice (some ⟨gw, 0, none⟩) n cw, .slice (some ⟨gh, 0, none⟩) n ch] 35 (0, 0)) = W0 at *
  clear hW0
  go_wp2_with fail
  go_loopw [3, 4] (fun lv kv wr => ∃ i : Nat, i ≤ n ∧ kv = .int .i64 i ∧ Hid (wr.ownsRow W0.heap.size 3 1 lv (P.all da ws i).length ((P.all da ws i).map (Value.int .i64))) ∧ Hid (Below W0.heap.size W0 wr)) (fun _ kv _ => n - (intOf kv).toNat)
  case atStart => exact ⟨0, by omega, rfl, owns_nil, Below.refl _ _⟩
  case round =>
    obtain ⟨i, hi', rfl, HO, HB⟩ := hrel
    have HBR : Hid (Below w.heap.size w wr) := HB0.out.trans (HB.out.mono HB0.out.size)
    obtain ⟨q0, q1, q2, q3, q4, q5⟩ := (HBX0.out.below HB.out).cells
    by_cases hlt : i < n
    · have hc := (HW.out.below HBR.out).2 i (by rw [HNW.out]; exact hlt)
      have HL := Lib.hid (HLS.out (ws.getD i 0) wr)
      obtain ⟨k, hk⟩ : ∃ k, S.cls (ws.getD i 0) = k := ⟨_, rfl⟩
      have HAN : Hid (P.all da ws (i + 1) = P.all da ws i ++ offs da i k (S.ls (S.tkn (ws.getD i 0)) 16)) := by show _ = _; rw [← hk]; rfl
      have HRG : Hid (∀ z ∈ S.ls (S.tkn (ws.getD i 0)) 16, 0 ≤ z ∧ z < ((16 : Nat) : Int)) := fun z hz => S.ls_range _ 16 z hz
      have hl16 : (S.ls (S.tkn (ws.getD i 0)) 16).length ≤ 16 := by rw [S.ls_length]; exact S.pc_le _ 16
      have HCK := Lib.hid (HCO.out i)
      have HOI : Hid (∀ W : World, Calls Tryz.prog 26 #[.int .u64 (ws.getD i 0 : Nat)] W fun e w' => e = .returned (.tuple #[.agg (slabA k (S.tkn (ws.getD i 0))), .bool (S.rgt (ws.getD i 0))]) ∧ Below W.heap.size W w') := fun W => by rw [← hk]; exact HOF.out _ W
      have HUC : Hid (∀ W, Below wr.heap.size wr W → W.cell? ⟨gw, i, none⟩ = some (.int .u64 (ws.getD i 0 : Nat))) := fun W hb => (HW.out.below (HBR.out.trans (hb.mono HBR.out.size))).2 i (by rw [HNW.out]; exact hlt)
      have HLT : Hid (i < n) := hlt
      clear hk
      generalize S.rgt (ws.getD i 0) = rr at *
      generalize hls : S.ls (S.tkn (ws.getD i 0)) 16 = ls at *
      clear hls
      generalize S.tkn (ws.getD i 0) = t at *
      generalize ws.getD i 0 = u at *
      generalize P.all da ws i = acc at *
      go_wp2_with fail
      refine HL.out.mono ?_
      rintro e w2 ⟨A2, c2, rfl, hi2, hb2, hnw2⟩
      have hbw2 := HB.out.trans (hb2.mono HB.out.size)
      have hc2 := HUC.out w2 hb2
      clear q0 q1 q2 q3 q4 q5 hc
      obtain ⟨q0, q1, q2, q3, q4, q5⟩ := (HBX0.out.below hbw2).cells
      go_wp2_with fail
      refine (HOI.out w2).mono ?_
      rintro e w5 ⟨rfl, hb5⟩
      go_upto_region 7 with (refine wpList_store_row rfl 65 (.tmp 6) (.tmp 29) rfl _ (slabA k t) rfl rfl 65 _ (heap_alloc_new w5 _) (by rw [slabA_size]; exact info_slab) (by rw [slabA_zero, slabA_size, slabA_size]) (slabA_one k t) ?_)
      rw [World.setRow_alloc_new]
      have hsgl : w5.heap.size < (w5.alloc (.cells (slabA k t) 65 (0, 0))).heap.size := by simp
      obtain ⟨s1, s2, _⟩ := slab_new hb5 k t
      have hsg9 : wr.heap.size ≤ w5.heap.size := by have := hb2.size; have := hb5.size; omega
      generalize w5.alloc (.cells (slabA k t) 65 (0, 0)) = W6 at *
      generalize w5.heap.size = sg at *
      have hb26 : Below w2.heap.size w2 W6 := by exact s2 0
      have HST : Hid (AlSt W0 u3 acc (.slice A2 ls.length c2) ls sg k t W6) := ⟨owns_below (owns_below HO.out hb2) hb26, hbw2.trans (hb26.mono hbw2.size), hi2.below hb26, s1, fun gg hg e => by
          have h1 := hnw2 gg e
          have h2 := (HO.out.lt gg hg).2
          omega, fun gg hg e => by
          have h2 := (HO.out.lt gg hg).2
          omega⟩
      clear s1 s2 hb5 hb26 hi2 hb2 hnw2 hc2 q0 q1 q2 q3 q4 q5 hbw2 hsgl hsg9
      go_wp2_with fail
      go_loopw [3, 8] (fun lv jv wq => ∃ j : Nat, j ≤ ls.length ∧ jv = .int .i64 j ∧ Hid (AlSt W0 lv (acc ++ offs da i k (ls.take j)) (.slice A2 ls.length c2) ls sg k t wq)) (fun _ jv _ => ls.length - (intOf jv).toNat)
      case atStart => exact ⟨0, Nat.zero_le _, rfl, by rw [List.take_zero, show offs da i k [] = [] from rfl, List.append_nil]; exact HST⟩
      case round =>
        obtain ⟨j, hj, rfl, HS⟩ := hrel
        by_cases hltj : j < ls.length
        · obtain ⟨b2, o2, rfl, -, hcc1, hcc2, hz⟩ := HS.out.ints.at6 hltj
          have HTS : Hid (ls.take (j + 1) = ls.take j ++ [ls.getD j 0]) := by
            show _ = _
            rw [List.take_succ_eq_append_getElem hltj, List.getD_eq_getElem?_getD, List.getElem?_eq_getElem hltj]; rfl
          have hzr := HRG.out (ls.getD j 0) (by rw [List.getD_eq_getElem?_getD, List.getElem?_eq_getElem hltj]; exact List.getElem_mem _)
          obtain ⟨z, hzz⟩ := Int.eq_ofNat_of_zero_le hzr.1
          rw [hzz] at hz HTS
          have HZZ := Lib.hid hzz
          have hz16 : z ≤ 16 := by omega
          have HPI : Hid (∀ W : World, Calls Tryz.prog 42 #[.agg #[.int .i64 A, .int .i64 B, .int .i64 C, .int .i64 (da : Int), .slice (some ⟨gw, 0, none⟩) n cw, .slice (some ⟨gh, 0, none⟩) n ch], .int .i64 (i : Int), .int .i64 (k : Int), .int .i64 (z : Int)] W fun e w' => e = .returned (.int .i64 (P.off da i k z : Nat)) ∧ Below W.heap.size W w') := fun W => HPL.out W i k z (by have := HLT.out; omega) hz16
          have hbl : b2 < wr.heap.size := World.block_lt_of_cell? wr _ hz
          have HLE : Hid ((acc ++ offs da i k (ls.take j)).length ≤ 2000) := by
            show _ ≤ _
            have := HCK.out
            have := HLT.out
            rw [List.length_append, offs, List.length_map, List.length_take]; omega
          have HNX : Hid (acc ++ offs da i k (ls.take j) ++ [((P.off da i k z : Nat) : Int)] = acc ++ offs da i k (ls.take (j + 1))) := by
            show _ = _
            rw [HTS.out]; simp [offs]
          obtain ⟨a3, cp3, rfl, hcp1, hcp2⟩ := owns_form HS.out.own
          have hle := HLE.out
          have hm1 : (acc ++ offs da i k (ls.take j)).length + 1 ≤ maxLen := by unfold maxLen; omega
          have hm2 : ((acc ++ offs da i k (ls.take j)).length + 1) * 8 ≤ 140737488355328 := by omega
          generalize acc ++ offs da i k (ls.take j) = cur at *
          generalize hnx : acc ++ offs da i k (ls.take (j + 1)) = nxt at *
          have HNXT := Lib.hid hnx
          clear hnx
          generalize P.off da i k z = oz at *
          have HSTP : Hid (∀ w4, Below wr.drew.heap.size wr.drew w4 → (∀ o, (w4.alloc o).ownsRow W0.heap.size 3 1 (.slice a3 cur.length cp3) cur.length (cur.map (Value.int .i64)) ∧ W0.heap.size ≤ (w4.alloc o).heap.size) ∧ ∀ o g5 cap5 w5, World.ownsRow w5 W0.heap.size 3 1 (.slice (some ⟨g5, 0, none⟩) (cur.length + 1) cap5) (cur.length + 1) (cur.map (Value.int .i64) ++ [.int .i64 (oz : Int)]) → (w4.alloc o).grownBy w5 (Value.slice a3 cur.length cp3).ownBlock → ((Value.slice a3 cur.length cp3).ownBlock = some g5 ∨ g5 = (w4.alloc o).heap.size) → AlSt W0 (.slice (some ⟨g5, 0, none⟩) (cur.length + 1) cap5) nxt (.slice (some ⟨b2, o2, none⟩) ls.length c2) ls sg k t w5) := by
            intro w4 hb4
            have hb : Below wr.heap.size wr w4 := (Below.refl _ _).drew.trans hb4
            refine ⟨fun o => ⟨owns_below HS.out.own (hb.alloc hb.size o), ?_⟩, fun o g5 cap5 w5 h1 h2 h3 => ?_⟩
            · have := HS.out.below.size
              have := hb.size
              have : (w4.alloc o).heap.size = w4.heap.size + 1 := by simp
              omega
            · rw [← HNX.out]; exact HS.out.step hbl hb h1 h2 h3
          have HSE : Hid (∀ lv W, AlSt W0 lv nxt (.slice (some ⟨b2, o2, none⟩) ls.length c2) ls sg k t W → W.cell? ⟨w.heap.size, 0, none⟩ = some (.int .i64 A) ∧ W.cell? ⟨w.heap.size, 1, none⟩ = some (.int .i64 B) ∧ W.cell? ⟨w.heap.size, 2, none⟩ = some (.int .i64 C) ∧ W.cell? ⟨w.heap.size, 3, none⟩ = some (.int .i64 (da : Int)) ∧ W.cell? ⟨w.heap.size, 4, none⟩ = some (.slice (some ⟨gw, 0, none⟩) n cw) ∧ W.cell? ⟨w.heap.size, 5, none⟩ = some (.slice (some ⟨gh, 0, none⟩) n ch) ∧ W.cell? ⟨sg, 0, none⟩ = some (.int .i64 (k : Int)) ∧ W.cell? ⟨b2, o2 + j, none⟩ = some (.int .i64 (z : Int))) := fun lv W h => by
            obtain ⟨x0, x1, x2, x3, x4, x5⟩ := (HBX0.out.below h.below).cells
            obtain ⟨_, _, e7, _, _, _, h7⟩ := h.ints.at6 hltj
            simp only [Option.some.injEq, Addr.mk.injEq] at e7
            obtain ⟨rfl, rfl, _⟩ := e7
            rw [HZZ.out] at h7
            exact ⟨x0, x1, x2, x3, x4, x5, h.slab.cls, h7⟩
          have HSD : Hid (∀ W, Below wr.drew.heap.size wr.drew W → W.cell? ⟨w.heap.size, 0, none⟩ = some (.int .i64 A) ∧ W.cell? ⟨w.heap.size, 1, none⟩ = some (.int .i64 B) ∧ W.cell? ⟨w.heap.size, 2, none⟩ = some (.int .i64 C) ∧ W.cell? ⟨w.heap.size, 3, none⟩ = some (.int .i64 (da : Int)) ∧ W.cell? ⟨w.heap.size, 4, none⟩ = some (.slice (some ⟨gw, 0, none⟩) n cw) ∧ W.cell? ⟨w.heap.size, 5, none⟩ = some (.slice (some ⟨gh, 0, none⟩) n ch) ∧ W.cell? ⟨sg, 0, none⟩ = some (.int .i64 (k : Int)) ∧ W.cell? ⟨b2, o2 + j, none⟩ = some (.int .i64 (z : Int))) := fun W hb => by
            obtain ⟨x0, x1, x2, x3, x4, x5⟩ := (HBX0.out.below (HS.out.below.drew.trans (hb.mono HS.out.below.drew.size))).cells
            have hb' : Below wr.heap.size wr W := (Below.refl _ _).drew.trans hb
            exact ⟨x0, x1, x2, x3, x4, x5, (HS.out.slab.below hb').cls, (hb'.cell (p := ⟨b2, o2 + j, none⟩) hbl).trans hz⟩
          have hS := HSD.out wr.drew (Below.refl _ _)
          have HLTJ : Hid (j < ls.length) := hltj
          clear HS hzr hzz
          go_upto_region 10 with fail
          first | (go_region_held_law (fun W => W.cell? ⟨w.heap.size, 0, none⟩ = some (.int .i64 A) ∧ W.cell? ⟨w.heap.size, 1, none⟩ = some (.int .i64 B) ∧ W.cell? ⟨w.heap.size, 2, none⟩ = some (.int .i64 C) ∧ W.cell? ⟨w.heap.size, 3, none⟩ = some (.int .i64 (da : Int)) ∧ W.cell? ⟨w.heap.size, 4, none⟩ = some (.slice (some ⟨gw, 0, none⟩) n cw) ∧ W.cell? ⟨w.heap.size, 5, none⟩ = some (.slice (some ⟨gh, 0, none⟩) n ch) ∧ W.cell? ⟨sg, 0, none⟩ = some (.int .i64 (k : Int)) ∧ W.cell? ⟨b2, o2 + j, none⟩ = some (.int .i64 (z : Int))) (first | exact hS | exact hS2 | exact hS3 _ | exact hS4)
            (first
              | (go_at_call 42; refine (HPI.out _).mono ?_; rintro e w4 ⟨rfl, hb4⟩; have hst := HSTP.out w4 hb4; have HO5 := Lib.hid hst.1; have HS5 := Lib.hid hst.2; have hS2 := HSD.out w4 hb4; have hS3 := fun o => HSD.out (w4.alloc o) (hb4.alloc hb4.size o); clear hb4 hst)
              | (refine step_append_lies _ rfl (.tmp 37) (.tmp 47) 37 rfl W0.heap.size 3 i0 _ 1 8 Tryz.underlying37 hi hz0 hz1 hz2 rfl (by decide) _ cur.length (cur.map (Value.int .i64)) (by simp [Act.eval]; rfl) (by exact (HO5.out _).1) _ 1 1 [.int .i64 (oz : Int)] (by simp [Act.eval]; rfl) rfl (World.news_of_block (by exact heap_alloc_new w4 _)) (by simp [Value.oneCell']) (by decide) hm1 hm2 (by exact (HO5.out _).2) _ rfl ?_; intro g5 cap5 w5 o5 gr5 at5 lt5; have HS6 := Lib.hid (HS5.out _ _ _ _ o5 gr5 at5); have hS4 := HSE.out _ _ HS6.out; clear o5 gr5 at5 lt5))) | fail "held"
          all_goals
            go_wp2
            go_roundw
            case rel => exact ⟨j + 1, by have := HLTJ.out; omega, by go_num, by rw [HNXT.out]; exact HS6⟩
            case measure => simp [intOf]; have := HLTJ.out; omega
        · obtain rfl : j = ls.length := by omega
          have HO2 : Hid (wr.ownsRow W0.heap.size 3 1 u3 (P.all da ws (i + 1)).length ((P.all da ws (i + 1)).map (Value.int .i64))) := by
            have h := HS.out.own
            rw [List.take_length, ← HAN.out] at h
            exact h
          have HB2 := Lib.hid HS.out.below
          clear HS
          go_wp2
          go_roundw
          case rel => exact ⟨i + 1, by have := HLT.out; omega, by go_num, HO2, HB2⟩
          case measure => simp [intOf]; have := HLT.out; omega
    · obtain rfl : i = n := by omega
      have HI := Lib.hid (IsInts.of_own HO.out HWF.out)
      obtain ⟨a0, c0, rfl, _, _⟩ := owns_form HO.out
      clear q0 q1 q2
      go_wp2
      go_ret
      exact ⟨_, _, rfl, HI.out, HBR.out⟩
end Go.Proofs.YtaceogpdjbikiaaGreatDoor
namespace Go.Proofs.YtaceogpdjbikiaaGreatDoor

open Go.RowKit

theorem rR_rsv {ws xs : List Nat} (h : Good7 ws xs) {c : Int} (hc : c = 1 ∨ c = 2) : rR 192 (both ws xs) c = (both ws (rsv 192 ws xs c).1, (rsv 192 ws xs c).2.1, (rsv 192 ws xs c).2.2) := by
  have h1 := pl_reserve (da := 192) h c
  rw [rR_is hc] at h1
  simp only [Prod.mk.injEq, P.Pl.mk.injEq, true_and] at h1
  exact Prod.ext h1.1 (Prod.ext h1.2.1 h1.2.2)
theorem both64 {ws xs : List Nat} (h : Good7 ws xs) {n : Nat} (hn : ws.length = n) : (∀ i, i < n → ws.getD i 0 < 2 ^ 64) ∧ (∀ i, i < n → (both ws xs).getD i 0 < 2 ^ 64) ∧ (∀ i, i < n → S.rgt ((both ws xs).getD i 0) = true) ∧ (both ws xs).length = n := by
  refine ⟨fun i hi => h.w64 (by omega), fun i hi => ?_, fun i hi => ?_, by rw [both_len, hn]⟩
  · rw [both_get (by omega)]; exact P.lt64 (h.right (by omega))
  · rw [both_get (by omega)]; exact h.right (by omega)
theorem sets6_only (w : World) (b : Nat) (v0 v1 v2 v3 v4 v5 : Value) : Only [b] w ((((((w.setCell ⟨b, 0, none⟩ v0).setCell ⟨b, 1, none⟩ v1).setCell ⟨b, 2, none⟩ v2).setCell ⟨b, 3, none⟩ v3).setCell ⟨b, 4, none⟩ v4).setCell ⟨b, 5, none⟩ v5) :=
  ((((((Only.setCell w ⟨b, 0, none⟩ v0).trans' (Only.setCell _ ⟨b, 1, none⟩ v1)).trans' (Only.setCell _ ⟨b, 2, none⟩ v2)).trans' (Only.setCell _ ⟨b, 3, none⟩ v3)).trans' (Only.setCell _ ⟨b, 4, none⟩ v4)).trans' (Only.setCell _ ⟨b, 5, none⟩ v5))
section

variable {w0 w w' : World} {pv : Value} {p : Option Addr} {d : V.Dv} {sh : V.Sh} {ws xs X : List Nat} {tv : Value} {l : List Int}

/-- A block that stands apart is written. -/
theorem TPool.only {z : Nat} (h : TPool w0 pv p d sh ws xs X tv l w) (hz : z ∈ X) (hlo : w0.heap.size ≤ z) (ho : Only [z] w w') : TPool w0 pv p d sh ws xs X tv l w' := by
  have hxl := h.pool.xlt
  refine ⟨h.pool.wrote ho (fun k hk => .inl (List.mem_append_right _ (by rw [List.mem_singleton.1 hk]; exact hz))) (fun k hk => by rw [List.mem_singleton.1 hk]; exact hlo) (fun k hk => .inl hk) (fun k hk => Nat.lt_of_lt_of_le (hxl k hk) ho.size), owns_keep h.row (fun k hk => ho.block k (hxl k (List.mem_append_left _ hk)) (fun e => ?_)), h.fits, h.apart⟩
  rw [List.mem_singleton.1 e] at hk
  exact h.apart _ hz hk
end

/-- A pool beside the document's, in the variable at mb; the shape at sb. -/
structure Rp (w1 : World) (q D : Nat) (d : V.Dv) (N s : Nat) (ws xs : List Nat) (sb mb gw cw gh ch : Nat) (rws rhs : List Nat) (tv : Value) (tl : List Int) (w : World) : Prop where
  tp : TPool w1 (.pointer (some ⟨q, 0, none⟩)) (some ⟨D, 0, none⟩) d ⟨(N : Int), (s : Int), 128, 192⟩ ws xs [sb, mb, gw, gh] tv tl w
  srow : w.heap[sb]? = some (.cells #[.int .i64 (N : Int), .int .i64 (s : Int), .int .i64 128, .int .i64 192] 30 (0, 0))
  mrow : RpBox (N : Int) (s : Int) 128 192 (.slice (some ⟨gw, 0, none⟩) s cw) (.slice (some ⟨gh, 0, none⟩) s ch) mb w
  wa : WAt w gw rws
  ha : WAt w gh rhs
  ne : mb ≠ gw ∧ mb ≠ gh ∧ mb ≠ sb
  lo : w1.heap.size ≤ mb
  cws : s ≤ cw ∧ cw ≤ maxLen
  chs : s ≤ ch ∧ ch ≤ maxLen
section

variable {w1 w w' : World} {q D : Nat} {d d' : V.Dv} {N s : Nat} {ws xs ws' xs' : List Nat} {sb mb gw cw gh ch : Nat} {rws rhs : List Nat} {tv : Value} {tl : List Int}

theorem Rp.below (h : Rp w1 q D d N s ws xs sb mb gw cw gh ch rws rhs tv tl w) (hb : Below w.heap.size w w') : Rp w1 q D d N s ws xs sb mb gw cw gh ch rws rhs tv tl w' :=
  ⟨h.tp.newer hb (fun _ hk => .inl hk), (hb.block sb (Array.getElem?_eq_some_iff.1 h.srow).1).trans h.srow, h.mrow.below hb, h.wa.below hb, h.ha.below hb, h.ne, h.lo, h.cws, h.chs⟩
/-- A call of the pool, or of its device. -/
theorem Rp.call (h : Rp w1 q D d N s ws xs sb mb gw cw gh ch rws rhs tv tl w) (hp : TPool w1 (.pointer (some ⟨q, 0, none⟩)) (some ⟨D, 0, none⟩) d' ⟨(N : Int), (s : Int), 128, 192⟩ ws' xs' [sb, mb, gw, gh] tv tl w') (hk : KeepB (ownL tv ++ [sb, mb, gw, gh]) w w') :
    Rp w1 q D d' N s ws' xs' sb mb gw cw gh ch rws rhs tv tl w' := by
  have hx := hp.pool.xlt
  have k1 := hk sb (by simp)
  have k2 := hk mb (by simp)
  have k3 := hk gw (by simp)
  have k4 := hk gh (by simp)
  refine ⟨hp, k1.trans h.srow, h.mrow.keep k2, ?_, ?_, h.ne, h.lo, h.cws, h.chs⟩
  · exact ⟨hx gw (by simp), fun i hi => (World.cell?_of_block (w := w) (a := ⟨gw, i, none⟩) k3).trans (h.wa.2 i hi)⟩
  · exact ⟨hx gh (by simp), fun i hi => (World.cell?_of_block (w := w) (a := ⟨gh, i, none⟩) k4).trans (h.ha.2 i hi)⟩
/-- The variable is set anew, behind a call of the document's. -/
theorem Rp.put {gw' cw' gh' ch' : Nat} {rws' rhs' : List Nat} (h : Rp w1 q D d N s ws xs sb mb gw cw gh ch rws rhs tv tl w) (hb : Below w.heap.size w w') (hw : WAt w' gw' rws') (hh : WAt w' gh' rhs') (ew : gw' = gw ∨ w.heap.size ≤ gw') (eh : gh' = gh ∨ w.heap.size ≤ gh') (c1 : s ≤ cw' ∧ cw' ≤ maxLen) (c2 : s ≤ ch' ∧ ch' ≤ maxLen) :
    Rp w1 q D d N s ws xs sb mb gw' cw' gh' ch' rws' rhs' tv tl ((((((w'.setCell ⟨mb, 0, none⟩ (.int .i64 (N : Int))).setCell ⟨mb, 1, none⟩ (.int .i64 (s : Int))).setCell ⟨mb, 2, none⟩ (.int .i64 128)).setCell ⟨mb, 3, none⟩ (.int .i64 192)).setCell ⟨mb, 4, none⟩ (.slice (some ⟨gw', 0, none⟩) s cw')).setCell ⟨mb, 5, none⟩ (.slice (some ⟨gh', 0, none⟩) s ch')) := by
  have h2 := h.below hb
  have hmlt := h.mrow.lt
  obtain ⟨n1, n2, n3⟩ := h.ne
  have nw : gw' ≠ mb := by rcases ew with rfl | e <;> omega
  have nh : gh' ≠ mb := by rcases eh with rfl | e <;> omega
  have ht : TPool w1 (.pointer (some ⟨q, 0, none⟩)) (some ⟨D, 0, none⟩) d ⟨(N : Int), (s : Int), 128, 192⟩ ws xs [sb, mb, gw', gh'] tv tl w' := h.tp.newer hb (fun k hk => by
    have h1 := hw.1
    have h3 := hh.1
    simp only [List.mem_cons, List.not_mem_nil, or_false] at hk ⊢
    rcases hk with rfl | rfl | rfl | rfl
    · exact .inl (.inl rfl)
    · exact .inl (.inr (.inl rfl))
    · rcases ew with rfl | e
      · exact .inl (.inr (.inr (.inl rfl)))
      · exact .inr ⟨e, h1⟩
    · rcases eh with rfl | e
      · exact .inl (.inr (.inr (.inr rfl)))
      · exact .inr ⟨e, h3⟩)
  refine ⟨ht.only (by simp) h.lo (sets6_only _ _ _ _ _ _ _ _), (sets6_block _ _ (fun e => n3 e.symm) _ _ _ _ _ _).trans h2.srow, h2.mrow.sets _ _ _ _ _ _, hw.keep (by rw [sets6_size]; exact Nat.le_refl _) (sets6_block _ _ nw _ _ _ _ _ _), hh.keep (by rw [sets6_size]; exact Nat.le_refl _) (sets6_block _ _ nh _ _ _ _ _ _), ⟨fun e => nw e.symm, fun e => nh e.symm, n3⟩, h.lo, c1, c2⟩
/-- One more place is told. -/
theorem Rp.push {g cap : Nat} {x : Int} {o : Obj} (h : Rp w1 q D d N s ws xs sb mb gw cw gh ch rws rhs tv tl w) (hx : I64 x)
    (ho : w'.ownsRow w1.heap.size 3 1 (.slice (some ⟨g, 0, none⟩) (tl.length + 1) cap) (tl.length + 1) (tl.map (Value.int .i64) ++ [.int .i64 x])) (hg : (w.alloc o).grownBy w' tv.ownBlock) (hat : tv.ownBlock = some g ∨ g = w.heap.size + 1) :
    Rp w1 q D d N s ws xs sb mb gw cw gh ch rws rhs (.slice (some ⟨g, 0, none⟩) (tl.length + 1) cap) (tl ++ [x]) w' := by
  have ht := h.tp.push hx ho hg hat
  have hxl := h.tp.pool.xlt
  have hk : ∀ k ∈ [sb, mb, gw, gh], w'.heap[k]? = w.heap[k]? := fun k hk => by
    have hl := hxl k (List.mem_append_right _ hk)
    have hsz : (w.alloc o).heap.size = w.heap.size + 1 := by simp
    exact (hg.block k (by omega) (fun e => h.tp.apart k hk (mem_ownL.2 e.symm))).trans (Below.heap_alloc _ _ _ hl)
  have hx' := ht.pool.xlt
  refine ⟨ht, (hk sb (by simp)).trans h.srow, h.mrow.keep (hk mb (by simp)), ?_, ?_, h.ne, h.lo, h.cws, h.chs⟩
  · exact ⟨hx' gw (by simp), fun i hi => (World.cell?_of_block (w := w) (a := ⟨gw, i, none⟩) (hk gw (by simp))).trans (h.wa.2 i hi)⟩
  · exact ⟨hx' gh (by simp), fun i hi => (World.cell?_of_block (w := w) (a := ⟨gh, i, none⟩) (hk gh (by simp))).trans (h.ha.2 i hi)⟩
end

/-- What the loop of acts keeps. -/
def Ra (w1 : World) (q D N s sb mb : Nat) (k : Nat) (tv : Value) (w : World) : Prop := ∃ d ws xs tl gw cw gh ch, Rp w1 q D d N s ws xs sb mb gw cw gh ch ws (both ws xs) tv tl w ∧ St7 N s d ws xs (2 * k) ∧ tl.length ≤ k
end Go.Proofs.YtaceogpdjbikiaaGreatDoor
namespace Go.Proofs.YtaceogpdjbikiaaGreatDoor

open Go.RowKit

theorem rp_one (A B C D : Int) (gw cw gh ch s : Nat) : (#[.int .i64 A, .int .i64 B, .int .i64 C, .int .i64 D, .slice (some ⟨gw, 0, none⟩) s cw, .slice (some ⟨gh, 0, none⟩) s ch] : Array Value).all (·.oneCell') = true := by simp [Value.oneCell']
theorem pc_or (a b : Nat) (h : ∀ i, a.testBit i = true → b.testBit i = true → False) : ∀ k, S.pc (a ||| b) k = S.pc a k + S.pc b k
  | 0 => rfl
  | k + 1 => by
    simp only [S.pc, pc_or a b h k, Nat.testBit_or]
    have h2 := h k
    cases h3 : a.testBit k <;> cases h4 : b.testBit k <;> simp <;> first | omega | exact absurd h4 (fun e => h2 h3 e)
theorem count_both {ws xs : List Nat} (h : Good7 ws xs) : ∀ k, k ≤ ws.length → P.count (both ws xs) k = P.count ws k + P.count xs k
  | 0, _ => rfl
  | k + 1, hk => by
    have hp := h.pair k (by omega)
    simp only [P.count, count_both h k (by omega)]
    rw [both_get (by omega), show used ws xs k = ws.getD k 0 ||| xs.getD k 0 from rfl, hp.both.2.2, pc_or _ _ (fun i => hp.apart i)]
    omega
section

variable {w1 w : World} {q D : Nat} {d : V.Dv} {N s : Nat} {ws xs : List Nat} {sb mb gw cw gh ch : Nat} {rws rhs : List Nat} {tv : Value} {tl : List Int}

/-- The variable is set anew, as a row. -/
theorem Rp.putR {w' : World} {gw' cw' gh' ch' : Nat} {rws' rhs' : List Nat} (h : Rp w1 q D d N s ws xs sb mb gw cw gh ch rws rhs tv tl w) (hb : Below w.heap.size w w') (hw : WAt w' gw' rws') (hh : WAt w' gh' rhs') (ew : gw' = gw ∨ w.heap.size ≤ gw') (eh : gh' = gh ∨ w.heap.size ≤ gh') (c1 : s ≤ cw' ∧ cw' ≤ maxLen) (c2 : s ≤ ch' ∧ ch' ≤ maxLen) :
    Rp w1 q D d N s ws xs sb mb gw' cw' gh' ch' rws' rhs' tv tl (w'.setRow mb #[.int .i64 (N : Int), .int .i64 (s : Int), .int .i64 128, .int .i64 192, .slice (some ⟨gw', 0, none⟩) s cw', .slice (some ⟨gh', 0, none⟩) s ch']) := by
  have h2 := h.below hb
  have hmlt := h.mrow.lt
  obtain ⟨n1, n2, n3⟩ := h.ne
  have nw : gw' ≠ mb := by rcases ew with rfl | e <;> omega
  have nh : gh' ≠ mb := by rcases eh with rfl | e <;> omega
  have hsz : ∀ cs, (w'.setRow mb cs).heap.size = w'.heap.size := fun cs => by simp
  have ht : TPool w1 (.pointer (some ⟨q, 0, none⟩)) (some ⟨D, 0, none⟩) d ⟨(N : Int), (s : Int), 128, 192⟩ ws xs [sb, mb, gw', gh'] tv tl w' := h.tp.newer hb (fun k hk => by
    have h1 := hw.1
    have h3 := hh.1
    simp only [List.mem_cons, List.not_mem_nil, or_false] at hk ⊢
    rcases hk with rfl | rfl | rfl | rfl
    · exact .inl (.inl rfl)
    · exact .inl (.inr (.inl rfl))
    · rcases ew with rfl | e
      · exact .inl (.inr (.inr (.inl rfl)))
      · exact .inr ⟨e, h1⟩
    · rcases eh with rfl | e
      · exact .inl (.inr (.inr (.inr rfl)))
      · exact .inr ⟨e, h3⟩)
  refine ⟨ht.only (by simp) h.lo (Only.setRow _ _ _), (setRow_other _ _ _ _ (fun e => n3 e.symm)).trans h2.srow, setRow_heap w' mb _ _ _ _ h2.mrow, hw.keep (by rw [hsz]; exact Nat.le_refl _) (setRow_other _ _ _ _ nw), hh.keep (by rw [hsz]; exact Nat.le_refl _) (setRow_other _ _ _ _ nh), ⟨fun e => nw e.symm, fun e => nh e.symm, n3⟩, h.lo, c1, c2⟩
theorem ra_reserve (h : Rp w1 q D d N s ws xs sb mb gw cw gh ch rws rhs tv tl w) (c : Nat) (hc : c = 1 ∨ c = 2) (hl : rhs.length = s) (hs : s ≤ 63) (hr : ∀ i, i < s → S.rgt (rhs.getD i 0) = true) :
    Calls Tryz.prog 11 #[.agg #[.int .i64 (N : Int), .int .i64 (s : Int), .int .i64 128, .int .i64 192, .slice (some ⟨gw, 0, none⟩) s cw, .slice (some ⟨gh, 0, none⟩) s ch], .int .i64 (c : Int)] w fun e w' => ∃ gh' ch', e = .returned (.tuple #[.agg #[.int .i64 (N : Int), .int .i64 (s : Int), .int .i64 128, .int .i64 192, .slice (some ⟨gw, 0, none⟩) s cw, .slice (some ⟨gh', 0, none⟩) s ch'], .int .i64 (rR 192 rhs (c : Int)).2.1, .int .i64 (rR 192 rhs (c : Int)).2.2]) ∧ WAt w' gw rws ∧ WAt w' gh' (rR 192 rhs (c : Int)).1 ∧ (gh' = gh ∨ w.heap.size ≤ gh') ∧ (s ≤ ch' ∧ ch' ≤ maxLen) ∧ Below w.heap.size w w' := by
  refine (rp_reserve w (N : Int) (s : Int) 128 192 gw cw gh ch s rhs c hc h.ha hl hs h.chs.1 h.chs.2 hr (by decide)).mono ?_
  rintro e w' ⟨gh', ch', he, h1, h2, h3, h4, hb⟩
  exact ⟨gh', ch', he, h.wa.below hb, h1, h2, ⟨h3, h4⟩, hb⟩
/-- What Take and Drop of the document's leave. -/
def RaPost (w : World) (N s gw gh : Nat) (rws rhs : List Nat) (er : Int) (e : Ending) (w' : World) : Prop :=
  ∃ gw' cw' gh' ch', e = .returned (.tuple #[.agg #[.int .i64 (N : Int), .int .i64 (s : Int), .int .i64 128, .int .i64 192, .slice (some ⟨gw', 0, none⟩) s cw', .slice (some ⟨gh', 0, none⟩) s ch'], .int .i64 er]) ∧ WAt w' gw' rws ∧ WAt w' gh' rhs ∧ (gw' = gw ∨ w.heap.size ≤ gw') ∧ (gh' = gh ∨ w.heap.size ≤ gh') ∧ (s ≤ cw' ∧ cw' ≤ maxLen) ∧ (s ≤ ch' ∧ ch' ≤ maxLen) ∧ Below w.heap.size w w'
theorem ra_take {k : Nat} {d0 : V.Dv} {ws0 xs0 : List Nat} (h : Rp w1 q D d N s ws xs sb mb gw cw gh ch ws0 (both ws0 xs0) tv tl w) (hst : St7 N s d0 ws0 xs0 k) (h19 : 19 ≤ N) (hN : s = V.slabs N) (x : Int) :
    Calls Tryz.prog 15 #[.agg #[.int .i64 (N : Int), .int .i64 (s : Int), .int .i64 128, .int .i64 192, .slice (some ⟨gw, 0, none⟩) s cw, .slice (some ⟨gh, 0, none⟩) s ch], .int .i64 x] w (RaPost w N s gw gh (takeR d0 ⟨(N : Int), (s : Int), 128, 192⟩ 192 ws0 xs0 x).2.1 (both (takeR d0 ⟨(N : Int), (s : Int), 128, 192⟩ 192 ws0 xs0 x).2.1 (takeR d0 ⟨(N : Int), (s : Int), 128, 192⟩ 192 ws0 xs0 x).2.2.1) (takeR d0 ⟨(N : Int), (s : Int), 128, 192⟩ 192 ws0 xs0 x).2.2.2) := by
  have hg := hst.good
  obtain ⟨b1, b2, b3, b4⟩ := both64 hg hst.wl
  have hm : s ≤ 63 := by rw [← hst.wl]; exact hg.most
  have hp := pl_take (da := 192) (sh := ⟨(N : Int), (s : Int), 128, 192⟩) hg (hst.puts h19 hN rfl) x
  have hc := rp_take w (N : Int) (s : Int) 128 192 gw cw gh ch s ws0 (both ws0 xs0) x h.wa h.ha hst.wl b4 hm h.cws h.chs b1 (by decide)
  rw [hp] at hc
  exact hc
theorem ra_drop {k : Nat} {d0 : V.Dv} {ws0 xs0 : List Nat} (h : Rp w1 q D d N s ws xs sb mb gw cw gh ch ws0 (both ws0 xs0) tv tl w) (hst : St7 N s d0 ws0 xs0 k) (h19 : 19 ≤ N) (hN : s = V.slabs N) (x : Int) :
    Calls Tryz.prog 13 #[.agg #[.int .i64 (N : Int), .int .i64 (s : Int), .int .i64 128, .int .i64 192, .slice (some ⟨gw, 0, none⟩) s cw, .slice (some ⟨gh, 0, none⟩) s ch], .int .i64 x] w (RaPost w N s gw gh (dropR d0 ⟨(N : Int), (s : Int), 128, 192⟩ 192 ws0 xs0 x).2.1 (both (dropR d0 ⟨(N : Int), (s : Int), 128, 192⟩ 192 ws0 xs0 x).2.1 (dropR d0 ⟨(N : Int), (s : Int), 128, 192⟩ 192 ws0 xs0 x).2.2.1) (dropR d0 ⟨(N : Int), (s : Int), 128, 192⟩ 192 ws0 xs0 x).2.2.2) := by
  have hg := hst.good
  obtain ⟨b1, b2, b3, b4⟩ := both64 hg hst.wl
  have hm : s ≤ 63 := by rw [← hst.wl]; exact hg.most
  have hp := pl_drop (da := 192) (sh := ⟨(N : Int), (s : Int), 128, 192⟩) hg (hst.puts h19 hN rfl) x
  have hc := rp_drop w (N : Int) (s : Int) 128 192 gw cw gh ch s ws0 (both ws0 xs0) x h.wa h.ha hst.wl b4 hm h.cws h.chs b1 b2 (by decide)
  rw [hp] at hc
  exact hc
theorem ra_load {k : Nat} (h : Rp w1 q D d N s ws xs sb mb gw cw gh ch rws rhs tv tl w) (hst : St7 N s d ws xs k) (h19 : 19 ≤ N) (hN : s = V.slabs N) (hs : s ≤ 63) {i : Nat} (hi : i < s) :
    Calls Tryz.prog 21 #[.pointer (some ⟨D, 0, none⟩), .int .i64 (128 + 8 * (i : Int))] w fun e w' => e = .returned (.tuple #[.int .u64 (ws.getD i 0 : Nat), .int .i64 0]) ∧ ∃ m, w' = w.drewN m := by
  have hp := h.tp.pool
  obtain ⟨y, h1, h2, h3, h4, h5, h6, h7⟩ := hp
  have hneed := V.need_slabs (n := N) (by omega)
  unfold V.need at hneed
  have hr : d.room 128 (V.slabs N : Nat) = 0 := V.room_zero.2 ⟨by omega, by omega, by omega, by rw [hst.up.len]; omega⟩
  have he := V.room_err hr (by have := hst.up.left; omega) i (by omega)
  have hl := in_load h5.devIn (128 + 8 * (i : Int)) ⟨by omega, by omega⟩
  rw [V.load_word he, he, show (128 + 8 * (i : Int)).toNat = 128 + 8 * i by omega, hst.up.table i (by omega)] at hl
  exact hl
theorem ra_crash {k : Nat} (h : Rp w1 q D d N s ws xs sb mb gw cw gh ch rws rhs tv tl w) (hst : St7 N s d ws xs k) (hk : k ≤ 1000) : Calls Tryz.prog 22 #[.pointer (some ⟨D, 0, none⟩), .slice none 0 0] w fun e w' => e = .returned (.tuple #[]) ∧ Rp w1 q D (d.crash []) N s ws xs sb mb gw cw gh ch rws rhs tv tl w' := by
  refine (t_crash h.tp none 0 0 [] (IsInts.nil _ _) (fun hne => absurd rfl hne) (by have := hst.steps; omega)).mono ?_
  rintro e w' ⟨he, hp, hk⟩
  exact ⟨he, h.call hp hk⟩
/-- The pool that is opened behind the crash. -/
theorem ra_open {k : Nat} {d0 : V.Dv} (h : Rp w1 q D (d0.crash []) N s ws xs sb mb gw cw gh ch rws rhs tv tl w) (hst : St7 N s d0 ws xs k) (h19 : 19 ≤ N) (hN : s = V.slabs N) (hsh : V.Sh.at N = ⟨(N : Int), (s : Int), 128, 192⟩) (hT : TabT w1) (hg : 0 < w1.heap.size) :
    Calls Tryz.prog 23 #[.pointer (some ⟨D, 0, none⟩)] w fun e w' => ∃ (q2 : Nat) (K2 : List Nat), e = .returned (.tuple #[.pointer (some ⟨q2, 0, none⟩), .int .i64 0]) ∧ PoolR (.pointer (some ⟨q2, 0, none⟩)) (some ⟨D, 0, none⟩) ⟨(N : Int), (s : Int), 128, 192⟩ ws (List.replicate s 0) K2 w' ∧ Below w.heap.size w w' := by
  have hup := hst.up.crash []
  have htab := hup.tableOf h19 (by rw [hst.wl]; exact hN)
  refine (t_open h.tp hT hg (by show (-1 : Int) ≠ 0; decide) (by rw [hup.opens h19]) hup.len (by rw [htab]; exact good_right hst.good)).mono ?_
  rintro e w' ⟨q2, K2, he, hq, hb⟩
  rw [hsh, htab, ← hN] at hq
  exact ⟨q2, K2, he, hq, hb⟩
theorem ra_held (h : Rp w1 q D d N s ws xs sb mb gw cw gh ch rws rhs tv tl w) (hl : ws.length = s) : Calls Tryz.prog 16 #[.pointer (some ⟨q, 0, none⟩)] w fun e w' => e = .returned (.int .i64 (P.count xs s : Nat)) ∧ Below w.heap.size w w' := by
  obtain ⟨K, hr⟩ := h.tp.pool.reads
  have h2 := r_held hr
  rwa [hl] at h2
theorem ra_all (h : Rp w1 q D d N s ws xs sb mb gw cw gh ch rws rhs tv tl w) (hl : ws.length = s) (hs : ShOk ⟨(N : Int), (s : Int), 128, 192⟩ 192) : Calls Tryz.prog 19 #[.pointer (some ⟨q, 0, none⟩)] w (LsPost w (P.all 192 ws s)) := by
  obtain ⟨K, hr⟩ := h.tp.pool.reads
  have h2 := r_all hr hs
  rwa [hl] at h2
theorem ra_rall (h : Rp w1 q D d N s ws xs sb mb gw cw gh ch rws rhs tv tl w) (hl : rws.length = s) (hs : s ≤ 63) : Calls Tryz.prog 20 #[.agg #[.int .i64 (N : Int), .int .i64 (s : Int), .int .i64 128, .int .i64 192, .slice (some ⟨gw, 0, none⟩) s cw, .slice (some ⟨gh, 0, none⟩) s ch]] w (LsPost w (P.all 192 rws s)) :=
  rp_all w (N : Int) (s : Int) 128 192 gw cw gh ch s rws h.wa hl hs h.cws (by decide)
theorem ra_countw (h : Rp w1 q D d N s ws xs sb mb gw cw gh ch rws rhs tv tl w) (hl : rws.length = s) (hs : s ≤ 63) : Calls Tryz.prog 17 #[.slice (some ⟨gw, 0, none⟩) s cw] w fun e w' => e = .returned (.int .i64 (P.count rws s : Nat)) ∧ Below w.heap.size w w' :=
  rp_count w gw cw s rws h.wa hl hs h.cws.1 h.cws.2
theorem ra_counth (h : Rp w1 q D d N s ws xs sb mb gw cw gh ch rws rhs tv tl w) (hl : rhs.length = s) (hs : s ≤ 63) : Calls Tryz.prog 17 #[.slice (some ⟨gh, 0, none⟩) s ch] w fun e w' => e = .returned (.int .i64 (P.count rhs s : Nat)) ∧ Below w.heap.size w w' :=
  rp_count w gh ch s rhs h.ha hl hs h.chs.1 h.chs.2
end

end Go.Proofs.YtaceogpdjbikiaaGreatDoor
