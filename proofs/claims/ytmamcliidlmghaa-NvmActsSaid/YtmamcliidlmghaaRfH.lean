/- The reference of layer 3: the contract of Crash. -/
import Derived.Test.YtmamcliidlmghaaRfG
import Derived.Deep.RegionWith
namespace Go.Proofs.Ytmamcliidlmghaa
open Go.RowKit

theorem heap_new2 (w : World) (a b : Obj) : ((w.alloc a).alloc b).heap[w.heap.size + 1]? = some b := by
  have := heap_alloc_new (w.alloc a) b
  simpa using this
theorem heap_new2' (w : World) (a b : Obj) (m : Nat) : (((w.alloc a).drewN m).alloc b).heap[w.heap.size + 1]? = some b := heap_new2 w a b
/-- Lines of a crash, done as far as j of them, with so many picks taken. -/
def Crashed (d : V.Dv) (zs : List Int) (j a : Nat) (ls : List V.Ln) : Prop := ∃ done, ls = done ++ d.lines.drop j ∧ done.length = j ∧ V.crashL d.lines zs = done ++ V.crashL (d.lines.drop j) (zs.drop a)
theorem Crashed.get {d : V.Dv} {zs : List Int} {j a : Nat} {ls : List V.Ln} (h : Crashed d zs j a ls) (hj : j < d.lines.length) : ls[j]? = some (d.at j) := by
  obtain ⟨done, rfl, h1, h2⟩ := h
  rw [List.getElem?_append_right (by omega), h1, Nat.sub_self, List.getElem?_drop, Nat.add_zero]
  exact at_get hj
theorem Crashed.len {d : V.Dv} {zs : List Int} {j a : Nat} {ls : List V.Ln} (h : Crashed d zs j a ls) (hj : j ≤ d.lines.length) : ls.length = d.lines.length := by
  obtain ⟨done, rfl, h1, h2⟩ := h
  rw [List.length_append, h1, List.length_drop]; omega
theorem Crashed.next {d : V.Dv} {zs : List Int} {j a a' k : Nat} {ls : List V.Ln} (h : Crashed d zs j a ls) (hj : j < d.lines.length) (hk : V.crashL (d.at j :: d.lines.drop (j + 1)) (zs.drop a) = (d.at j).back k :: V.crashL (d.lines.drop (j + 1)) (zs.drop a')) : Crashed d zs (j + 1) a' (ls.set j ((d.at j).back k)) := by
  obtain ⟨done, rfl, h1, h2⟩ := h
  have e : d.lines.drop j = d.at j :: d.lines.drop (j + 1) := by
    rw [List.drop_eq_getElem_cons hj]
    have := at_get hj
    rw [List.getElem?_eq_getElem hj] at this
    rw [Option.some.inj this]
  refine ⟨done ++ [(d.at j).back k], ?_, by simp [h1], ?_⟩
  · rw [List.set_append_right _ _ (by omega), h1, Nat.sub_self, e, List.set_cons_zero, List.append_assoc]; rfl
  · rw [h2, e, hk, List.append_assoc]; rfl
theorem Crashed.none {d : V.Dv} {zs : List Int} {j a : Nat} {ls : List V.Ln} (h : Crashed d zs j a ls) (hj : j < d.lines.length) (h0 : (d.at j).over.length = 0) : Crashed d zs (j + 1) a (ls.set j ((d.at j).back 0)) := h.next hj (by rw [crash_cons0 h0])
theorem Crashed.few {d : V.Dv} {zs : List Int} {j a : Nat} {ls : List V.Ln} (h : Crashed d zs j a ls) (hj : j < d.lines.length) (h0 : ¬ (d.at j).over.length = 0) (ha : zs.length ≤ a) : Crashed d zs (j + 1) (a + 1) (ls.set j ((d.at j).back 0)) :=
  h.next hj (by rw [List.drop_of_length_le ha, List.drop_of_length_le (show zs.length ≤ a + 1 by omega), crash_consN h0])
theorem Crashed.pick {d : V.Dv} {zs : List Int} {j a : Nat} {ls : List V.Ln} (h : Crashed d zs j a ls) (hj : j < d.lines.length) (h0 : ¬ (d.at j).over.length = 0) (z : Int) (ha : zs[a]? = some z) : Crashed d zs (j + 1) (a + 1) (ls.set j ((d.at j).back (z.toNat % ((d.at j).over.length + 1)))) :=
  h.next hj (by
    have e : zs.drop a = z :: zs.drop (a + 1) := by
      rw [List.drop_eq_getElem_cons (List.getElem?_eq_some_iff.1 ha).1, (List.getElem?_eq_some_iff.1 ha).2]
    rw [e, crash_consP h0])
section
variable {w : World} {F : List Nat}
set_option maxHeartbeats 8000000 in
set_option maxRecDepth 100000 in
theorem rf_crash {m : Value} {d : V.Dv} (h : RefAt w F m d) (hF : ∀ k ∈ F, k < w.heap.size) (hg : d.Good) (hs : d.steps ≤ 1000000) (PA : Option Addr) (pn pc : Nat) (zs : List Int) (hp : IsBytes w (.slice PA pn pc) zs) :
    Calls Try.prog 18 #[m, .slice PA pn pc] w (RetRef w F (d.crash zs)) := by
  obtain ⟨C, cap, cs, down, left, rfl, hc1, hc2, hrow, _, hCF, hCw, _⟩ := h.open
  have hnn := hg.most
  have hc2' : cap ≤ 2 ^ 63 - 1 := hc2
  obtain ⟨hpl, hpc, hpm⟩ := IsInts.len' hp
  unfold maxLen at hpm
  have hF0 : ∀ k ∈ w.heap.size :: (w.heap.size + 1) :: F, k ∈ F ∨ w.heap.size ≤ k := fun k hk => by
    rcases List.mem_cons.1 hk with e | hk
    · exact .inr (by omega)
    · rcases List.mem_cons.1 hk with e | e
      · exact .inr (by omega)
      · exact .inl e
  have hF1 : ∀ (N : Nat), w.heap.size + 1 < N → ∀ k ∈ w.heap.size :: (w.heap.size + 1) :: F, k < N := fun N hN k hk => by
    rcases List.mem_cons.1 hk with e | hk
    · omega
    · rcases List.mem_cons.1 hk with e | e
      · omega
      · have := hF k e; omega
  have HL0 : Hid (∀ (a b : Obj), a = .cells #[.slice (some ⟨C, 0, none⟩) d.lines.length cap, .bool false, .int .i64 (-1), .int .i64 (d.steps : Int)] 31 (0, 0) → b = .cells #[.slice none 0 0, .bool false, .int .i64 0, .int .i64 0] 31 (0, 0) → Looped w F d.lines.length (-1) (d.steps : Int) (.int .i64 0) d.lines ((w.alloc a).alloc b)) := by
    intro a b ha hb
    subst ha hb
    obtain ⟨z0, z1, hbw⟩ := two_new w _ _ _ (Below.refl _ _)
    exact ⟨C, cap, cs, z0, z1, hbw, hc1, hc2, hrow.step (Only.of_below hbw) hF0⟩
  have HC0 : Hid (Crashed d zs 0 0 d.lines) := ⟨[], by simp, rfl, by simp⟩
  have HGL := Lib.hid (fun j => hg.at j)
  have HOV : Hid (∀ j, j < d.lines.length → (d.at j).over.length ≤ 1000000) := fun j hj => Nat.le_trans (hg.over _ (List.mem_of_getElem? (at_get hj))) hs
  have HF1 := Lib.hid hF1
  have HPZ := Lib.hid (fun W (hb : Below w.heap.size w W) => (IsInts.below hp hb : IsBytes W (.slice PA pn pc) zs))
  have HPL := Lib.hid hpl
  have HG2 := Lib.hid hg
  clear h hrow hF0 hF1 hF hp hpl hg
  go_enter Try.func18, Try.ntmps18
  go_wp2_with fail
  go_loopw [5, 6] (fun y x wr => ∃ j a : Nat, j ≤ d.lines.length ∧ a ≤ j ∧ x = .int .i64 j ∧ y = .int .i64 a ∧ ∃ ls, Hid (Crashed d zs j a ls) ∧ Hid (Looped w F d.lines.length (-1) (d.steps : Int) (.int .i64 0) ls wr)) (fun _ x _ => d.lines.length - (intOf x).toNat)
  case atStart => exact ⟨0, 0, by omega, by omega, rfl, rfl, _, HC0, HL0.out _ _ rfl rfl⟩
  case round =>
    obtain ⟨j, a, hj, haj, rfl, rfl, ls, hcr, hlo⟩ := hrel
    obtain ⟨C', cap', cs', z0, z1, hbw, i1, i2, i3⟩ := hlo.out
    obtain ⟨⟨x0, x1, x2, x3⟩, ⟨e0, e1, e2, e3⟩⟩ := four z0
    have i2' : cap' ≤ 2 ^ 63 - 1 := i2
    by_cases hlt : j < d.lines.length
    · have hll := hcr.out.len hj
      have hjl := hcr.out.get hlt
      have hcs : cs'[j]? = some (cs'[j]'(by rw [i3.len, hll]; exact hlt)) := List.getElem?_eq_getElem _
      have hce := i3.line j _ _ hcs hjl
      obtain ⟨c1, c2⟩ := i3.cell j _ hcs
      obtain ⟨L, mark, b, o, c, us, m1, m2, m4, m5, m6, m7, m8, m9⟩ := hce.vals
      rw [m2] at c1 c2
      rw [Nat.mul_comm 2 j] at c1 c2
      have hmay := m1.may
      have hov := HOV.out j hlt
      have m5' : c ≤ 2 ^ 63 - 1 := m5
      have hw1 : w.heap.size + 1 < wr.heap.size := (Array.getElem?_eq_some_iff.1 z1).1
      have hal : ∀ ob : Obj, Below wr.heap.size wr (wr.alloc ob) := fun ob => (Below.refl _ _).alloc (Nat.le_refl _) _
      have hal2 : ∀ ob ob2 : Obj, Below wr.heap.size wr ((wr.alloc ob).alloc ob2) := fun ob ob2 => (hal ob).alloc (by simp) _
      have z0a : ∀ ob : Obj, (wr.alloc ob).heap[w.heap.size]? = _ := fun ob => ((hal ob).block _ (by omega)).trans z0
      have z0b : ∀ ob ob2 : Obj, ((wr.alloc ob).alloc ob2).heap[w.heap.size]? = _ := fun ob ob2 => ((hal2 ob ob2).block _ (by omega)).trans z0
      have q0 := fun ob => (four (z0a ob)).1.1
      have q1 := fun ob => (four (z0a ob)).1.2.1
      have q2 := fun ob => (four (z0a ob)).1.2.2.1
      have q3 := fun ob => (four (z0a ob)).1.2.2.2
      have r0 := fun ob ob2 => (four (z0b ob ob2)).1.1
      have r1 := fun ob ob2 => (four (z0b ob ob2)).1.2.1
      have r2 := fun ob ob2 => (four (z0b ob ob2)).1.2.2.1
      have r3 := fun ob ob2 => (four (z0b ob ob2)).1.2.2.2
      have t0 := fun ob ob2 m => (show (((wr.alloc ob).drewN m).alloc ob2).cell? ⟨w.heap.size, 0, none⟩ = _ from r0 ob ob2)
      have t1 := fun ob ob2 m => (show (((wr.alloc ob).drewN m).alloc ob2).cell? ⟨w.heap.size, 1, none⟩ = _ from r1 ob ob2)
      have t2 := fun ob ob2 m => (show (((wr.alloc ob).drewN m).alloc ob2).cell? ⟨w.heap.size, 2, none⟩ = _ from r2 ob ob2)
      have t3 := fun ob ob2 m => (show (((wr.alloc ob).drewN m).alloc ob2).cell? ⟨w.heap.size, 3, none⟩ = _ from r3 ob ob2)
      have HWI : Hid (∀ (k : Nat), k ≤ (d.at j).over.length → ∃ u, us[k]? = some u ∧ (∀ ob : Obj, (wr.alloc ob).cell? ⟨b, o + k, none⟩ = some u) ∧ (∀ ob ob2 : Obj, ((wr.alloc ob).alloc ob2).cell? ⟨b, o + k, none⟩ = some u) ∧ (∃ g o' c', u = .slice (some ⟨g, o', none⟩) 64 c') ∧ ∀ (W : World), Below wr.heap.size wr W → ∀ g, wr.heap.size ≤ g → W.heap[g]? = some (.cells #[u] 22 (0, 0)) →
          Calls Try.prog 33 #[.agg #[.slice (some ⟨C', 0, none⟩) d.lines.length cap', .bool false, .int .i64 (-1), .int .i64 (d.steps : Int)], .int .i64 (j : Int), .agg #[.slice (some ⟨g, 0, none⟩) 1 1, .int .i64 (-1)]] W fun e w' => ∃ C2 cap2, e = .returned (.agg #[.slice (some ⟨C2, 0, none⟩) d.lines.length cap2, .bool false, .int .i64 (-1), .int .i64 (d.steps : Int)]) ∧ Hid (∀ (a' : Nat), Crashed d zs (j + 1) a' (ls.set j ((d.at j).back k)) →
            (w'.heap[w.heap.size]? = some (.cells #[.slice (some ⟨C', 0, none⟩) d.lines.length cap', .bool false, .int .i64 (-1), .int .i64 (d.steps : Int)] 31 (0, 0)) ∧ Looped w F d.lines.length (-1) (d.steps : Int) (.int .i64 0) (ls.set j ((d.at j).back k)) ((((w'.setCell ⟨w.heap.size, 0, none⟩ (.slice (some ⟨C2, 0, none⟩) d.lines.length cap2)).setCell ⟨w.heap.size, 1, none⟩ (.bool false)).setCell ⟨w.heap.size, 2, none⟩ (.int .i64 (-1))).setCell ⟨w.heap.size, 3, none⟩ (.int .i64 (d.steps : Int)))))) := by
        intro k hk
        obtain ⟨z, hz, hT⟩ := m1.crash k hk
        have hu : us[k]? = some (us[k]'(by omega)) := List.getElem?_eq_getElem _
        obtain ⟨hu1, hu2⟩ := m9 k _ hu
        have hcont := hu2 z hz
        have hz64 : z.length = 64 := by
          have e : z = ((d.at j).back k).now := by
            have := hT.1
            rw [V.pasts_back] at this
            simpa using this
          rw [e]; exact ((HGL.out j).back k).len
        refine ⟨_, hu, fun ob => ((hal ob).cell (p := ⟨b, o + k, none⟩) m7).trans hu1, fun ob ob2 => ((hal2 ob ob2).cell (p := ⟨b, o + k, none⟩) m7).trans hu1, ?_, fun W hb g hg hW => ?_⟩
        · obtain ⟨g, o', c', e, _⟩ := hcont
          rw [hz64] at e
          exact ⟨g, o', c', e⟩
        have hgW := (Array.getElem?_eq_some_iff.1 hW).1
        have hcell : CellAt W (w.heap.size :: (w.heap.size + 1) :: F) (.slice (some ⟨g, 0, none⟩) 1 1, .int .i64 (-1)) ((d.at j).back k) :=
          ⟨[z], -1, g, 0, 1, hT, rfl, rfl, Nat.le_refl _, by decide, fun hf => by have := HF1.out wr.heap.size hw1 g hf; omega, hgW, fun i y hy => by
            match i, hy with
            | 0, hy =>
              obtain rfl : z = y := by simpa using hy
              exact ⟨_, cell_of_row W g 0 _ _ _ hW, hcont.below hb⟩
            | i + 1, hy => simp at hy⟩
        refine (rf_with (i3.below hb) (HF1.out _ (Nat.lt_of_lt_of_le hw1 hb.size)) d.lines.length cap' hll i1 i2 hnn false (-1) (d.steps : Int) j hlt _ _ hcell).mono ?_
        rintro e w' ⟨C2, cap2, rfl, k1, k2, k3, k4, k5⟩
        have y0 := (k4.block w.heap.size (by have := hb.size; omega)).trans ((hb.block _ (by omega)).trans z0)
        have y1 := (k4.block (w.heap.size + 1) (by have := hb.size; omega)).trans ((hb.block _ (by omega)).trans z1)
        have hbw5 : Below w.heap.size w w' := (hbw.trans (hb.mono hbw.size)).trans (k4.mono (Nat.le_trans hbw.size hb.size))
        exact ⟨C2, cap2, rfl, fun a' ha' => ⟨y0, C2, cap2, _, sets_same y0 _ _ _ _, (sets_other w' w.heap.size (w.heap.size + 1) (by omega) _ _ _ _).trans y1, sets_below hbw5 (Nat.le_refl _) _ _ _ _, k1, k2, k3.sets (by simp) _ _ _ _⟩⟩
      have HPK : Hid (∀ (ob : Obj) (i : Nat), i < pn → ∃ g o' z, PA = some ⟨g, o', none⟩ ∧ zs[i]? = some z ∧ 0 ≤ z ∧ z ≤ 255 ∧ ∀ m, ((wr.alloc ob).drewN m).cell? ⟨g, o' + i, none⟩ = some (.int .u8 z)) := by
        intro ob i hi
        have h1 := HPZ.out _ (hbw.trans ((hal ob).mono hbw.size))
        obtain ⟨a', c', e, h2, h3, h4, h5⟩ := h1
        simp only [Value.slice.injEq] at e
        obtain ⟨rfl, e2, rfl⟩ := e
        rcases h4 with h4 | ⟨g, o', rfl, hc⟩
        · rw [h4] at e2; simp at e2; omega
        · have hz : zs[i]? = some (zs[i]'(by omega)) := List.getElem?_eq_getElem (by omega)
          have hr := byte_range h5 _ (List.mem_of_getElem? hz)
          refine ⟨g, o', _, rfl, hz, hr.1, hr.2, fun m => ?_⟩
          have := hc i (by omega)
          rw [List.getD_eq_getElem?_getD, hz] at this
          exact this
      have hL1 : 0 < L.length := by omega
      have HLO := Lib.hid hmay
      have hov1 : L.length ≤ 1000001 := by omega
      clear z0 z1 z0a z0b hbw i1 i2 i3 hlo hcs hce m1 m2 m6 m7 m8 m9 hjl hal hal2 m5 hll hmay e0 e1 e2 e3
      by_cases h0 : (d.at j).over.length = 0
      · -- no choice
        obtain ⟨u, hu, s1, s2, ⟨ug, uo, uc, rfl⟩, hcal⟩ := HWI.out 0 (by omega)
        have HCA := Lib.hid hcal
        have HNX := Lib.hid (hcr.out.none hlt h0)
        have hL : L.length = 1 := by have := HLO.out; omega
        rw [Nat.add_zero] at s1 s2
        clear HWI hcal hu h0 HPK hov hL1 hov1
        rw [hL] at c1 m4
        clear hL
        go_wp2_with fail
        go_region_with (go_at_call 33; go_loud (refine (HCA.out _ (by first | exact (((Below.refl _ _).alloc (Nat.le_refl _) _).alloc (by simp) _).drew | exact ((((Below.refl _ _).alloc (Nat.le_refl _) _).alloc (by simp) _).drew).drew | exact ((Below.refl _ _).alloc (Nat.le_refl _) _).alloc (by simp) _ | exact ((below_drewN' ((Below.refl _ _).alloc (Nat.le_refl _) _) _).alloc (by simp) _).drew | exact below_drewN' (((Below.refl _ _).alloc (Nat.le_refl _) _).alloc (by simp) _) _) _ (by simp) (by first | exact heap_new2 wr _ _ | exact heap_new2' wr _ _ _)).mono ?_; rintro e w5 ⟨C2, cap2, rfl, hk5⟩; obtain ⟨hz0, hlo5⟩ := hk5.out (a) HNX.out; obtain ⟨⟨x0, x1, x2, x3⟩, ⟨e0, e1, e2, e3⟩⟩ := four hz0; have HLO5 := Lib.hid hlo5; clear hk5 hz0 hlo5))
        all_goals
          go_wp2
          go_roundw
          case rel => exact ⟨j + 1, a, by omega, by omega, by go_num, by go_num, _, HNX, HLO5⟩
          case measure => simp [intOf]; omega
      · obtain ⟨ll, hL⟩ : ∃ ll, L.length = ll := ⟨_, rfl⟩
        have HL2 := Lib.hid hL
        have hl2 : 1 < ll := by have := HLO.out; omega
        rw [hL] at c1 m4 hov1
        by_cases hap : a < pn
        · obtain ⟨pg, po, z, rfl, hz, hz0, hz1, hpk⟩ := HPK.out (.cells #[.slice (some ⟨b, o, none⟩) ll c, .int .i64 mark] 68 (0, 0)) a hap
          obtain ⟨zn, rfl⟩ := Int.eq_ofNat_of_zero_le hz0
          obtain ⟨u, hu, s1, s2, ⟨ug, uo, uc, rfl⟩, hcal⟩ := HWI.out (zn % ll) (by have := Nat.mod_lt zn (show 0 < ll by omega); have := HLO.out; omega)
          have HCA := Lib.hid hcal
          have HNX := Lib.hid (hcr.out.pick hlt h0 _ hz)
          rw [Int.toNat_natCast, show (d.at j).over.length + 1 = ll by have := HLO.out; omega] at HNX
          have hmod : ((zn : Int) % (ll : Int)) = ((zn % ll : Nat) : Int) := rfl
          have hkl : zn % ll < ll := Nat.mod_lt _ (by omega)
          clear HWI hcal hu h0 HPK hov hL1 hz hz0 hL
          generalize zn % ll = k at *
          go_wp2_with fail
          go_quiet (fail)
          go_wp2_with fail
          go_region_with (go_at_call 33; go_loud (refine (HCA.out _ (by first | exact (((Below.refl _ _).alloc (Nat.le_refl _) _).alloc (by simp) _).drew | exact ((((Below.refl _ _).alloc (Nat.le_refl _) _).alloc (by simp) _).drew).drew | exact ((Below.refl _ _).alloc (Nat.le_refl _) _).alloc (by simp) _ | exact ((below_drewN' ((Below.refl _ _).alloc (Nat.le_refl _) _) _).alloc (by simp) _).drew | exact below_drewN' (((Below.refl _ _).alloc (Nat.le_refl _) _).alloc (by simp) _) _) _ (by simp) (by first | exact heap_new2 wr _ _ | exact heap_new2' wr _ _ _)).mono ?_; rintro e w5 ⟨C2, cap2, rfl, hk5⟩; obtain ⟨hz0, hlo5⟩ := hk5.out (a + 1) HNX.out; obtain ⟨⟨x0, x1, x2, x3⟩, ⟨e0, e1, e2, e3⟩⟩ := four hz0; have HLO5 := Lib.hid hlo5; clear hk5 hz0 hlo5))
          all_goals
            go_wp2
            go_roundw
            case rel => exact ⟨j + 1, a + 1, by omega, by omega, by go_num, by go_num, _, HNX, HLO5⟩
            case measure => simp [intOf]; omega
        · obtain ⟨u, hu, s1, s2, ⟨ug, uo, uc, rfl⟩, hcal⟩ := HWI.out 0 (by omega)
          have HCA := Lib.hid hcal
          have HNX := Lib.hid (hcr.out.few hlt h0 (by rw [HPL.out]; omega))
          have hap2 : pn ≤ a := by omega
          rw [Nat.add_zero] at s1 s2
          clear HWI hcal hu h0 HPK hov hL1 hL hap
          go_wp2_with fail
          go_region_with (go_at_call 33; go_loud (refine (HCA.out _ (by first | exact (((Below.refl _ _).alloc (Nat.le_refl _) _).alloc (by simp) _).drew | exact ((((Below.refl _ _).alloc (Nat.le_refl _) _).alloc (by simp) _).drew).drew | exact ((Below.refl _ _).alloc (Nat.le_refl _) _).alloc (by simp) _ | exact ((below_drewN' ((Below.refl _ _).alloc (Nat.le_refl _) _) _).alloc (by simp) _).drew | exact below_drewN' (((Below.refl _ _).alloc (Nat.le_refl _) _).alloc (by simp) _) _) _ (by simp) (by first | exact heap_new2 wr _ _ | exact heap_new2' wr _ _ _)).mono ?_; rintro e w5 ⟨C2, cap2, rfl, hk5⟩; obtain ⟨hz0, hlo5⟩ := hk5.out (a + 1) HNX.out; obtain ⟨⟨x0, x1, x2, x3⟩, ⟨e0, e1, e2, e3⟩⟩ := four hz0; have HLO5 := Lib.hid hlo5; clear hk5 hz0 hlo5))
          all_goals
            go_wp2
            go_roundw
            case rel => exact ⟨j + 1, a + 1, by omega, by omega, by go_num, by go_num, _, HNX, HLO5⟩
            case measure => simp [intOf]; omega
    · obtain rfl : j = d.lines.length := by omega
      have HFI : Hid (RefAt wr (w.heap.size :: (w.heap.size + 1) :: F) (.agg #[.slice (some ⟨C', 0, none⟩) d.lines.length cap', .bool false, .int .i64 (-1), .int .i64 (d.steps : Int)]) (d.crash zs)) := by
        obtain ⟨done, h1, h2, h3⟩ := hcr.out
        rw [List.drop_length, List.append_nil] at h1
        rw [List.drop_length] at h3
        have hl : (d.crash zs).lines = ls := by
          show V.crashL d.lines zs = ls
          rw [h3, h1]
          exact List.append_nil _
        have hn : (d.crash zs).lines.length = d.lines.length := by rw [hl, h1]; exact h2
        exact ⟨C', cap', cs', false, -1, by rw [hn]; rfl, by rw [hn]; exact i1, i2, by rw [hl]; exact i3, rfl, fun _ => rfl⟩
      obtain ⟨⟨y0, y1, y2, y3⟩, ⟨u0, u1, u2, u3⟩⟩ := four z1
      have HBW := Lib.hid hbw
      clear z0 z1 hbw i1 i2 i3 hlo
      go_wp2
      exact bodyPost_ret (v := .agg #[.slice (some ⟨C', 0, none⟩) d.lines.length cap', .bool false, .int .i64 (-1), .int .i64 (d.steps : Int)]) (by simp [results, Try.results18, go_sem, y0, y1, y2, y3]) rfl ⟨_, rfl, HFI.out.sets' (by simp) (fun k hk => by simp [hk]) _ _ _ _, sets_below HBW.out (by omega) _ _ _ _⟩
end
end Go.Proofs.Ytmamcliidlmghaa
