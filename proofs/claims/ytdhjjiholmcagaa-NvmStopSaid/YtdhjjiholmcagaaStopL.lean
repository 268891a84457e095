/- The walk of NvmStop: whatever is handed in, the call answers true, and what was there stays. -/
import Derived.Test.YtdhjjiholmcagaaMayL
import Derived.Deep.RegionWith
import Derived.Outline
import Derived.Deep.DeepCutAuto
namespace Go.Proofs.Ytdhjjiholmcagaa
open Go.RowKit

namespace V
/-- One device that goes down behind k steps, and one that does not: as long as the first one is not down they are alike. -/
structure Twin (k : Nat) (d o : Dv) : Prop where
  gd : d.Good
  up : Up 8 o
  lines : d.lines = o.lines
  steps : d.steps = o.steps
  le : o.steps ≤ k
  left : d.left = (k : Int) - (o.steps : Int)
theorem Twin.dlen {k : Nat} {d o : Dv} (h : Twin k d o) : d.lines.length = 8 := by rw [h.lines]; exact h.up.len
theorem twin_start (k : Nat) (hk : k ≤ 39) : Twin k ((newDv 8).stop k) (newDv 8) := by
  have hu := up_new (n := 8) (by decide) (by decide)
  have hg := hu.good.stop (k : Int) (by omega)
  have e : (newDv 8).stop (k : Int) = { lines := (newDv 8).lines, left := max (k : Int) 0, steps := (newDv 8).steps } := by
    unfold Dv.stop; rw [if_neg (by rw [hu.left]; decide)]
  rw [e] at hg ⊢
  exact ⟨hg, hu, rfl, rfl, Nat.zero_le _, by simp [newDv]⟩
theorem Twin.down {k : Nat} {d o : Dv} (h : Twin k d o) (hs : ¬ o.steps < k) : d.left = 0 := by
  have h1 := h.left; have h2 := h.le; omega
theorem Twin.err {k : Nat} {d o : Dv} (h : Twin k d o) (hs : o.steps < k) (off size : Int) : d.err off size = o.err off size := by
  have h1 := h.left
  have h2 : ¬ d.left = 0 := by omega
  have h3 : ¬ o.left = 0 := by rw [h.up.left]; decide
  unfold Dv.err
  rw [if_neg h2, if_neg h3, h.lines]
theorem twin_done {k : Nat} {d o : Dv} {l : List Ln} (h : Twin k d o) (hs : o.steps < k) (hg : ({ lines := l, left := d.left, steps := d.steps } : Dv).done.Good) (hu : Up 8 ({ lines := l, left := o.left, steps := o.steps } : Dv).done) :
    Twin k ({ lines := l, left := d.left, steps := d.steps } : Dv).done ({ lines := l, left := o.left, steps := o.steps } : Dv).done := by
  have h1 := h.left
  refine ⟨hg, hu, rfl, by simp [Dv.done, h.steps], by simp [Dv.done]; omega, ?_⟩
  show (if 0 < d.left then d.left - 1 else d.left) = (k : Int) - ((o.steps + 1 : Nat) : Int)
  rw [if_pos (by omega)]; omega
theorem Twin.both {k : Nat} {d o : Dv} (h : Twin k d o) (a : Act) (hs : o.steps < k) : Twin k (d.does a) (o.does a) := by
  unfold Dv.does
  by_cases h2 : a.kind % 5 = 2
  · rw [if_pos h2, if_pos h2]
    by_cases e : o.err a.off 1 = 0
    · have e' : d.err a.off 1 = 0 := by rw [h.err hs]; exact e
      have hg := h.gd.flush a.off
      have hu := h.up.flush a.off
      rw [Dv.flush_ok e'] at hg ⊢
      rw [Dv.flush_ok e] at hu ⊢
      simp only [Dv.line, h.lines] at hg hu ⊢
      exact twin_done h hs hg hu
    · have e' : ¬ d.err a.off 1 = 0 := by rw [h.err hs]; exact e
      rw [Dv.flush_no e, Dv.flush_no e']; exact h
  · rw [if_neg h2, if_neg h2]
    by_cases h3 : a.kind % 5 = 3
    · have hl : ¬ d.left = 0 := by have := h.left; omega
      have hl2 : ¬ o.left = 0 := by rw [h.up.left]; decide
      have hg := h.gd.fence
      have hu := h.up.fence
      rw [if_pos h3, if_pos h3]
      unfold Dv.fence at hg hu ⊢
      rw [if_neg hl] at hg ⊢
      rw [if_neg hl2] at hu ⊢
      simp only [Dv.settle, h.lines] at hg hu ⊢
      exact twin_done h hs hg hu
    · rw [if_neg h3, if_neg h3]
      by_cases h4 : a.kind % 5 = 4
      · rw [if_pos h4, if_pos h4]; exact h
      · rw [if_neg h4, if_neg h4]
        by_cases e : o.err a.off 8 = 0
        · have e' : d.err a.off 8 = 0 := by rw [h.err hs]; exact e
          have hg := h.gd.store a.off a.n
          have hu := h.up.store a.off a.n
          rw [Dv.store_ok a.n e'] at hg ⊢
          rw [Dv.store_ok a.n e] at hu ⊢
          simp only [Dv.line, h.lines] at hg hu ⊢
          exact twin_done h hs hg hu
        · have e' : ¬ d.err a.off 8 = 0 := by rw [h.err hs]; exact e
          rw [Dv.store_no _ e, Dv.store_no _ e']; exact h
theorem down_err {d : Dv} (h : d.left = 0) (off size : Int) : d.err off size = 12 := by unfold Dv.err; rw [if_pos h]
theorem down_does {d : Dv} (h : d.left = 0) (a : Act) : d.does a = d := by
  unfold Dv.does
  have e1 : ¬ d.err a.off 1 = 0 := by rw [down_err h]; decide
  have e8 : ¬ d.err a.off 8 = 0 := by rw [down_err h]; decide
  rw [Dv.flush_no e1, Dv.store_no _ e8, Dv.fence, if_pos h]
  simp
end V

/-- Two devices of the call's own, apart. -/
def Two (w0 : World) (v1 : Value) (d : V.Dv) (v2 : Value) (o : V.Dv) (wr : World) : Prop :=
  ∃ F1 F2, Dev wr v1 d F1 ∧ Dev wr v2 o F2 ∧ (∀ k ∈ F1, w0.heap.size ≤ k) ∧ (∀ k ∈ F2, w0.heap.size ≤ k) ∧ Below w0.heap.size w0 wr ∧ ∀ k ∈ F1, k ∉ F2
section
variable {w0 wr : World} {v1 v2 : Value} {d d' o : V.Dv}
theorem Two.below (h : Two w0 v1 d v2 o wr) : Below w0.heap.size w0 wr := by obtain ⟨_, _, _, _, _, _, h, _⟩ := h; exact h
theorem Two.swap (h : Two w0 v1 d v2 o wr) : Two w0 v2 o v1 d wr := by
  obtain ⟨F1, F2, h1, h2, h3, h4, h5, h6⟩ := h
  exact ⟨F2, F1, h2, h1, h4, h3, h5, fun k hk hk' => h6 k hk' hk⟩
theorem Two.one (h : Two w0 v1 d v2 o wr) : DevIn w0 v1 d wr := by obtain ⟨F1, F2, h1, h2, h3, h4, h5, h6⟩ := h; exact ⟨F1, h1, h3, h5⟩
theorem Two.drewN (h : Two w0 v1 d v2 o wr) (n : Nat) : Two w0 v1 d v2 o (wr.drewN n) := by
  obtain ⟨F1, F2, h1, h2, h3, h4, h5, h6⟩ := h
  exact ⟨F1, F2, h1.drewN n, h2.drewN n, h3, h4, below_drewN' h5 n, h6⟩
theorem Two.newer {w1 : World} (h : Two w0 v1 d v2 o wr) (hb : Below wr.heap.size wr w1) : Two w0 v1 d v2 o w1 := by
  obtain ⟨F1, F2, h1, h2, h3, h4, h5, h6⟩ := h
  exact ⟨F1, F2, h1.only (Only.of_below (F := []) hb) (fun k hk => by simp at hk), h2.only (Only.of_below (F := []) hb) (fun k hk => by simp at hk), h3, h4, h5.trans (hb.mono h5.size), h6⟩
theorem Two.runF (h : Two w0 v1 d v2 o wr) {f : FuncId} {args : Array Value} {R : Ending → Prop} (hc : ∀ F, Dev wr v1 d F → (∀ k ∈ F, w0.heap.size ≤ k) → Calls Try.prog f args wr fun e w' => R e ∧ DevStep wr v1 d' F w') :
    Calls Try.prog f args wr fun e w' => R e ∧ Two w0 v1 d' v2 o w' := by
  obtain ⟨F1, F2, h1, h2, h3, h4, h5, h6⟩ := h
  refine (hc F1 h1 h3).mono ?_
  rintro e w' ⟨hR, F', k1, k2, k3⟩
  refine ⟨hR, F', F2, k1, h2.only k2 h6, fun k hk => ?_, h4, h5.trans (k2.below h5.size h3), fun k hk hk2 => ?_⟩
  · rcases k3 k hk with e | e
    · exact h3 k e
    · exact Nat.le_trans h5.size e
  · rcases k3 k hk with e | e
    · exact h6 k e hk2
    · have := h2.lt k hk2; omega
theorem Two.run (h : Two w0 v1 d v2 o wr) {f : FuncId} {args : Array Value} {R : Ending → Prop} (hc : ∀ F, Dev wr v1 d F → Calls Try.prog f args wr fun e w' => R e ∧ DevStep wr v1 d' F w') :
    Calls Try.prog f args wr fun e w' => R e ∧ Two w0 v1 d' v2 o w' := h.runF fun F hF _ => hc F hF
/-- The picks stand in what was there: no block of the two. -/
theorem Two.crash (h : Two w0 v1 d v2 o wr) (PA : Option Addr) (pn pc : Nat) (pz : List Int) (hp : IsBytes w0 (.slice PA pn pc) pz) (hp2 : pz ≠ [] → ∀ a, PA = some a → a.block < w0.heap.size) (hs : d.steps ≤ 1000000000) :
    Calls Try.prog 23 #[v1, .slice PA pn pc] wr fun e w' => e = .returned (.tuple #[]) ∧ Two w0 v1 (d.crash pz) v2 o w' :=
  h.runF (R := fun e => e = .returned (.tuple #[])) fun F hF hlo => dev_crash hF PA pn pc pz (hp.below h.below) (fun hz a e hf => by have := hp2 hz a e; have := hlo _ hf; omega) hs
/-- Calls on a device that is down. -/
theorem Two.load0 (h : Two w0 v1 d v2 o wr) (hd : d.left = 0) :
    Calls Try.prog 19 #[v1, .int .i64 0] wr fun e w' => e = .returned (.tuple #[.int .u64 0, .int .i64 12]) ∧ ∃ m, w' = wr.drewN m := by
  have h1 := in_load h.one 0 (by decide)
  rw [V.down_err hd, show d.load 0 = 0 by unfold V.Dv.load; rw [if_neg (by rw [V.down_err hd]; decide)]] at h1
  exact h1
theorem Two.store0 (h : Two w0 v1 d v2 o wr) (hd : d.left = 0) (hs : d.steps ≤ 1000000000) :
    Calls Try.prog 27 #[v1, .int .i64 0, .int .u64 1] wr fun e w' => e = .returned (.int .i64 12) ∧ Two w0 v1 d v2 o w' :=
  h.run (R := fun e => e = .returned (.int .i64 12)) fun F hF => by
    have h1 := dev_store hF 0 (by decide) 1 (by decide) hs
    rw [V.down_err hd, V.Dv.store_no _ (by rw [V.down_err hd]; decide)] at h1
    exact h1
theorem Two.flush0 (h : Two w0 v1 d v2 o wr) (hd : d.left = 0) (hs : d.steps ≤ 1000000000) :
    Calls Try.prog 15 #[v1, .int .i64 0] wr fun e w' => e = .returned (.int .i64 12) ∧ Two w0 v1 d v2 o w' :=
  h.run (R := fun e => e = .returned (.int .i64 12)) fun F hF => by
    have h1 := dev_flush hF 0 (by decide) hs
    rw [V.down_err hd, V.Dv.flush_no (by rw [V.down_err hd]; decide)] at h1
    exact h1
theorem Two.fence0 (h : Two w0 v1 d v2 o wr) (hd : d.left = 0) (hs : d.steps ≤ 1000000000) :
    Calls Try.prog 17 #[v1] wr fun e w' => e = .returned (.int .i64 12) ∧ Two w0 v1 d v2 o w' :=
  h.run (R := fun e => e = .returned (.int .i64 12)) fun F hF => by
    have h1 := dev_fence hF hs
    rw [V.Dv.state, if_pos hd, V.Dv.fence, if_pos hd] at h1
    exact h1
/-- A call on the first one, behind a block that is new: that block stays. -/
theorem Two.runA (h : Two w0 v1 d v2 o wr) (ob : Obj) {f : FuncId} {args : Array Value} {R : Ending → Prop} (hc : ∀ F, Dev (wr.alloc ob) v1 d F → Calls Try.prog f args (wr.alloc ob) fun e w' => R e ∧ DevStep (wr.alloc ob) v1 d' F w') :
    Calls Try.prog f args (wr.alloc ob) fun e w' => R e ∧ Two w0 v1 d' v2 o w' ∧ w'.heap[wr.heap.size]? = some ob := by
  have hn := h.newer ((Below.refl _ _).alloc (Nat.le_refl _) ob)
  obtain ⟨F1, F2, h1, h2, h3, h4, h5, h6⟩ := h
  obtain ⟨hnb⟩ : Nonempty (Below wr.heap.size wr (wr.alloc ob)) := ⟨(Below.refl _ _).alloc (Nat.le_refl _) ob⟩
  have k1 := h1.only (Only.of_below (F := []) hnb) (fun k hk => by simp at hk)
  have k2 := h2.only (Only.of_below (F := []) hnb) (fun k hk => by simp at hk)
  refine (hc F1 k1).mono ?_
  rintro e w' ⟨hR, F', j1, j2, j3⟩
  refine ⟨hR, ⟨F', F2, j1, k2.only j2 h6, fun k hk => ?_, h4, hn.below.trans (j2.below hn.below.size h3), fun k hk hk2 => ?_⟩, ?_⟩
  · rcases j3 k hk with e | e
    · exact h3 k e
    · have := h5.size; simp at e; omega
  · rcases j3 k hk with e | e
    · exact h6 k e hk2
    · have := h2.lt k hk2; simp at e; omega
  · exact (j2.block wr.heap.size (by simp) (fun hf => by have := h1.lt _ hf; omega)).trans (heap_alloc_new wr ob)
theorem two_new (n : Nat) (h1 : 1 ≤ n) (h2 : n ≤ 1024) (h : DevIn w0 v1 d wr) : Calls Try.prog 33 #[.int .i64 (n : Int)] wr fun e w' => ∃ D, e = .returned (.pointer (some ⟨D, 0, none⟩)) ∧ Two w0 v1 d (.pointer (some ⟨D, 0, none⟩)) (V.newDv n) w' := by
  obtain ⟨F1, k1, k2, k3⟩ := h
  refine (dev_new n h1 h2 wr).mono ?_
  rintro e w' ⟨v, F, rfl, hd, hb1, hF⟩
  have hd' := hd
  obtain ⟨D, L, ps, rfl, _⟩ := hd'
  exact ⟨D, rfl, F1, F, k1.only (Only.of_below (F := []) hb1) (fun k hk => by simp at hk), hd, k2, fun k hk => Nat.le_trans k3.size (hF k hk), k3.trans (hb1.mono k3.size), fun k hk hk2 => by have := k1.lt k hk; have := hF k hk2; omega⟩
theorem two_image (h : Two w0 v1 d v2 o wr) : Calls Try.prog 30 #[v1] wr (fun e w' => NewBytes wr d.image e w' ∧ Two w0 v1 d v2 o w') := by
  have h' := h
  obtain ⟨F1, F2, h1, h2, h3, h4, h5, h6⟩ := h
  exact (dev_image h1).mono fun e w' hn => ⟨hn, h'.newer (by obtain ⟨_, _, _, _, hb⟩ := hn; exact hb)⟩
end
/-- Bytes as a string, whole. -/
theorem conv_all {w : World} {g n c : Nat} {zs : List Int} (h : IsBytes w (.slice (some ⟨g, 0, none⟩) n c) zs) :
    ∀ dst, Try.prog.underlying dst = some .string → (convert 22 dst (.slice (some ⟨g, 0, none⟩) n c)).run Try.prog w = .ok (.string (strOfNums zs)) w := by
  have hl := h.len'.1
  refine run_convert_bytes_arg (P := Try.prog) w 22 5 Try.underlying22 Try.underlying5 g 0 n c zs hl (fun i hi => ?_)
  exact bytes_cell h i hi

set_option maxHeartbeats 2000000 in
set_option maxRecDepth 100000 in
theorem nvmStop_in (A : Option Addr) (len cap : Nat) (l : List Act) (q : Nat) (hq : q ≤ 255) (PA : Option Addr) (pn pc : Nat) (pz : List Int) (w : World) (h0 : IsActs w A len cap l) (hp : IsBytes w (.slice PA pn pc) pz) (hp2 : pz ≠ [] → ∀ a, PA = some a → a.block < w.heap.size)
    (hhv : heavyF l = false) (hpn : pn ≤ 100) :
    Calls Try.prog 6 #[.slice A len cap, .int .u8 (q : Int), .slice PA pn pc] w fun e w' => e = .returned (.bool true) ∧ Below w.heap.size w w' := by
  have hl150 := heavy_out w A len cap l h0 hhv
  have HH := Lib.hid (fun wr hb => heavy_any w wr A len cap l h0 hb)
  rw [hhv] at HH
  have HA := Lib.hid (fun (wr : World) (hb : Below w.heap.size w wr) (i : Nat) (hi : i < len) => h0.at hb hi)
  have hlc := h0.2.1
  have hcm := h0.2.2.1
  unfold maxLen at hcm
  have HP := Lib.hid hp
  have HP2 := Lib.hid hp2
  obtain ⟨_, hpc, hpm⟩ := hp.len'
  unfold maxLen at hpm
  have hm : ((q : Int) % 40) = ((q % 40 : Nat) : Int) := rfl
  have hk : q % 40 ≤ 39 := by omega
  have HTW := Lib.hid (V.twin_start (q % 40) hk)
  clear h0 hhv hp hp2
  generalize q % 40 = k at *
  go_enter Try.func6, Try.ntmps6
  go_wp2_with fail
  refine (alive_any _).mono ?_
  rintro e w1 ⟨rfl, hb1⟩
  have HB1 := Lib.hid hb1
  clear hb1
  go_wp2_with fail
  refine (HH.out w1 HB1.out).mono ?_
  rintro e w2 ⟨rfl, hb2⟩
  have HB2 : Hid (Below w.heap.size w w2) := HB1.out.trans (hb2.mono HB1.out.size)
  clear hb2
  go_wp2_with fail
  refine (in_new 8 (by decide) (by decide) w w2 HB2.out).mono ?_
  rintro e w3 ⟨D, rfl, hd3⟩
  have HD3 := Lib.hid hd3
  clear hd3
  go_wp2_with fail
  refine (two_new 8 (by decide) (by decide) HD3.out).mono ?_
  rintro e w4 ⟨D2, rfl, hd4⟩
  have HD4 := Lib.hid hd4
  clear hd4
  go_wp2_with fail
  simp only [hm]
  clear hm
  have hs5 := HD4.out.run (fun F hF => dev_stop hF (k : Int) (by omega))
  refine hs5.mono ?_
  clear hs5
  rintro e w5 ⟨rfl, hd5⟩
  have HD5 := Lib.hid hd5
  clear hd5
  go_wp2_with fail
  have hk9 : ∀ (d o : V.Dv), V.Twin k d o → d.steps ≤ 1000000000 ∧ o.steps ≤ 1000000000 := fun d o h => by have := h.le; have := h.steps; omega
  have HK9 := Lib.hid hk9
  clear hk9
  go_loopw [11, 39] (fun _ x wr => ∃ j : Nat, j ≤ len ∧ x = .int .i64 j ∧ ∃ d o, Hid (Two w (.pointer (some ⟨D, 0, none⟩)) d (.pointer (some ⟨D2, 0, none⟩)) o wr) ∧ Hid (V.Twin k d o)) (fun _ x _ => len - (intOf x).toNat)
  case atStart => exact ⟨0, by omega, rfl, _, _, HD5.out, HTW.out⟩
  case round =>
    obtain ⟨j, hj, rfl, d, o, htwo, htw⟩ := hrel
    by_cases hlt : j < len
    · obtain ⟨a, b, oo, e1, hga, rfl, hc0, hc1, hc2, hc3⟩ := HA.out _ htwo.out.below j hlt
      have HDO := Lib.hid (htwo.out.runA (.cells #[.int .u8 (a.kind : Int), .int .i64 a.off, .int .u64 (a.n : Int), .slice a.pa a.picks.length a.pc] 35) (fun F hF => dev_does _ _ d F a hF hga.kind hga.off hga.n (HK9.out _ _ htw.out).1))
      have HDO2 := Lib.hid (fun (W : World) (d' : V.Dv) (h : Two w (.pointer (some ⟨D, 0, none⟩)) d' (.pointer (some ⟨D2, 0, none⟩)) o W) => h.swap.run (fun F hF => dev_does W _ o F a hF hga.kind hga.off hga.n (HK9.out _ _ htw.out).2))
      have HDW := Lib.hid (fun h => V.down_does (d := d) h a)
      have HBO := Lib.hid (fun h => htw.out.both a h)
      have HDN := Lib.hid (fun h => htw.out.down h)
      have hst9 := (HK9.out _ _ htw.out).2
      clear e1 hga
      obtain ⟨ak, ao, an, apa, apc, apk⟩ := a
      simp only [Act.agg, Act.pv] at hc0 hc1 hc2 hc3 HDO HDO2
      go_wp2_with fail
      refine HDO.out.mono ?_
      rintro e w6 ⟨rfl, hd6, hbw'⟩
      have hbw : Hid (w6.heap[wr.heap.size]? = some (.cells #[.int .u8 (ak : Int), .int .i64 ao, .int .u64 (an : Int), .slice apa apk.length apc] 35 (0, 0))) := hbw'
      have HD6 := Lib.hid hd6
      clear hd6 hbw'
      have HST := Lib.hid (in_steps HD6.out.swap.one)
      go_wp2_with fail
      refine HST.out.mono ?_
      rintro e w' ⟨rfl, rfl⟩
      by_cases hs : o.steps < k
      · have hs2 : (o.steps : Int) < (k : Int) := by omega
        have cb0 : w6.cell? ⟨wr.heap.size, 0, none⟩ = some (.int .u8 (ak : Int)) := cell_of_row w6 _ 0 _ _ _ hbw.out
        have cb1 : w6.cell? ⟨wr.heap.size, 1, none⟩ = some (.int .i64 ao) := cell_of_row w6 _ 1 _ _ _ hbw.out
        have cb2 : w6.cell? ⟨wr.heap.size, 2, none⟩ = some (.int .u64 (an : Int)) := cell_of_row w6 _ 2 _ _ _ hbw.out
        have cb3 : w6.cell? ⟨wr.heap.size, 3, none⟩ = some (.slice apa apk.length apc) := cell_of_row w6 _ 3 _ _ _ hbw.out
        have HB := Lib.hid (HBO.out hs)
        clear hs
        go_wp2_with fail
        refine (HDO2.out _ _ HD6.out).mono ?_
        rintro e w7 ⟨rfl, hd7⟩
        have HD7 := Lib.hid hd7.swap
        clear hd7 cb0 cb1 cb2 cb3
        go_wp2
        go_roundw
        case rel => exact ⟨j + 1, by omega, by go_num, _, _, HD7.out, HB.out⟩
        case measure => simp [intOf]; omega
      · have hs2 : (k : Int) ≤ (o.steps : Int) := by omega
        have HE := Lib.hid (HDW.out (HDN.out hs))
        clear hs
        go_wp2
        go_roundw
        case rel => exact ⟨j + 1, by omega, by go_num, d, o, by rw [← HE.out]; exact HD6.out, htw.out⟩
        case measure => simp [intOf]; omega
    · obtain rfl : j = len := by omega
      have hst := htw.out.steps
      have him : d.image = o.image := by rw [V.Dv.image, htw.out.lines]; rfl
      have hle := htw.out.le
      have HTa := Lib.hid (htwo.out.drewN 1)
      have HSd : Hid (Calls Try.prog 29 #[.pointer (some ⟨D, 0, none⟩)] wr.drew fun e w' => e = .returned (.int .i64 (o.steps : Int)) ∧ wr.drew = w') := by
        have h := in_steps HTa.out.one
        rw [hst] at h
        exact h
      have HSo : Hid (Calls Try.prog 29 #[.pointer (some ⟨D2, 0, none⟩)] wr.drew fun e w' => e = .returned (.int .i64 (o.steps : Int)) ∧ wr.drew = w') := in_steps HTa.out.swap.one
      have HId : Hid (Calls Try.prog 30 #[.pointer (some ⟨D, 0, none⟩)] wr.drew fun e w' => NewBytes wr.drew o.image e w' ∧ Two w (.pointer (some ⟨D, 0, none⟩)) d (.pointer (some ⟨D2, 0, none⟩)) o w') := by
        have h := two_image HTa.out
        rw [him] at h
        exact h
      have HIo := Lib.hid (fun (W : World) (h : Two w (.pointer (some ⟨D, 0, none⟩)) d (.pointer (some ⟨D2, 0, none⟩)) o W) => two_image h.swap)
      have HSt := Lib.hid (fun (W : World) (h : Two w (.pointer (some ⟨D, 0, none⟩)) d (.pointer (some ⟨D2, 0, none⟩)) o W) => in_steps h.one)
      rw [hst] at HSt
      have h9 := HK9.out _ _ htw.out
      have HCd := Lib.hid (fun (W : World) (h : Two w (.pointer (some ⟨D, 0, none⟩)) d (.pointer (some ⟨D2, 0, none⟩)) o W) => h.crash PA pn pc pz HP.out HP2.out h9.1)
      have HCo := Lib.hid (fun (W : World) (h : Two w (.pointer (some ⟨D, 0, none⟩)) (d.crash pz) (.pointer (some ⟨D2, 0, none⟩)) o W) => h.swap.crash PA pn pc pz HP.out HP2.out h9.2)
      have him2 : (d.crash pz).image = (o.crash pz).image := by
        show (V.crashL d.lines pz).flatMap _ = (V.crashL o.lines pz).flatMap _
        rw [htw.out.lines]
      have HJd := Lib.hid (fun (W : World) (h : Two w (.pointer (some ⟨D, 0, none⟩)) (d.crash pz) (.pointer (some ⟨D2, 0, none⟩)) (o.crash pz) W) => two_image h)
      rw [him2] at HJd
      have HJo := Lib.hid (fun (W : World) (h : Two w (.pointer (some ⟨D, 0, none⟩)) (d.crash pz) (.pointer (some ⟨D2, 0, none⟩)) (o.crash pz) W) => two_image h.swap)
      have HFc := Lib.hid (fun (W : World) (h : Two w (.pointer (some ⟨D, 0, none⟩)) (d.crash pz) (.pointer (some ⟨D2, 0, none⟩)) (o.crash pz) W) => in_fence h.one (by exact h9.1))
      have hstc : (d.crash pz).state = 0 := rfl
      rw [hstc] at HFc
      have HDWN := Lib.hid (fun h : o.steps = k => htw.out.down (by omega))
      clear h9 him2 hstc
      have hsk : (o.steps : Int) ≤ (k : Int) := by omega
      have hsk2 : ¬ (k < o.steps) := by omega
      have hsk3 : decide (k < o.steps) = false := by simp; omega
      have HST := Lib.hid hst
      have HST2 : Hid (d.steps ≤ 1000000000) := (HK9.out _ _ htw.out).1
      clear hst him hle hj hlt
      go_upto_region 17 with fail
      go_cut [73] (fun s wx => s = .bool false ∧ Hid (Two w (.pointer (some ⟨D, 0, none⟩)) d (.pointer (some ⟨D2, 0, none⟩)) o wx))
      case first =>
        go_region_with (first
          | (go_at_call 29; first
              | ((with_reducible refine HSd.out.mono ?_); rintro e w' ⟨rfl, rfl⟩)
              | ((with_reducible refine HSo.out.mono ?_); rintro e w' ⟨rfl, rfl⟩))
          | (go_at_call 30; first
              | ((with_reducible refine HId.out.mono ?_); rintro e w6 ⟨⟨g1, rfl, hg1, hi1, hb1⟩, ht6⟩; have HT2 := Lib.hid ht6; have HI1 := Lib.hid hi1; have hcv1 := conv_all hi1 9 Try.underlying9; clear hg1 hi1 hb1 ht6)
              | (go_loud (refine (HIo.out _ HT2.out).mono ?_; rintro e w7 ⟨⟨g2, rfl, hg2, hi2, hb2⟩, ht7⟩; have HT3 := Lib.hid ht7.swap; have hcv2 := conv_all hi2 9 Try.underlying9; have hcv3 := conv_all (HI1.out.below hb2) 9 Try.underlying9; clear hg2 hi2 hb2 ht7))))
        all_goals (go_wp2_with fail; go_meet; exact ⟨rfl, HT3⟩)
      case rest =>
        obtain ⟨rfl, HT3⟩ := hcut
        by_cases heq : o.steps = k
        · have hdn := HDWN.out heq
          have HL0 := Lib.hid (fun (W : World) (h : Two w (.pointer (some ⟨D, 0, none⟩)) d (.pointer (some ⟨D2, 0, none⟩)) o W) => h.load0 hdn)
          have HS0 := Lib.hid (fun (W : World) (h : Two w (.pointer (some ⟨D, 0, none⟩)) d (.pointer (some ⟨D2, 0, none⟩)) o W) => h.store0 hdn HST2.out)
          have HF0 := Lib.hid (fun (W : World) (h : Two w (.pointer (some ⟨D, 0, none⟩)) d (.pointer (some ⟨D2, 0, none⟩)) o W) => h.flush0 hdn HST2.out)
          have HE0 := Lib.hid (fun (W : World) (h : Two w (.pointer (some ⟨D, 0, none⟩)) d (.pointer (some ⟨D2, 0, none⟩)) o W) => h.fence0 hdn HST2.out)
          clear hdn
          go_wp2_with fail
          refine (HSt.out _ HT3.out).mono ?_
          rintro e w' ⟨rfl, rfl⟩
          go_wp2_with fail
          refine (HL0.out _ HT3.out).mono ?_
          rintro e w' ⟨rfl, m8, rfl⟩
          have HT4 := Lib.hid (HT3.out.drewN m8)
          go_wp2_with fail
          refine (HS0.out _ HT4.out).mono ?_
          rintro e w9 ⟨rfl, ht9⟩
          have HT5 := Lib.hid ht9
          clear ht9
          go_wp2_with fail
          refine (HF0.out _ HT5.out).mono ?_
          rintro e w10 ⟨rfl, ht9⟩
          have HT6 := Lib.hid ht9
          clear ht9
          go_wp2_with fail
          refine (HE0.out _ HT6.out).mono ?_
          rintro e w11 ⟨rfl, ht9⟩
          have HT7 := Lib.hid ht9
          clear ht9
          go_wp2_with fail
          refine (HCd.out _ HT7.out).mono ?_
          rintro e w12 ⟨rfl, ht9⟩
          have HT8 := Lib.hid ht9
          clear ht9
          go_wp2_with fail
          refine (HCo.out _ HT8.out).mono ?_
          rintro e w13 ⟨rfl, ht9⟩
          have HT9 := Lib.hid ht9.swap
          clear ht9
          have HTa2 := Lib.hid (HT9.out.drewN 1)
          have HJd2 : Hid (Calls Try.prog 30 #[.pointer (some ⟨D, 0, none⟩)] w13.drew fun e w' => NewBytes w13.drew (o.crash pz).image e w' ∧ Two w (.pointer (some ⟨D, 0, none⟩)) (d.crash pz) (.pointer (some ⟨D2, 0, none⟩)) (o.crash pz) w') := HJd.out _ HTa2.out
          go_wp2_with fail
          go_region_with (first
            | (go_at_call 30; first
                | ((with_reducible refine HJd2.out.mono ?_); rintro e w14 ⟨⟨g3, rfl, hg1, hi1, hb1⟩, ht6⟩; have HTb := Lib.hid ht6; have HI2 := Lib.hid hi1; have hcv4 := conv_all hi1 9 Try.underlying9; clear hg1 hi1 hb1 ht6)
                | (refine (HJo.out _ HTb.out).mono ?_; rintro e w15 ⟨⟨g4, rfl, hg2, hi2, hb2⟩, ht7⟩; have HTc := Lib.hid ht7.swap; have hcv5 := conv_all hi2 9 Try.underlying9; have hcv6 := conv_all (HI2.out.below hb2) 9 Try.underlying9; clear hg2 hi2 hb2 ht7))
            | (go_at_call 17; refine (HFc.out _ HTc.out).mono ?_; rintro e w16 ⟨rfl, hd16⟩; have HDz := Lib.hid hd16; clear hd16))
          all_goals (go_wp2_with fail; go_ret; exact ⟨rfl, HDz.out.below⟩)
        · go_wp2_with fail
          refine (HSt.out _ HT3.out).mono ?_
          rintro e w' ⟨rfl, rfl⟩
          go_wp2_with fail
          refine (HCd.out _ HT3.out).mono ?_
          rintro e w12 ⟨rfl, ht9⟩
          have HT8 := Lib.hid ht9
          clear ht9
          go_wp2_with fail
          refine (HCo.out _ HT8.out).mono ?_
          rintro e w13 ⟨rfl, ht9⟩
          have HT9 := Lib.hid ht9.swap
          clear ht9
          have HTa2 := Lib.hid (HT9.out.drewN 1)
          have HJd2 : Hid (Calls Try.prog 30 #[.pointer (some ⟨D, 0, none⟩)] w13.drew fun e w' => NewBytes w13.drew (o.crash pz).image e w' ∧ Two w (.pointer (some ⟨D, 0, none⟩)) (d.crash pz) (.pointer (some ⟨D2, 0, none⟩)) (o.crash pz) w') := HJd.out _ HTa2.out
          go_wp2_with fail
          go_region_with (first
            | (go_at_call 30; first
                | ((with_reducible refine HJd2.out.mono ?_); rintro e w14 ⟨⟨g3, rfl, hg1, hi1, hb1⟩, ht6⟩; have HTb := Lib.hid ht6; have HI2 := Lib.hid hi1; have hcv4 := conv_all hi1 9 Try.underlying9; clear hg1 hi1 hb1 ht6)
                | (refine (HJo.out _ HTb.out).mono ?_; rintro e w15 ⟨⟨g4, rfl, hg2, hi2, hb2⟩, ht7⟩; have HTc := Lib.hid ht7.swap; have hcv5 := conv_all hi2 9 Try.underlying9; have hcv6 := conv_all (HI2.out.below hb2) 9 Try.underlying9; clear hg2 hi2 hb2 ht7))
            | (go_at_call 17; refine (HFc.out _ HTc.out).mono ?_; rintro e w16 ⟨rfl, hd16⟩; have HDz := Lib.hid hd16; clear hd16))
          all_goals (go_wp2_with fail; go_ret; exact ⟨rfl, HDz.out.below⟩)
end Go.Proofs.Ytdhjjiholmcagaa
