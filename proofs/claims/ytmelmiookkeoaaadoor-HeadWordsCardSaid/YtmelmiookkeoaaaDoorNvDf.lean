
/- Contract of a device's Crash. -/
import Derived.Test.YtmelmiookkeoaaaDoorNvDe

import Derived.Deep.QuietTactic

import Derived.BigQuiet

namespace Go.Proofs.YtmelmiookkeoaaaDoor

open Go.RowKit

theorem IsInts.only {k : IntKind} {w w' : World} {F : List Nat} {A : Option Addr} {len cap : Nat} {zs : List Int} (h : IsInts k w (.slice A len cap) zs) (ho : Only F w w') (hF : zs ≠ [] → ∀ a, A = some a → a.block ∉ F) : IsInts k w' (.slice A len cap) zs := by
  obtain ⟨a, c, e, h2, h3, h4, h5⟩ := h
  simp only [Value.slice.injEq] at e
  obtain ⟨rfl, rfl, rfl⟩ := e
  refine ⟨A, cap, rfl, h2, h3, ?_, h5⟩
  rcases h4 with rfl | ⟨b, o, rfl, hc⟩
  · exact .inl rfl
  · refine .inr ⟨b, o, rfl, fun i hi => ?_⟩
    exact (World.cell?_of_block (w := w) (a := ⟨b, o + i, none⟩) (ho.block b (World.block_lt_of_cell? w _ (hc i hi)) (hF (by intro e; subst e; simp at hi) _ rfl))).trans (hc i hi)
theorem IsInts.len' {k : IntKind} {w : World} {a : Option Addr} {len cap : Nat} {zs : List Int} (h : IsInts k w (.slice a len cap) zs) : zs.length = len ∧ len ≤ cap ∧ cap ≤ maxLen := by
  obtain ⟨a', cap', e, h1, h2, h3, h4⟩ := h
  simp only [Value.slice.injEq] at e
  obtain ⟨rfl, rfl, rfl⟩ := e
  exact ⟨rfl, h1, h2⟩
/-- Picks, the first one taken. -/
theorem picks_tail {w : World} {A : Option Addr} {len cap : Nat} {z : Int} {zs : List Int} (h : IsBytes w (.slice A len cap) (z :: zs)) :
    ∃ g o, A = some ⟨g, o, none⟩ ∧ len = zs.length + 1 ∧ len ≤ cap ∧ cap ≤ maxLen ∧ w.cell? ⟨g, o, none⟩ = some (.int .u8 z) ∧ 0 ≤ z ∧ z ≤ 255 ∧
      ∃ A', (if cap = 1 then some (⟨g, o, none⟩ : Addr) else some ⟨g, o + 1, none⟩) = A' ∧ IsBytes w (.slice A' (len - 1) (cap - 1)) zs ∧ ∀ a, A' = some a → a.block = g := by
  obtain ⟨a, c, e, h2, h3, h4, h5⟩ := h
  simp only [Value.slice.injEq, List.length_cons] at e
  obtain ⟨rfl, rfl, rfl⟩ := e
  simp only [List.length_cons] at h2
  have hr := byte_range h5 z (by simp)
  rcases h4 with h4 | ⟨b, o, rfl, hc⟩
  · cases h4
  · refine ⟨b, o, rfl, rfl, h2, h3, hc 0 (by simp), hr.1, hr.2, ?_⟩
    by_cases hcap : cap = 1
    · have hz : zs = [] := List.eq_nil_of_length_eq_zero (by omega)
      subst hz
      refine ⟨some ⟨b, o, none⟩, by simp [hcap], ⟨_, _, rfl, by simp, by omega, .inl rfl, fun _ hz => by cases hz⟩, fun a e => by cases e; rfl⟩
    · refine ⟨some ⟨b, o + 1, none⟩, by simp [hcap], ⟨_, _, rfl, by omega, by omega, .inr ⟨b, o + 1, rfl, fun i hi => ?_⟩, fun y hy => h5 y (List.mem_cons_of_mem _ hy)⟩, fun a e => by cases e; rfl⟩
      have := hc (i + 1) (by simp; omega)
      rw [show o + 1 + i = o + (i + 1) by omega, this]
      rfl

theorem crash_cons0 {l : V.Ln} (h : l.over.length = 0) (B : List V.Ln) (zs : List Int) : V.crashL (l :: B) zs = l.back 0 :: V.crashL B zs := by
  conv => lhs; unfold V.crashL
  rw [if_pos h]
theorem crash_consN {l : V.Ln} (h : ¬ l.over.length = 0) (B : List V.Ln) : V.crashL (l :: B) [] = l.back 0 :: V.crashL B [] := by
  conv => lhs; unfold V.crashL
  rw [if_neg h]
theorem crash_consP {l : V.Ln} (h : ¬ l.over.length = 0) (B : List V.Ln) (z : Int) (zs : List Int) : V.crashL (l :: B) (z :: zs) = l.back (z.toNat % (l.over.length + 1)) :: V.crashL B zs := by
  conv => lhs; unfold V.crashL
  rw [if_neg h]
theorem drop_split {ls done A B : List V.Ln} {l : V.Ln} {j : Nat} (hj : j < ls.length) (hd : done.length = j) (h : done ++ ls.drop j = A ++ l :: B) (hA : A.length = j) : done = A ∧ ls.drop j = l :: B ∧ ls.drop (j + 1) = B ∧ l ∈ ls := by
  obtain ⟨h1, h2⟩ := List.append_inj h (by omega)
  have h3 := h2
  rw [List.drop_eq_getElem_cons hj, List.cons.injEq] at h3
  exact ⟨h1, h2, h3.2, by rw [← h3.1]; exact List.getElem_mem hj⟩

theorem LnPost.of_drewN {w : World} {L : Nat} {pre post : List Value} {v : Value} {l' : V.Ln} {e : Ending} {w' : World} {m : Nat} (h : LnPost (w.drewN m) L pre post v l' e w') : LnPost w L pre post v l' e w' := by
  obtain ⟨a, v', b, c, d⟩ := h
  exact ⟨a, v', b, ⟨c.os, c.tape, c.output, c.size, c.block⟩, d⟩
/-- Where a Crash is behind j lines: what is left of the picks, what is left to do. -/
def CrashRel (w : World) (D L : Nat) (F : List Nat) (ls : List V.Ln) (steps : Nat) (zs : List Int) (j : Nat) (pv : Value) (wr : World) : Prop :=
  ∃ A len cap done zs', pv = .slice A len cap ∧ IsBytes w (.slice A len cap) zs' ∧ (zs' ≠ [] → ∀ a, A = some a → a.block ∉ F) ∧ V.crashL ls zs = done ++ V.crashL (ls.drop j) zs' ∧ done.length = j ∧ Mid w D L F (done ++ ls.drop j) (-1) steps wr

section

variable {w : World} {v : Value} {d : V.Dv} {F : List Nat}

set_option maxRecDepth 100000 in
theorem dev_crash (h : Dev w v d F) (A : Option Addr) (len cap : Nat) (zs : List Int) (hp : IsBytes w (.slice A len cap) zs) (hF : zs ≠ [] → ∀ a, A = some a → a.block ∉ F) (hs : d.steps ≤ 1000000000) :
    Calls Tryd.prog 22 #[v, .slice A len cap] w fun e w' => e = .returned (.tuple #[]) ∧ DevStep w v (d.crash zs) F w' := by
  have HT := Lib.hid (dev_state h)
  have HG := Lib.hid (h.good.crash zs)
  have hst : (d.state == 1) = false := by
    rw [V.Dv.state]
    by_cases hl : d.left = 0
    · rw [if_pos hl]; rfl
    · rw [if_neg hl]; rfl
  have hm := h.good.most
  have HO := Lib.hid h.good.over
  obtain ⟨D, L, ps, rfl, rfl, h3, h4, hg⟩ := h
  have e : d.lines.length = ps.length := by rw [h3, List.length_map]
  have c1 := h4.c1
  have f1 := h4.fr 1
  have c0 := h4.c0
  rw [← e] at c0
  have HM : Hid (Mid w D L (foot D L ps) d.lines (-1) d.steps (w.setCell ⟨D, 1, none⟩ (.int .i64 (-1)))) := by
    have hO := Only.setCell w ⟨D, 1, none⟩ (.int .i64 (-1))
    have h1 := heap_setCell_same w D 1 _ _ (.int .i64 (-1)) h4.head
    refine ⟨ps, h3, h4.reset (-1) d.steps hO (by rw [h1]; rfl), hO.mono (fun j hj => ?_), fun k hk => .inl hk⟩
    rw [List.mem_singleton.1 hj]; exact mem_foot.2 (.inl rfl)
  have HLL : Hid (∀ (W : World) (pre post : List Value) (l : V.Ln) (v : Value) (o k : Nat), LineAt W L pre post l v → pre.length = o → l ∈ d.lines → k ≤ l.over.length → Calls Tryd.prog 46 #[.pointer (some ⟨L, o, none⟩), .int .i64 (k : Int)] W (LnPost W L pre post v (l.back k))) := by
    rintro W pre post l v _ k h rfl hm hk
    exact ln_back W L pre post l v k h hk (Nat.le_trans (HO.out l hm) hs)
  have HCO : Hid (∀ (W : World) (o : Nat) (A : Option Addr) (m c : Nat), W.cell? ⟨L, o + 64, none⟩ = some (.slice A m c) → m ≤ 1000000000 → Calls Tryd.prog 45 #[.pointer (some ⟨L, o, none⟩)] W fun e w' => e = .returned (.int .i64 ((m + 1 : Nat) : Int)) ∧ W = w') := fun W o A m c h1 h2 => ln_contents W L o A m c h1 h2
  have HFIN : Hid (∀ pv w1, CrashRel w D L (foot D L ps) d.lines d.steps zs d.lines.length pv w1 → DevStep w (.pointer (some ⟨D, 0, none⟩)) (d.crash zs) (foot D L ps) w1) := by
    rintro pv w1 ⟨_, _, _, done, zs', _, _, _, h1, h2, ps2, e1, e2, e3, e4⟩
    rw [List.drop_length] at h1 e1
    rw [V.crashL, List.append_nil] at h1
    rw [List.append_nil] at e1
    exact ⟨_, ⟨D, L, ps2, rfl, rfl, by rw [← e1, ← h1]; rfl, e2, HG.out⟩, e3, e4⟩
  have HR0 : Hid (CrashRel w D L (foot D L ps) d.lines d.steps zs 0 (.slice A len cap) (w.setCell ⟨D, 1, none⟩ (.int .i64 (-1)))) := ⟨A, len, cap, [], zs, rfl, hp, hF, by simp, rfl, by simpa using HM.out⟩
  clear h3 h4 hg e hp hF HM
  generalize hn : d.lines.length = n at *
  have HN := Lib.hid hn
  clear hn
  go_enter Tryd.func22, Tryd.ntmps22
  go_wp2_with fail
  refine HT.out.mono ?_
  rintro e w' ⟨rfl, rfl⟩
  go_wp2_with fail
  go_loopw [1, 4, 5, 6, 18] (fun pv _ _ _ x wr => ∃ j : Nat, j ≤ n ∧ x = .int .i64 j ∧ CrashRel w D L (foot D L ps) d.lines d.steps zs j pv wr) (fun _ _ _ _ x _ => n - (intOf x).toNat)
  case atStart => exact ⟨0, by omega, rfl, HR0.out⟩
  case round =>
    obtain ⟨j, hj, rfl, A', len', cap', done, zs', rfl, hb, hblk, hcr, hdl, hmid⟩ := hrel
    by_cases hlt : j < n
    · obtain ⟨a, p, b, e1, e2, e3, hline, c0', hk⟩ := hmid.at (j := j) (by rw [List.length_append, List.length_drop, HN.out]; omega)
      have hll : (done ++ d.lines.drop j).length = n := by rw [List.length_append, List.length_drop, HN.out]; omega
      rw [hll] at c0'
      obtain ⟨k1, k2, k3, k4⟩ := drop_split (by rw [HN.out]; exact hlt) hdl e1 (by rw [List.length_map]; exact e2)
      have hbw : Only (foot D L ps) w wr := by obtain ⟨_, _, _, h, _⟩ := hmid; exact h
      have HBR := Lib.hid (IsInts.only hb hbw hblk)
      have hov := hline.over
      obtain ⟨Av, cv, hv, _⟩ := owns_form hline.own
      rw [hv, e3] at hov
      have hol := HO.out p.1 k4
      have HBK : Hid (∀ (m k : Nat) (q : Int), k ≤ p.1.over.length → q = (k : Int) → Calls Tryd.prog 46 #[.pointer (some ⟨L, j * 66, none⟩), .int .i64 q] (wr.drewN m) (LnPost wr L (devRow a) (devRow b) p.2 (p.1.back k))) := by
        rintro m k q hk rfl
        exact (HLL.out (wr.drewN m) _ _ _ _ (j * 66) k (hline.drewN m) (by rw [e3]; omega) k4 hk).mono (fun e w1 h => h.of_drewN)
      have HC := Lib.hid (fun (W : World) h => HCO.out W (j * 66) Av p.1.over.length cv h (by omega))
      have HT : Hid (66 * j = j * 66) := Nat.mul_comm _ _
      rw [HT.out] at hov
      have HK := Lib.hid hk
      have HNX : Hid (∀ l' w1 A2 len2 cap2 zs2 e, IsBytes w (.slice A2 len2 cap2) zs2 → (zs2 ≠ [] → ∀ a, A2 = some a → a.block ∉ foot D L ps) → V.crashL (p.1 :: b.map (·.1)) zs' = l' :: V.crashL (b.map (·.1)) zs2 → LnPost wr L (devRow a) (devRow b) p.2 l' e w1 → CrashRel w D L (foot D L ps) d.lines d.steps zs (j + 1) (.slice A2 len2 cap2) w1) := by
        intro l' w1 A2 len2 cap2 zs2 e i1 i2 i3 i4
        refine ⟨A2, len2, cap2, done ++ [l'], zs2, rfl, i1, i2, ?_, by simp [hdl], ?_⟩
        · rw [hcr, k2, i3, k3, List.append_assoc]; rfl
        · have := (HK.out w1 l' e i4).2
          rw [k3, List.append_assoc, k1]
          exact this
      have HB := Lib.hid hb
      have HBL := Lib.hid hblk
      clear e1 e2 e3 k1 k2 k3 k4 hline hk hmid hbw hblk hb hcr hdl hll hv
      have hn1 : j + 1 ≤ n := by omega
      by_cases h0 : p.1.over.length = 0
      · have HN0 := Lib.hid (fun w1 e => HNX.out (p.1.back 0) w1 A' len' cap' zs' e HB.out HBL.out (crash_cons0 h0 _ _))
        have HB0 := Lib.hid (HBK.out 0 0 0 (Nat.zero_le _) rfl)
        rw [h0] at HC
        simp only [Nat.zero_add, Int.natCast_one] at HC
        rw [h0] at hov
        clear h0 hol HBK HNX HBR
        go_wp2_with fail
        refine (HC.out _ hov).mono ?_
        rintro e w' ⟨rfl, rfl⟩
        go_wp2_with fail
        refine (HC.out _ hov).mono ?_
        rintro e w' ⟨rfl, rfl⟩
        go_wp2_with fail
        refine HB0.out.mono ?_
        intro e w1 hp
        have HR := Lib.hid (HN0.out w1 e hp)
        obtain ⟨rfl, _⟩ := hp
        go_wp2
        go_roundw
        case rel => exact ⟨j + 1, hn1, by go_num, HR.out⟩
        case measure => simp [intOf]; omega
      · have HM0 := Lib.hid h0
        obtain ⟨c, hc⟩ : ∃ c : Nat, c = p.1.over.length + 1 := ⟨_, rfl⟩
        have HCC := Lib.hid hc
        rw [← hc] at HC
        have hc2 : 2 ≤ c := by omega
        have hc9 : c ≤ 1000000001 := by omega
        clear h0 hol hc
        obtain ⟨hz1, hz2, hz3⟩ := HBR.out.len'
        cases zs' with
        | nil =>
          have HN0 := Lib.hid (fun w1 e => HNX.out (p.1.back 0) w1 A' len' cap' [] e HB.out HBL.out (crash_consN HM0.out _))
          have HB0 := Lib.hid (HBK.out 0 0 0 (Nat.zero_le _) rfl)
          simp only [List.length_nil] at hz1
          subst hz1
          clear HBK HNX HBR HB HBL
          go_wp2_with fail
          refine (HC.out _ hov).mono ?_
          rintro e w' ⟨rfl, rfl⟩
          go_wp2_with fail
          refine (HC.out _ hov).mono ?_
          rintro e w' ⟨rfl, rfl⟩
          go_wp2_with fail
          refine HB0.out.mono ?_
          intro e w1 hp
          have HR := Lib.hid (HN0.out w1 e hp)
          obtain ⟨rfl, _⟩ := hp
          go_wp2
          go_roundw
          case rel => exact ⟨j + 1, hn1, by go_num, HR.out⟩
          case measure => simp [intOf]; omega
        | cons z zs2 =>
          obtain ⟨g, o, rfl, hlen, hlc, hcm, _, hr0, hr1, A2, hA2, hT2, hg2⟩ := picks_tail HB.out
          obtain ⟨g', o', e, _, _, _, hcell, _⟩ := picks_tail HBR.out
          simp only [Option.some.injEq, Addr.mk.injEq, and_true] at e
          obtain ⟨rfl, rfl⟩ := e
          obtain ⟨k, rfl⟩ := Int.eq_ofNat_of_zero_le hr0
          have HN0 := Lib.hid (fun w1 e => HNX.out (p.1.back (k % c)) w1 A2 (len' - 1) (cap' - 1) zs2 e hT2 (fun _ a e => by rw [hg2 a e]; exact HBL.out (by simp) _ rfl) (by rw [crash_consP HM0.out, HCC.out]; rfl))
          have HB0 := Lib.hid (fun m => HBK.out m (k % c) ((k % c : Nat) : Int) (by have := Nat.mod_lt k (show 0 < c by omega); have := HCC.out; omega) rfl)
          have hmod : ((k : Int) % (c : Int)) = ((k % c : Nat) : Int) := rfl
          have hmod2 : IntKind.i64.wrap ((k : Int).tmod (c : Int)) = ((k % c : Nat) : Int) := by
            rw [Int.tmod_eq_emod_of_nonneg (by omega), IntWalk.i64_in _ (by have := Nat.mod_lt k (show 0 < c by omega); omega)]; rfl
          have hl0 : (0 : Int) < (len' : Int) := by omega
          have hl1 : (1 : Int) ≤ (len' : Int) := by omega
          have hl2 : 1 ≤ len' := by omega
          have hl3 : 0 < len' := by omega
          have hc0 : 1 ≤ cap' := by omega
          have HLE : Hid (len' - 1 = zs2.length) := by show _ = _; omega
          unfold maxLen at hcm
          clear HBK HNX HBR HB HBL hT2 hg2 hz1 hlen
          generalize k % c = r at *
          go_wp2_with fail
          refine (HC.out _ hov).mono ?_
          rintro e w' ⟨rfl, rfl⟩
          go_wp2_with fail
          go_quiet (fail)
          go_wp2_with fail
          refine (HC.out _ (by exact hov)).mono ?_
          rintro e w' ⟨rfl, rfl⟩
          go_wp2_with fail
          refine (HB0.out _).mono ?_
          intro e w1 hp
          have HR := Lib.hid (HN0.out w1 e hp)
          obtain ⟨rfl, _⟩ := hp
          go_wp2
          go_roundw
          case rel => exact ⟨j + 1, hn1, by go_num, by have h := HR.out; rw [HLE.out] at h; exact h⟩
          case measure => simp [intOf]; omega
    · obtain rfl : j = n := by omega
      have HR := Lib.hid (HFIN.out (.slice A' len' cap') wr ⟨A', len', cap', done, zs', rfl, hb, hblk, hcr, hdl, hmid⟩)
      clear hb hblk hcr hdl hmid
      go_wp2
      go_end0
      exact ⟨rfl, HR.out⟩
end

end Go.Proofs.YtmelmiookkeoaaaDoor
