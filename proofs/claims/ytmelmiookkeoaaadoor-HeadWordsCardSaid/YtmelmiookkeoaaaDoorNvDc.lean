
/- Contracts of a device's Load, Store, Flush, Stop, May, Steps. -/
import Derived.Test.YtmelmiookkeoaaaDoorNvDb

import Derived.WalkLawsBesides

namespace Go.Proofs.YtmelmiookkeoaaaDoor

open Go.RowKit

theorem split_at {α : Type} (ps : List α) (i : Nat) (hi : i < ps.length) : ∃ a p b, ps = a ++ p :: b ∧ a.length = i :=
  ⟨ps.take i, ps[i], ps.drop (i + 1), by rw [← List.drop_eq_getElem_cons hi, List.take_append_drop], by rw [List.length_take]; omega⟩
theorem modify_mid (a b : List V.Ln) (l : V.Ln) (f : V.Ln → V.Ln) : (a ++ l :: b).modify a.length f = a ++ f l :: b := by
  induction a with
  | nil => rfl
  | cons x a ih => simp [ih]
theorem modify_split (a b : List (V.Ln × Value)) (p : V.Ln × Value) (f : V.Ln → V.Ln) (v' : Value) : ((a ++ p :: b).map (·.1)).modify a.length f = (a ++ (f p.1, v') :: b).map (·.1) := by
  have h := modify_mid (a.map (·.1)) (b.map (·.1)) p.1 f
  rw [List.length_map] at h
  simpa using h
theorem at_split {d : V.Dv} {a b : List (V.Ln × Value)} {p : V.Ln × Value} (h : d.lines = (a ++ p :: b).map (·.1)) : d.at a.length = p.1 := by
  rw [V.Dv.at, h, List.getElem?_map, List.getElem?_append_right (Nat.le_refl _)]
  simp

abbrev I64 (x : Int) : Prop := -9223372036854775808 ≤ x ∧ x ≤ 9223372036854775807
section

variable {w : World} {v : Value} {d : V.Dv} {F : List Nat}

theorem dev_place (D L : Nat) (ps : List (V.Ln × Value)) (hl : d.lines = ps.map (·.1)) (h : DevAt w D L ps d.left d.steps) (hg : d.Good) (off size : Int) (hoff : I64 off) (hs : size = 1 ∨ size = 8) :
    Calls Tryd.prog 36 #[.pointer (some ⟨D, 0, none⟩), .int .i64 off, .int .i64 size] w fun e w' => e = .returned (.int .i64 (d.err off size)) ∧ w = w' := by
  have e : d.lines.length = ps.length := by rw [hl, List.length_map]
  have h1 := hg.some
  have h2 := hg.most
  have := dv_place h (by omega) (by omega) off size hoff hs
  rw [← e] at this
  exact this
/-- A device, open at a place that is right. -/
theorem Dev.open (h : Dev w v d F) {off size : Int} (he : d.err off size = 0) : ∃ D L a p b t, v = .pointer (some ⟨D, 0, none⟩) ∧ F = foot D L (a ++ p :: b) ∧ d.lines = (a ++ p :: b).map (·.1) ∧ DevAt w D L (a ++ p :: b) d.left d.steps ∧
    off = ((t : Nat) : Int) ∧ a.length = t / 64 ∧ t < 64 * (a ++ p :: b).length ∧ (a ++ p :: b).length ≤ 1024 ∧ (devRow a).length = 66 * (t / 64) ∧ d.at (t / 64) = p.1 ∧ d.left ≠ 0 ∧ p.1.over.length ≤ d.steps ∧ off % size = 0 := by
  obtain ⟨D, L, ps, h1, h2, h3, h4, h5⟩ := h
  obtain ⟨k1, k2, k3, k4⟩ := V.err_zero he
  obtain ⟨t, rfl⟩ := Int.eq_ofNat_of_zero_le k2
  have hlen : d.lines.length = ps.length := by rw [h3, List.length_map]
  obtain ⟨a, p, b, rfl, ha⟩ := split_at ps (t / 64) (by omega)
  have hm := h5.most
  refine ⟨D, L, a, p, b, t, h1, h2, h3, h4, rfl, ha, by omega, by omega, by rw [h4.pre, ha], by rw [← ha]; exact at_split h3, k1, h5.over p.1 (by rw [h3]; simp), k4⟩

theorem dev_load (h : Dev w v d F) (off : Int) (hoff : I64 off) :
    Calls Tryd.prog 25 #[v, .int .i64 off] w fun e w' => e = .returned (.tuple #[.int .u64 (d.load off : Nat), .int .i64 (d.err off 8)]) ∧ ∃ m, w' = w.drewN m := by
  by_cases he : d.err off 8 = 0
  · have hg := h.good
    obtain ⟨D, L, a, p, b, t, rfl, rfl, h3, h4, rfl, ha, ht, hn, hpre, hat, hl, ho, h8⟩ := h.open he
    have HP := Lib.hid (dev_place D L _ h3 h4 hg _ 8 hoff (.inr rfl))
    have HLO := Lib.hid (dv_lineOf h4 hn t ht)
    have HLL := Lib.hid (fun (W : World) (h : LineAt W L (devRow a) (devRow b) p.1 p.2) => ln_load W L (devRow a) (devRow b) p.1 p.2 (t % 64) h (by omega) (by omega))
    rw [hpre] at HLL
    have HLA := Lib.hid h4.line
    have HV : Hid (d.load (t : Int) = p.1.get (t % 64)) := by
      show _ = _
      rw [V.Dv.load, if_pos he, Int.toNat_natCast, hat]
    rw [he] at HP ⊢
    have HE := Lib.hid he
    have hm : ((t : Int) % 64) = ((t % 64 : Nat) : Int) := rfl
    have hm2 : t % 64 < 64 := Nat.mod_lt _ (by decide)
    have ht6 : t ≤ 65536 := by omega
    clear he hg h3 h4 h hpre hat ho h8 ha hl
    generalize t % 64 = r at *
    generalize 66 * (t / 64) = o at *
    clear ht hn
    go_enter Tryd.func25, Tryd.ntmps25
    go_wp2_with fail
    refine HP.out.mono ?_
    rintro e w' ⟨rfl, rfl⟩
    go_wp2_with fail
    refine HLO.out.mono ?_
    rintro e w' ⟨rfl, rfl⟩
    go_wp2_with fail
    refine (HLL.out _ HLA.out).mono ?_
    rintro e w' ⟨rfl, m, rfl⟩
    go_wp2
    go_ret2
    exact ⟨by rw [HV.out]; rfl, _, rfl⟩
  · have HV : Hid (d.load off = 0) := by show _ = _; rw [V.Dv.load, if_neg he]
    obtain ⟨D, L, ps, rfl, rfl, h3, h4, hg⟩ := h
    have HP := Lib.hid (dev_place D L _ h3 h4 hg _ 8 hoff (.inr rfl))
    clear h3 h4 hg
    have hb : (d.err off 8 != 0) = true := by simpa using he
    generalize d.err off 8 = c at *
    clear he
    go_enter Tryd.func25, Tryd.ntmps25
    go_wp2_with fail
    refine HP.out.mono ?_
    rintro e w' ⟨rfl, rfl⟩
    go_wp2
    go_ret2
    exact ⟨by rw [HV.out]; rfl, nodraw _⟩

/-- What a call on the line of a place leaves of a device. -/
theorem dev_stepped {D L : Nat} {a b : List (V.Ln × Value)} {p : V.Ln × Value} {w1 : World} {l' : V.Ln} {e : Ending} (_h3 : d.lines = (a ++ p :: b).map (·.1)) (h4 : DevAt w D L (a ++ p :: b) d.left d.steps)
    (hp : LnPost w L (devRow a) (devRow b) p.2 l' e w1) : ∃ v', e = .returned (.tuple #[]) ∧ DevAt w1 D L (a ++ (l', v') :: b) d.left d.steps ∧ Only (foot D L (a ++ p :: b)) w w1 ∧ (∀ k ∈ foot D L (a ++ (l', v') :: b), k ∈ foot D L (a ++ p :: b) ∨ w.heap.size ≤ k) := by
  obtain ⟨he, v', k1, k2, k3⟩ := hp
  obtain ⟨j1, j2, j3⟩ := h4.step k1 k2 k3
  exact ⟨v', he, j1, j2, j3⟩

theorem dev_store (h : Dev w v d F) (off : Int) (hoff : I64 off) (n : Nat) (hn : n < 2 ^ 64) (hs : d.steps ≤ 1000000000) :
    Calls Tryd.prog 18 #[v, .int .i64 off, .int .u64 (n : Int)] w fun e w' => e = .returned (.int .i64 (d.err off 8)) ∧ DevStep w v (d.store off n) F w' := by
  by_cases he : d.err off 8 = 0
  · have hg := h.good
    have hgs := h.good.store off n
    have hll := hg.left
    obtain ⟨D, L, a, p, b, t, rfl, rfl, h3, h4, rfl, ha, ht, hn1, hpre, hat, hl, ho, h8⟩ := h.open he
    have HP := Lib.hid (dev_place D L _ h3 h4 hg _ 8 hoff (.inr rfl))
    have HLO := Lib.hid (dv_lineOf h4 hn1 t ht)
    have HLL := Lib.hid (ln_store w L (devRow a) (devRow b) p.1 p.2 (t % 64) n h4.line (by omega) (by omega) hn (by omega))
    rw [hpre] at HLL
    have HV : Hid (∀ v' w', DevAt w' D L (a ++ (p.1.store (t % 64) n, v') :: b) (if 0 < d.left then d.left - 1 else d.left) (d.steps + 1) → Dev w' (.pointer (some ⟨D, 0, none⟩)) (d.store (t : Int) n) (foot D L (a ++ (p.1.store (t % 64) n, v') :: b))) := by
      intro v' w' hd
      refine ⟨D, L, _, rfl, rfl, ?_, ?_, hgs⟩
      · rw [V.Dv.store_ok n he, Int.toNat_natCast]
        show (d.lines.modify (t / 64) _) = _
        rw [h3, ← ha]
        exact modify_split a b p _ v'
      · rw [V.Dv.store_ok n he]
        exact hd
    rw [he] at HP ⊢
    have H3 := Lib.hid h3
    have H4 := Lib.hid h4
    have hm : ((t : Int) % 64) = ((t % 64 : Nat) : Int) := rfl
    have hm2 : t % 64 < 64 := Nat.mod_lt _ (by decide)
    have ht6 : t ≤ 65536 := by omega
    clear he hg h3 h4 h hpre hat ho h8 ha hl hgs
    generalize t % 64 = r at *
    generalize 66 * (t / 64) = o at *
    clear ht hn1
    go_enter Tryd.func18, Tryd.ntmps18
    go_wp2_with fail
    refine HP.out.mono ?_
    rintro e w' ⟨rfl, rfl⟩
    go_wp2_with fail
    refine HLO.out.mono ?_
    rintro e w' ⟨rfl, rfl⟩
    go_wp2_with fail
    refine HLL.out.mono ?_
    intro e w1 hp
    obtain ⟨v', rfl, j1, j2, j3⟩ := dev_stepped H3.out H4.out hp
    have HD := Lib.hid (dv_done j1 hll hs)
    have J2 := Lib.hid j2; have J3 := Lib.hid j3
    clear hp j1 j2 j3
    go_wp2_with fail
    refine HD.out.mono ?_
    rintro e w2 ⟨rfl, k1, k2⟩
    have K1 := Lib.hid k1; have K2 := Lib.hid k2
    clear k1 k2
    go_wp2
    go_ret
    refine ⟨rfl, _, HV.out v' w2 K1.out, J2.out.trans' (K2.out.mono (fun k hk => ?_)), J3.out⟩
    rw [List.mem_singleton.1 hk]
    exact mem_foot.2 (.inl rfl)
  · have HV : Hid (d.store off n = d) := V.Dv.store_no n he
    have HD := Lib.hid h
    obtain ⟨D, L, ps, rfl, rfl, h3, h4, hg⟩ := h
    have HP := Lib.hid (dev_place D L _ h3 h4 hg _ 8 hoff (.inr rfl))
    clear h3 h4 hg
    have hb : (d.err off 8 != 0) = true := by simpa using he
    generalize d.err off 8 = c at *
    clear he
    go_enter Tryd.func18, Tryd.ntmps18
    go_wp2_with fail
    refine HP.out.mono ?_
    rintro e w' ⟨rfl, rfl⟩
    go_wp2
    go_ret
    exact ⟨rfl, by rw [HV.out]; exact DevStep.same HD.out 0⟩

theorem dev_flush (h : Dev w v d F) (off : Int) (hoff : I64 off) (hs : d.steps ≤ 1000000000) :
    Calls Tryd.prog 64 #[v, .int .i64 off] w fun e w' => e = .returned (.int .i64 (d.err off 1)) ∧ DevStep w v (d.flush off) F w' := by
  by_cases he : d.err off 1 = 0
  · have hg := h.good
    have hgs := h.good.flush off
    have hll := hg.left
    obtain ⟨D, L, a, p, b, t, rfl, rfl, h3, h4, rfl, ha, ht, hn1, hpre, hat, hl, ho, h8⟩ := h.open he
    have HP := Lib.hid (dev_place D L _ h3 h4 hg _ 1 hoff (.inl rfl))
    have HLO := Lib.hid (dv_lineOf h4 hn1 t ht)
    have HLL := Lib.hid (ln_flush w L (devRow a) (devRow b) p.1 p.2 h4.line)
    rw [hpre] at HLL
    have HV : Hid (∀ v' w', DevAt w' D L (a ++ (p.1.flush, v') :: b) (if 0 < d.left then d.left - 1 else d.left) (d.steps + 1) → Dev w' (.pointer (some ⟨D, 0, none⟩)) (d.flush (t : Int)) (foot D L (a ++ (p.1.flush, v') :: b))) := by
      intro v' w' hd
      refine ⟨D, L, _, rfl, rfl, ?_, ?_, hgs⟩
      · rw [V.Dv.flush_ok he, Int.toNat_natCast]
        show (d.lines.modify (t / 64) _) = _
        rw [h3, ← ha]
        exact modify_split a b p _ v'
      · rw [V.Dv.flush_ok he]
        exact hd
    rw [he] at HP ⊢
    have H3 := Lib.hid h3
    have H4 := Lib.hid h4
    have ht6 : t ≤ 65536 := by omega
    clear he hg h3 h4 h hpre hat ho h8 ha hl hgs
    generalize 66 * (t / 64) = o at *
    clear ht hn1
    go_enter Tryd.func64, Tryd.ntmps64
    go_wp2_with fail
    refine HP.out.mono ?_
    rintro e w' ⟨rfl, rfl⟩
    go_wp2_with fail
    refine HLO.out.mono ?_
    rintro e w' ⟨rfl, rfl⟩
    go_wp2_with fail
    refine HLL.out.mono ?_
    rintro e w1 ⟨rfl, hp1, hp2⟩
    obtain ⟨v', _, j1, j2, j3⟩ := dev_stepped H3.out H4.out (e := .returned (.tuple #[])) ⟨rfl, p.2, hp1, hp2.mono (by simp), fun k hk => .inl hk⟩
    have HD := Lib.hid (dv_done j1 hll hs)
    have J2 := Lib.hid j2; have J3 := Lib.hid j3
    clear hp1 hp2 j1 j2 j3
    go_wp2_with fail
    refine HD.out.mono ?_
    rintro e w2 ⟨rfl, k1, k2⟩
    have K1 := Lib.hid k1; have K2 := Lib.hid k2
    clear k1 k2
    go_wp2
    go_ret
    refine ⟨rfl, _, HV.out v' w2 K1.out, J2.out.trans' (K2.out.mono (fun k hk => ?_)), J3.out⟩
    rw [List.mem_singleton.1 hk]
    exact mem_foot.2 (.inl rfl)
  · have HV : Hid (d.flush off = d) := V.Dv.flush_no he
    have HD := Lib.hid h
    obtain ⟨D, L, ps, rfl, rfl, h3, h4, hg⟩ := h
    have HP := Lib.hid (dev_place D L _ h3 h4 hg _ 1 hoff (.inl rfl))
    clear h3 h4 hg
    have hb : (d.err off 1 != 0) = true := by simpa using he
    generalize d.err off 1 = c at *
    clear he
    go_enter Tryd.func64, Tryd.ntmps64
    go_wp2_with fail
    refine HP.out.mono ?_
    rintro e w' ⟨rfl, rfl⟩
    go_wp2
    go_ret
    exact ⟨rfl, by rw [HV.out]; exact DevStep.same HD.out 0⟩

theorem dev_steps (h : Dev w v d F) : Calls Tryd.prog 27 #[v] w fun e w' => e = .returned (.int .i64 (d.steps : Int)) ∧ w = w' := by
  obtain ⟨D, L, ps, rfl, rfl, h3, h4, hg⟩ := h
  have c2 := h4.c2
  clear h4 hg h3
  go_enter Tryd.func27, Tryd.ntmps27
  go_wp2
  go_ret
  exact ⟨rfl, rfl⟩

theorem dev_size (h : Dev w v d F) : Calls Tryd.prog 40 #[v] w fun e w' => e = .returned (.int .i64 (64 * d.lines.length : Nat)) ∧ w = w' := by
  obtain ⟨D, L, ps, rfl, rfl, h3, h4, hg⟩ := h
  have e : d.lines.length = ps.length := by rw [h3, List.length_map]
  have h2 := hg.most
  rw [e] at h2 ⊢
  exact dv_size h4 h2

theorem dev_state (h : Dev w v d F) : Calls Tryd.prog 44 #[v] w fun e w' => e = .returned (.int .i64 d.state) ∧ w = w' := by
  obtain ⟨D, L, ps, rfl, rfl, h3, h4, hg⟩ := h
  have e : d.lines.length = ps.length := by rw [h3, List.length_map]
  have h1 := hg.some
  have h2 := hg.most
  rw [e] at h1 h2
  exact dv_state h4 h1 h2


theorem dev_stop (h : Dev w v d F) (k : Int) (hk : -1000000000 ≤ k ∧ k ≤ 1000000000) :
    Calls Tryd.prog 28 #[v, .int .i64 k] w fun e w' => e = .returned (.tuple #[]) ∧ DevStep w v (d.stop k) F w' := by
  have HT := Lib.hid (dev_state h)
  have HG := Lib.hid (h.good.stop k hk.2)
  have HD := Lib.hid h
  by_cases hl : d.left = 0
  · have HV : Hid (d.stop k = d) := by show _ = _; rw [V.Dv.stop, if_pos hl]
    have HST : Hid (d.state = 12) := by show _ = _; rw [V.Dv.state, if_pos hl]
    rw [HST.out] at HT
    clear h hl
    go_enter Tryd.func28, Tryd.ntmps28
    go_wp2_with fail
    refine HT.out.mono ?_
    rintro e w' ⟨rfl, rfl⟩
    go_wp2
    go_end0
    exact ⟨rfl, by rw [HV.out]; exact DevStep.same HD.out 0⟩
  · have HV : Hid (d.stop k = { lines := d.lines, left := max k 0, steps := d.steps }) := by show _ = _; rw [V.Dv.stop, if_neg hl]
    have HST : Hid (d.state = 0) := by show _ = _; rw [V.Dv.state, if_neg hl]
    rw [HST.out] at HT
    obtain ⟨D, L, ps, rfl, rfl, h3, h4, hg⟩ := h
    have c1 := h4.c1
    have f1 := h4.fr 1
    have H4 := Lib.hid h4
    have H3 := Lib.hid h3
    clear h3 h4 hg hl
    have HN : Hid (∀ m : Int, m = max k 0 → DevStep w (.pointer (some ⟨D, 0, none⟩)) (d.stop k) (foot D L ps) (w.setCell ⟨D, 1, none⟩ (.int .i64 m))) := by
      rintro m rfl
      have hO := Only.setCell w ⟨D, 1, none⟩ (.int .i64 (max k 0))
      have h1 := heap_setCell_same w D 1 _ _ (.int .i64 (max k 0)) H4.out.head
      have hG := HG.out
      rw [HV.out] at hG ⊢
      refine ⟨_, ⟨D, L, ps, rfl, rfl, H3.out, H4.out.reset (max k 0) d.steps hO (by rw [h1]; rfl), hG⟩, hO.mono (fun j hj => ?_), fun _ hj => .inl hj⟩
      rw [List.mem_singleton.1 hj]
      exact mem_foot.2 (.inl rfl)
    go_enter Tryd.func28, Tryd.ntmps28
    go_wp2_with fail
    refine HT.out.mono ?_
    rintro e w' ⟨rfl, rfl⟩
    go_wp2
    all_goals
      go_end0
      exact ⟨rfl, HN.out _ (by omega)⟩
end

end Go.Proofs.YtmelmiookkeoaaaDoor
