
/- Contracts of a device's Fence and Image. -/
import Derived.Test.YtmelmiookkeoaaaDoorNvDc

namespace Go.Proofs.YtmelmiookkeoaaaDoor

open Go.RowKit

def mapUpto (f : V.Ln → V.Ln) (ls : List V.Ln) (j : Nat) : List V.Ln := (ls.take j).map f ++ ls.drop j
theorem mapUpto_zero (f : V.Ln → V.Ln) (ls : List V.Ln) : mapUpto f ls 0 = ls := by simp [mapUpto]
theorem mapUpto_all (f : V.Ln → V.Ln) (ls : List V.Ln) : mapUpto f ls ls.length = ls.map f := by simp [mapUpto]
theorem mapUpto_step {f : V.Ln → V.Ln} {ls A B : List V.Ln} {l : V.Ln} {j : Nat} (hj : j < ls.length) (h : mapUpto f ls j = A ++ l :: B) (hA : A.length = j) : mapUpto f ls (j + 1) = A ++ f l :: B ∧ l ∈ ls := by
  have hl : ((ls.take j).map f).length = A.length := by simp; omega
  obtain ⟨h1, h2⟩ := List.append_inj h hl
  rw [List.drop_eq_getElem_cons hj, List.cons.injEq] at h2
  obtain ⟨h3, h4⟩ := h2
  refine ⟨?_, by rw [← h3]; exact List.getElem_mem hj⟩
  rw [mapUpto, List.take_succ_eq_append_getElem hj, List.map_append, h1, h4, List.map_cons, List.map_nil, h3, List.append_assoc]
  rfl

/-- A device in the middle of a call that goes from line to line. -/
def Mid (w : World) (D L : Nat) (F : List Nat) (ls : List V.Ln) (left : Int) (steps : Nat) (wr : World) : Prop :=
  ∃ ps, ls = ps.map (·.1) ∧ DevAt wr D L ps left steps ∧ Only F w wr ∧ ∀ k ∈ foot D L ps, k ∈ F ∨ w.heap.size ≤ k
theorem Mid.at {w : World} {D L : Nat} {F : List Nat} {ls : List V.Ln} {left : Int} {steps : Nat} {wr : World} (h : Mid w D L F ls left steps wr) {j : Nat} (hj : j < ls.length) :
    ∃ (a : List (V.Ln × Value)) (p : V.Ln × Value) (b : List (V.Ln × Value)), ls = (a.map (·.1)) ++ p.1 :: (b.map (·.1)) ∧ a.length = j ∧ (devRow a).length = 66 * j ∧ LineAt wr L (devRow a) (devRow b) p.1 p.2 ∧ wr.cell? ⟨D, 0, none⟩ = some (.slice (some ⟨L, 0, none⟩) ls.length ls.length) ∧
      ∀ (w1 : World) (l' : V.Ln) (e : Ending), LnPost wr L (devRow a) (devRow b) p.2 l' e w1 → e = .returned (.tuple #[]) ∧ Mid w D L F ((a.map (·.1)) ++ l' :: (b.map (·.1))) left steps w1 := by
  obtain ⟨ps, rfl, h2, h3, h4⟩ := h
  rw [List.length_map] at hj
  obtain ⟨a, p, b, rfl, ha⟩ := split_at ps j hj
  refine ⟨a, p, b, by simp, ha, by rw [h2.pre, ha], h2.line, by rw [h2.c0]; simp, fun w1 l' e hp => ?_⟩
  obtain ⟨he, v', k1, k2, k3⟩ := hp
  obtain ⟨j1, j2, j3⟩ := h2.step k1 k2 k3
  refine ⟨he, a ++ (l', v') :: b, by simp, j1, h3.trans j2 h4, fun k hk => ?_⟩
  rcases j3 k hk with e | e
  · exact h4 k e
  · exact .inr (Nat.le_trans h3.size e)

section

variable {w : World} {v : Value} {d : V.Dv} {F : List Nat}

theorem dev_fence (h : Dev w v d F) (hs : d.steps ≤ 1000000000) :
    Calls Tryd.prog 58 #[v] w fun e w' => e = .returned (.int .i64 d.state) ∧ DevStep w v d.fence F w' := by
  have HT := Lib.hid (dev_state h)
  have HG := Lib.hid h.good.fence
  have HD := Lib.hid h
  by_cases hl : d.left = 0
  · have HV : Hid (d.fence = d) := by show _ = _; rw [V.Dv.fence, if_pos hl]
    have HST : Hid (d.state = 12) := by show _ = _; rw [V.Dv.state, if_pos hl]
    rw [HST.out] at HT ⊢
    clear h hl
    go_enter Tryd.func58, Tryd.ntmps58
    go_wp2_with fail
    refine HT.out.mono ?_
    rintro e w' ⟨rfl, rfl⟩
    go_wp2
    go_ret
    exact ⟨rfl, by rw [HV.out]; exact DevStep.same HD.out 0⟩
  · have HV : Hid (d.fence = d.settle.done) := by show _ = _; rw [V.Dv.fence, if_neg hl]
    have HST : Hid (d.state = 0) := by show _ = _; rw [V.Dv.state, if_neg hl]
    rw [HST.out] at HT ⊢
    have hm := h.good.most
    have hll := h.good.left
    have HO := Lib.hid h.good.over
    obtain ⟨D, L, ps, rfl, rfl, h3, h4, hg⟩ := h
    have hM : Mid w D L (foot D L ps) d.lines d.left d.steps w := ⟨ps, h3, h4, Only.refl _ _, fun k hk => .inl hk⟩
    have e : d.lines.length = ps.length := by rw [h3, List.length_map]
    have c0 := h4.c0
    rw [← e] at c0
    have HM := Lib.hid hM
    have HLL : Hid (∀ (W : World) (pre post : List Value) (l : V.Ln) (v : Value) (o : Nat), LineAt W L pre post l v → pre.length = o → l ∈ d.lines → Calls Tryd.prog 65 #[.pointer (some ⟨L, o, none⟩)] W (LnPost W L pre post v l.settle)) := by
      rintro W pre post l v _ h rfl hm
      exact ln_settle W L pre post l v h (Nat.le_trans (HO.out l hm) hs)
    have HST : Hid (∀ j A B (l : V.Ln), j < d.lines.length → mapUpto V.Ln.settle d.lines j = A ++ l :: B → A.length = j → mapUpto V.Ln.settle d.lines (j + 1) = A ++ l.settle :: B ∧ l ∈ d.lines) := fun j A B l hj h1 h2 => mapUpto_step hj h1 h2
    have HZ := Lib.hid (mapUpto_zero V.Ln.settle d.lines)
    have HA := Lib.hid (mapUpto_all V.Ln.settle d.lines)
    have HLEN : Hid (∀ j, (mapUpto V.Ln.settle d.lines j).length = d.lines.length) := fun j => by simp [mapUpto]; omega
    have HFIN : Hid (∀ w1 w2 ps2, d.lines.map V.Ln.settle = ps2.map (·.1) → DevAt w2 D L ps2 (if 0 < d.left then d.left - 1 else d.left) (d.steps + 1) → Only (foot D L ps) w w1 → Only [D] w1 w2 → (∀ k ∈ foot D L ps2, k ∈ foot D L ps ∨ w.heap.size ≤ k) → DevStep w (.pointer (some ⟨D, 0, none⟩)) d.fence (foot D L ps) w2) := by
      intro w1 w2 ps2 e1 e2 e3 e4 e5
      refine ⟨_, ⟨D, L, ps2, rfl, rfl, ?_, ?_, HG.out⟩, e3.trans' (e4.mono (fun k hk => ?_)), e5⟩
      · rw [HV.out]; exact e1
      · rw [HV.out]; exact e2
      · rw [List.mem_singleton.1 hk]; exact mem_foot.2 (.inl rfl)
    clear h3 h4 hg hl hM e
    generalize hn : d.lines.length = n at *
    have HN := Lib.hid hn
    clear hn
    go_enter Tryd.func58, Tryd.ntmps58
    go_wp2_with fail
    refine HT.out.mono ?_
    rintro e w' ⟨rfl, rfl⟩
    go_wp2_with fail
    go_loopw [4, 15] (fun _ x wr => ∃ j : Nat, j ≤ n ∧ x = .int .i64 j ∧ Mid w D L (foot D L ps) (mapUpto V.Ln.settle d.lines j) d.left d.steps wr) (fun _ x _ => n - (intOf x).toNat)
    case atStart => exact ⟨0, by omega, rfl, by rw [HZ.out]; exact HM.out⟩
    case round =>
      obtain ⟨j, hj, rfl, hmid⟩ := hrel
      by_cases hlt : j < n
      · obtain ⟨a, p, b, e1, e2, e3, hline, c0', hk⟩ := hmid.at (j := j) (by rw [HLEN.out]; exact hlt)
        rw [HLEN.out] at c0'
        obtain ⟨e4, e5⟩ := HST.out j _ _ _ hlt e1 (by rw [List.length_map]; exact e2)
        have HC := Lib.hid (HLL.out wr _ _ _ _ (j * 66) hline (by rw [e3]; omega) e5)
        have HK := Lib.hid hk
        have HE := Lib.hid e4
        clear e1 e2 e3 e4 e5 hline hk hmid
        go_wp2_with fail
        refine HC.out.mono ?_
        intro e w1 hp
        obtain ⟨rfl, hm1⟩ := HK.out w1 _ e hp
        have HM1 := Lib.hid hm1
        clear hp hm1
        go_wp2
        go_roundw
        case rel => exact ⟨j + 1, by omega, by go_num, by rw [HE.out]; exact HM1.out⟩
        case measure => simp [intOf]; omega
      · obtain rfl : j = n := by omega
        obtain ⟨ps2, e1, e2, e3, e4⟩ := hmid
        have HD := Lib.hid (dv_done e2 hll hs)
        have E1 : Hid (d.lines.map V.Ln.settle = ps2.map (·.1)) := by show _ = _; rw [← e1, ← HA.out]
        have E3 := Lib.hid e3; have E4 := Lib.hid e4
        clear e1 e2 e3 e4
        go_wp2_with fail
        refine HD.out.mono ?_
        rintro e w2 ⟨rfl, k1, k2⟩
        have K1 := Lib.hid k1; have K2 := Lib.hid k2
        clear k1 k2
        go_wp2
        go_ret
        exact ⟨rfl, HFIN.out _ w2 ps2 E1.out K1.out E3.out K2.out E4.out⟩
end

end Go.Proofs.YtmelmiookkeoaaaDoor
