
/- Layer 3: the contract of nvm.Of. -/
import Derived.Test.YtmelmiookkeoaaaDoorOfM

import Derived.Laws.Cover3

namespace Go.Proofs.YtmelmiookkeoaaaDoor

open Go.RowKit

theorem still_load_mid {P : Program} {ops : Array Oper} {w : World} {Q : Act → Prop} {a : Act} {o : Oper} {rest : List Oper} (hw : Region.wanted o (yielded ops a.tmps) = true) (ty : TypeId) (x : Operand) (ho : o.op = .load ty x)
    (b off : Nat) (hx : a.eval x = .pointer (some ⟨b, off, none⟩)) (cs : List Value) (d : TypeDesc) (hc : w.rangeAt b off cs) (hu : P.underlying ty = some d) (hd : d.isRow = true) (hi : (P.info? ty).map (·.size) = some cs.length)
    (h : wpStill P ops w Q rest (a.put o.dst (.agg cs.toArray))) : wpStill P ops w Q (o :: rest) a := by
  refine wpStill_step (fun K hK => ?_)
  have hv : (execOp a.eval o).run P w = .ok (.value (.agg cs.toArray)) w := by
    unfold execOp
    simp only [ho, hx, Instr.loadAt, Instr.sureAddr, Sem.run_bind, Sem.run_pure, Result.andThen_ok, run_loadVar_mid w b off ty cs d hc hu hd hi]
  simp only [hw, if_true, Oper.still, hv, Oper.stillUpon]
  exact ⟨trivial, hK _ h⟩
/-- A line's bytes stored. -/
theorem Dev.stored {w : World} {D L : Nat} {ps : List (V.Ln × Value)} {zs : List Int} {n j : Nat} (hz : ∀ z ∈ zs, 0 ≤ z ∧ z ≤ 255) (hn : 64 * n ≤ zs.length) (h1 : 1 ≤ n) (h2 : n ≤ 1024) (hj : j < n)
    (h3 : (dvTo zs n j).lines = ps.map (·.1)) (h4 : DevAt w D L ps (-1) 0) :
    w.there L (j * 66) 64 ∧ ∃ ps' : List (V.Ln × Value), ps'.length = n ∧ (dvTo zs n (j + 1)).lines = ps'.map (·.1) ∧ DevAt (w.setCells L (j * 66) ((lnOf zs j).now.map (Value.int .u8))) D L ps' (-1) 0 ∧ (dvTo zs n (j + 1)).Good ∧ Only (foot D L ps) w (w.setCells L (j * 66) ((lnOf zs j).now.map (Value.int .u8))) ∧ ∀ k ∈ foot D L ps', k ∈ foot D L ps ∨ w.heap.size ≤ k := by
  have hl : ps.length = n := by
    have e : (dvTo zs n j).lines.length = n := linesOf_length _ _ _
    rw [h3, List.length_map] at e; exact e
  obtain ⟨a, p, b, rfl, ha⟩ := split_at ps j (by omega)
  have hln := h4.line
  have hpre : (devRow a).length = j * 66 := by rw [h4.pre, ha, Nat.mul_comm]
  have hgl := lnOf_good hz (i := j) (by omega)
  obtain ⟨k1, k2⟩ := hln.put hgl.len hgl.byte
  have hp0 : p.1 = V.zeroLn := by
    have e1 : (dvTo zs n j).lines[j]? = some p.1 := by
      rw [h3, List.getElem?_map, List.getElem?_append_right (by omega), ha, Nat.sub_self]; rfl
    have e2 : (dvTo zs n j).lines[j]? = some (if j < j then lnOf zs j else V.zeroLn) := linesOf_get _ _ _ _ hj
    rw [e1, if_neg (Nat.lt_irrefl _)] at e2
    exact Option.some.inj e2
  have hth := hln.there 64 (by omega)
  rw [hpre] at k1 k2 hth
  have hln2 : LineAt (w.setCells L (j * 66) ((lnOf zs j).now.map (Value.int .u8))) L (devRow a) (devRow b) (lnOf zs j) p.2 := by
    have := k1
    rw [hp0] at this
    exact this
  obtain ⟨m1, m2, m3⟩ := h4.step hln2 (k2.mono (by simp)) (fun k hk => .inl hk)
  refine ⟨hth, _, ?_, ?_, m1, dvTo_good hz hn h1 h2, m2, m3⟩
  · rw [← hl]; simp
  show linesOf zs n (j + 1) = _
  have e : linesOf zs n j = (a ++ p :: b).map (·.1) := h3
  rw [linesOf_succ, e, List.map_append, List.map_cons, List.set_append_right _ _ (by simp; omega), List.length_map, ha, Nat.sub_self, List.set_cons_zero, List.map_append, List.map_cons]
theorem nv_of_no (w : World) (PA : Option Addr) (pn pc : Nat) (hc : pn ≤ pc) (hm : pc ≤ maxLen) (h : ¬ (64 ≤ pn ∧ pn % 64 = 0 ∧ pn ≤ 65536)) :
    Calls Tryd.prog 24 #[.slice PA pn pc] w fun e w' => e = .returned (.pointer none) ∧ w = w' := by
  unfold maxLen at hm
  by_cases h0 : pn % 64 = 0
  · have hq : ((pn : Int) / 64) = ((pn / 64 : Nat) : Int) := rfl
    have hb : ((pn : Int) % 64 != 0) = false := by
      have : (pn : Int) % 64 = 0 := by omega
      simpa using this
    have HN := Lib.hid (dev_new_no ((pn / 64 : Nat) : Int) ⟨by omega, by omega⟩ (by omega) w)
    clear h0
    generalize pn / 64 = n at *
    go_enter Tryd.func24, Tryd.ntmps24
    go_wp2_with fail
    refine HN.out.mono ?_
    rintro e w1 ⟨rfl, rfl⟩
    go_wp2
    go_ret
    exact ⟨rfl, rfl⟩
  · have hb : ((pn : Int) % 64 != 0) = true := by
      have : ¬ (pn : Int) % 64 = 0 := by omega
      simpa using this
    clear h0 h
    go_enter Tryd.func24, Tryd.ntmps24
    go_wp2
    go_ret
    exact ⟨rfl, rfl⟩
set_option maxHeartbeats 2000000 in
set_option maxRecDepth 100000 in
theorem nv_of (w : World) (PA : Option Addr) (pn pc : Nat) (zs : List Int) (hp : IsBytes w (.slice PA pn pc) zs) (h64 : 64 ≤ pn) (h0 : pn % 64 = 0) (hmax : pn ≤ 65536) :
    Calls Tryd.prog 24 #[.slice PA pn pc] w (NewDev w (dvOf zs)) := by
  obtain ⟨hpl, hpc, hpm⟩ := IsInts.len' hp
  unfold maxLen at hpm
  have hz : ∀ z ∈ zs, 0 ≤ z ∧ z ≤ 255 := by obtain ⟨_, _, _, _, _, _, h⟩ := hp; exact byte_range h
  obtain ⟨n, hn⟩ : ∃ n, pn / 64 = n := ⟨_, rfl⟩
  have hn1 : 1 ≤ n := by omega
  have hn2 : n ≤ 1024 := by omega
  have hq : ((pn : Int) / 64) = (n : Int) := by omega
  have hb : ((pn : Int) % 64 != 0) = false := by
    have : (pn : Int) % 64 = 0 := by omega
    simpa using this
  have hpn : pn = 64 * n := by omega
  have HN := Lib.hid (dev_new n hn1 hn2 w)
  have HV : Hid (dvOf zs = dvTo zs n n) := by show _ = _; unfold dvOf dvTo; rw [hpl, hn]
  have HNW := Lib.hid (dvTo_new zs n)
  have HPZ := Lib.hid (fun W (hb : Below w.heap.size w W) => (IsInts.below hp hb : IsBytes W (.slice PA pn pc) zs))
  have HST := Lib.hid (fun (W : World) D L ps j (hj : j < n) h3 h4 => Dev.stored (w := W) (D := D) (L := L) (ps := ps) hz (n := n) (j := j) (by omega) hn1 hn2 hj h3 h4)
  have HL64 : Hid (∀ j, j < n → ((lnOf zs j).now.map (Value.int .u8)).length = 64) := fun j hj => by rw [List.length_map]; exact (lnOf_good hz (by omega)).len
  have HPN := Lib.hid hpn
  clear hp hn h0 hpn
  go_enter Tryd.func24, Tryd.ntmps24
  go_wp2_with fail
  refine HN.out.mono ?_
  rintro e w1 ⟨v, F, rfl, hd, hb1, hF⟩
  rw [← HNW.out] at hd
  have hd' := hd
  obtain ⟨D, L, ps, rfl, rfl, h3, h4, _⟩ := hd'
  have hps : ps.length = n := by
    have e : (dvTo zs n 0).lines.length = n := linesOf_length _ _ _
    rw [h3, List.length_map] at e; exact e
  have c0 := h4.c0
  rw [hps] at c0
  have HD1 := Lib.hid hd; have HB1 := Lib.hid hb1; have HF1 := Lib.hid hF
  have HX : Hid ((dvTo zs n 0).lines = ps.map (·.1) ∧ DevAt w1 D L ps (-1) 0) := ⟨h3, h4⟩
  clear hd hb1 hF h3 h4
  go_wp2_with fail
  go_loopw [4, 20] (fun _ x wr => ∃ j : Nat, j ≤ n ∧ x = .int .i64 j ∧ Hid (Below w.heap.size w wr ∧ ∃ ps : List (V.Ln × Value), ps.length = n ∧ (dvTo zs n j).lines = ps.map (·.1) ∧ DevAt wr D L ps (-1) 0 ∧ (dvTo zs n j).Good ∧ ∀ k ∈ foot D L ps, w.heap.size ≤ k)) (fun _ x _ => n - (intOf x).toNat)
  case atStart =>
    refine ⟨0, by omega, rfl, HB1.out, ps, hps, HX.out.1, HX.out.2, Dev.good HD1.out, fun k hk => HF1.out k (hk)⟩
  case round =>
    obtain ⟨j, hj, rfl, hrr⟩ := hrel
    obtain ⟨hbw, ps2, hpl2, h3, h4, hg, hF⟩ := hrr.out
    have c0 := h4.c0
    rw [hpl2] at c0
    by_cases hlt : j < n
    · have hpn9 : 64 * j + 64 ≤ pn := by have := HPN.out; omega
      obtain ⟨b, o, rfl, hline⟩ := bytes_line (HPZ.out wr hbw) j hpn9
      have hth := (HST.out wr D L ps2 j hlt h3 h4).1
      have hl64 := HL64.out j hlt
      have hcs : wr.rangeAt b (o + 64 * j) ((lnOf zs j).now.map (Value.int .u8)) := by
        have e : (lnOf zs j).now.length = 64 := by rw [List.length_map] at hl64; exact hl64
        exact range_of_bytes (cap := pc - 64 * j) (by rw [e]; exact hline)
      obtain ⟨t, ht⟩ : ∃ t, t = 64 * j := ⟨_, rfl⟩
      rw [← ht] at hcs
      have hti : ((j : Int) * 64) = (t : Int) := by omega
      have htw : IntKind.i64.wrap ((j : Int) * 64) = (t : Int) := by rw [IntWalk.i64_in _ (by omega)]; exact hti
      have htw2 : IntKind.i64.wrap (t : Int) = (t : Int) := IntWalk.i64_in _ (by omega)
      have hne : ¬ pc = t := by omega
      have hts : t + 64 ≤ pn := by omega
      have hts2 : (t : Int) ≤ (pn : Int) := by omega
      have hts3 : t < pc := by omega
      have hji : (j : Int) < (n : Int) := by omega
      have harr : (Instr.arrayAt 74 (.slice (some ⟨b, o + t, none⟩) (pn - t) (pc - t))).run Tryd.prog wr.drew = .ok (.pointer (some ⟨b, o + t, none⟩)) wr.drew := run_arrayAt _ _ _ _ _ _ _ Tryd.underlying74 (by omega)
      have HI : Hid ((Tryd.prog.info? 74).map (·.size) = some ((lnOf zs j).now.map (Value.int .u8)).length) := by show _ = _; rw [hl64]; exact info_arr64
      have HI2 : Hid ((Tryd.prog.info? 74).map (·.size) = some ((lnOf zs j).now.map (Value.int .u8)).toArray.size) := by show _ = _; rw [List.size_toArray, hl64]; exact info_arr64
      have H1 : Hid (((lnOf zs j).now.map (Value.int .u8)).toArray.all (·.oneCell') = true) := all_oneCell_toArray (ints_oneCell _ _)
      have HTH : Hid (wr.drew.there L (j * 66) ((lnOf zs j).now.map (Value.int .u8)).toArray.size) := by show World.there _ _ _ _; rw [List.size_toArray, hl64]; exact hth
      have HCR : Hid (wr.drew.rangeAt b (o + t) ((lnOf zs j).now.map (Value.int .u8))) := hcs
      have HRR : Hid (Below w.heap.size w ((wr.drew).setCells L (j * 66) ((lnOf zs j).now.map (Value.int .u8))) ∧ ∃ ps : List (V.Ln × Value), ps.length = n ∧ (dvTo zs n (j + 1)).lines = ps.map (·.1) ∧ DevAt ((wr.drew).setCells L (j * 66) ((lnOf zs j).now.map (Value.int .u8))) D L ps (-1) 0 ∧ (dvTo zs n (j + 1)).Good ∧ ∀ k ∈ foot D L ps, w.heap.size ≤ k) := by
        obtain ⟨_, ps3, g1, g2, g3, g4, g5, g6⟩ := HST.out wr.drew D L ps2 j hlt h3 (h4.drewN 1)
        have hbd : Below w.heap.size w wr.drew := hbw.drew
        refine ⟨hbd.trans (g5.below hbd.size hF), ps3, g1, g2, g3, g4, fun k hk => ?_⟩
        rcases g6 k hk with e | e
        · exact hF k e
        · have := hbd.size; omega
      clear hrr hth hline hcs h3 h4 hg hF hpl2 ht hpn9
      generalize (lnOf zs j).now.map (Value.int .u8) = cs at *
      go_wp2_with fail
      go_still_tail 13, (by kernel_rfl)
      refine still_load_mid (by go_simp) 74 (.tmp 32) rfl b (o + t) rfl cs _ HCR.out Tryd.underlying74 rfl HI.out ?_
      go_simp
      repeat still_step
      refine wpStill_nil ?_
      change wpList _ _ _ _ _ wr.drew
      go_wp2_with (refine wpList_store_mid rfl 74 (.tmp 35) (.tmp 33) rfl L (j * 66) cs.toArray rfl rfl HTH.out HI2.out H1.out ?_)
      go_roundw
      case rel => exact ⟨j + 1, by omega, by go_num, HRR⟩
      case measure => simp [intOf]; omega
    · obtain rfl : j = n := by omega
      have HRET : Hid (∀ k, NewDev w (dvOf zs) (.returned (.pointer (some ⟨D, 0, none⟩))) (wr.drewN k)) := by
        intro k
        refine ⟨_, foot D L ps2, rfl, ⟨D, L, ps2, rfl, rfl, ?_, ?_, ?_⟩, below_drewN' hbw k, hF⟩
        · rw [HV.out]; exact h3
        · exact h4.drewN k
        · rw [HV.out]; exact hg
      clear hrr h3 h4 hg hF hpl2 c0 hbw
      have hji : ¬ ((j : Int) < (j : Int)) := by omega
      go_wp2
      go_ret
      exact HRET.out 0
end Go.Proofs.YtmelmiookkeoaaaDoor
