
/- Layer 7: a queue's own calls: is a slab in it; add, next. -/
import Derived.Test.YtaceogpdjbikiaaGreatDoorPqD
import Derived.LaidEqlPtr
namespace Go.Proofs.YtaceogpdjbikiaaGreatDoor

open Go.RowKit

theorem s_inj {w : World} {S : Nat → Nat} {n i j : Nat} (h : Nums w S n) (hi : i < n) (hj : j < n) (e : S i = S j) : i = j := by
  have h1 := h.num hi
  rw [e, h.num hj] at h1
  simp only [Option.some.injEq, Value.int.injEq, true_and] at h1
  omega
set_option maxRecDepth 100000 in
theorem q_index {w : World} {S : Nat → Nat} {q n : Nat} {v : Value} {L : List Nat} (h : QAt w S q v L) (hn : Nums w S n) (hL : ∀ x ∈ L, x < n) (hlen : L.length ≤ 1000) (x : Nat) (hx : x < n) :
    Calls Tryz.prog 115 #[v, sptr S x] w fun e w' => (∃ r : Int, e = .returned (.int .i64 r) ∧ -1 ≤ r ∧ r ≤ 1000 ∧ (0 ≤ r ↔ x ∈ L)) ∧ w = w' := by
  obtain ⟨j, hj, hjs⟩ : ∃ j, Tryz.prog.info? 93 = some j ∧ j.size ≠ 0 := by
    have h3 : (Tryz.prog.info? 93).map (·.size) = some 3 := by kernel_rfl
    cases hi : Tryz.prog.info? 93 with
    | none => rw [hi] at h3; cases h3
    | some j => rw [hi] at h3; simp only [Option.map_some, Option.some.injEq] at h3; exact ⟨j, rfl, by omega⟩
  obtain ⟨a, cap, rfl, hc1, hc2⟩ := h.form
  have HQ := Lib.hid h
  have HN := Lib.hid hn
  have HL := Lib.hid hL
  have HLEN := Lib.hid (rfl : L.length = L.length)
  clear h hn hL
  unfold sptr
  generalize hlg : L.length = len at *
  have HGE : Hid (∀ k, k < len → k < L.length) := fun k h => by rw [hlg]; exact h
  have HLE : Hid (∀ k, k < L.length → k < len) := fun k h => by rw [← hlg]; exact h
  clear hlg HLEN
  go_enter Tryz.func115, Tryz.ntmps115
  go_wp2_with fail
  go_loopw [5, 8] (fun _ kv wr => ∃ k : Nat, kv = .int .i64 k ∧ k ≤ len ∧ (∀ m, m < k → L.getD m 0 ≠ x) ∧ wr = w) (fun _ kv _ => len - (intOf kv).toNat)
  case atStart => exact ⟨0, rfl, Nat.zero_le _, fun j hj => absurd hj (Nat.not_lt_zero _), rfl⟩
  case round =>
    obtain ⟨k, rfl, hk, hno, rfl⟩ := hrel
    have HNO := Lib.hid hno
    clear hno
    by_cases hlt : k < len
    · obtain ⟨g, cap', e, -, -, hcell, -⟩ := HQ.out.get (Nat.lt_of_le_of_lt (Nat.zero_le k) (HGE.out k hlt))
      simp only [Value.slice.injEq] at e
      obtain ⟨rfl, -, rfl⟩ := e
      have hy := hcell k (HGE.out k hlt)
      unfold sptr at hy
      by_cases hxy : L.getD k 0 = x
      · have HIN : Hid (x ∈ L) := by show _; rw [← hxy]; exact H.getD_mem (HGE.out k hlt)
        rw [hxy] at hy
        have heq : (binOp .eql 73 (.pointer (some ⟨S x, 0, none⟩)) (.pointer (some ⟨S x, 0, none⟩))).run Tryz.prog wr = .ok (.bool true) wr := run_eql_ptr_same wr _ Tryz.underlying73 hj
        clear hcell hxy
        generalize S x = sx at *
        go_wp2
        go_ret
        exact ⟨⟨_, rfl, by omega, by omega, fun _ => HIN.out, fun _ => by omega⟩, rfl⟩
      · have hne : ¬ S x = S (L.getD k 0) := fun e => hxy (s_inj HN.out hx (HL.out _ (H.getD_mem (HGE.out k hlt))) e).symm
        have HNO2 : Hid (∀ j, j < k + 1 → L.getD j 0 ≠ x) := fun j hj => by
          by_cases e : j = k
          · rw [e]; exact hxy
          · exact HNO.out j (by omega)
        have heq : (binOp .eql 73 (.pointer (some ⟨S x, 0, none⟩)) (.pointer (some ⟨S (L.getD k 0), 0, none⟩))).run Tryz.prog wr = .ok (.bool false) wr := by
          obtain ⟨a1, b1, g1⟩ := HN.out x hx
          obtain ⟨a2, b2, g2⟩ := HN.out _ (HL.out _ (H.getD_mem (HGE.out k hlt)))
          exact run_eql_ptr_other wr Tryz.underlying73 hj hjs (by simpa using hne) g1 g2
        clear hcell hxy hne
        generalize S x = sx at *
        generalize S (L.getD k 0) = sy at *
        go_wp2
        go_roundw
        case rel => exact ⟨k + 1, by go_num, by omega, HNO2.out, by first | trivial | rfl⟩
        case measure => simp [intOf]; omega
    · obtain rfl : k = len := by omega
      have HIN : Hid (x ∉ L) := fun hm => by
        obtain ⟨j, hj, e⟩ := List.mem_iff_getElem.1 hm
        refine HNO.out j (HLE.out j hj) ?_
        rw [List.getD_eq_getElem?_getD, List.getElem?_eq_getElem hj]; exact e
      generalize S x = sx at *
      go_wp2
      go_ret
      exact ⟨⟨_, rfl, by omega, by omega, fun h => by omega, fun h => absurd h HIN.out⟩, rfl⟩
theorem q_contains {w : World} {S : Nat → Nat} {q n : Nat} {v : Value} {L : List Nat} (h : QAt w S q v L) (hn : Nums w S n) (hL : ∀ x ∈ L, x < n) (hlen : L.length ≤ 1000) (x : Nat) (hx : x < n) :
    Calls Tryz.prog 103 #[v, sptr S x] w fun e w' => e = .returned (.bool (decide (x ∈ L))) ∧ w = w' := by
  have HI := Lib.hid (q_index h hn hL hlen x hx)
  clear h hn hL
  unfold sptr at *
  generalize S x = sx at *
  go_enter Tryz.func103, Tryz.ntmps103
  go_wp2_with fail
  refine HI.out.mono ?_
  rintro e w1 ⟨⟨r, rfl, h1, h2, h3⟩, rfl⟩
  have HR : Hid (decide (0 ≤ r) = decide (x ∈ L)) := by show _ = _; simp [h3]
  clear h3
  go_wp2
  go_ret
  exact ⟨by rw [← HR.out]; rfl, rfl⟩
set_option maxRecDepth 100000 in
/-- A slab comes in, unless it is in it. -/
theorem q_add {w : World} {S : Nat → Nat} {q n : Nat} {v : Value} {L : List Nat} (h : QAt w S q v L) (hn : Nums w S n) (hL : ∀ x ∈ L, x < n) (ha : Off S n (q :: ownL v)) (hlen : L.length ≤ 999) (hq : H.QL L) (x : Nat) (hx : x < n) :
    Calls Tryz.prog 77 #[.pointer (some ⟨q, 0, none⟩), sptr S x] w fun e w' => e = .returned (.tuple #[]) ∧ ∃ L', H.QL L' ∧ (∀ y, y ∈ L' ↔ y = x ∨ y ∈ L) ∧ QStep w S q v L' w' := by
  have hqc := h.at
  have HC := Lib.hid (q_contains h hn hL (by omega) x hx)
  by_cases hin : x ∈ L
  · rw [decide_eq_true hin] at HC
    have HP : Hid (∃ L', H.QL L' ∧ (∀ y, y ∈ L' ↔ y = x ∨ y ∈ L) ∧ QStep w S q v L' w) := ⟨L, hq, fun y => ⟨.inr, fun h => by rcases h with rfl | h; exact hin; exact h⟩, QStep.same h 0⟩
    clear h hn hL ha hq hin
    unfold sptr at *
    generalize S x = sx at *
    go_enter Tryz.func77, Tryz.ntmps77
    go_wp2_with fail
    refine HC.out.mono ?_
    rintro e w1 ⟨rfl, rfl⟩
    go_wp2
    go_end0
    exact ⟨rfl, HP.out⟩
  · rw [decide_eq_false hin] at HC
    have HP := Lib.hid (h_push h hn hL ha hlen hq x hx hin)
    clear h hn hL ha hq hin
    unfold sptr at *
    generalize S x = sx at *
    go_enter Tryz.func77, Tryz.ntmps77
    go_wp2_with fail
    refine HC.out.mono ?_
    rintro e w1 ⟨rfl, rfl⟩
    go_wp2_with fail
    refine HP.out.mono ?_
    rintro e w2 ⟨rfl, hp⟩
    have HP2 := Lib.hid hp
    clear hp
    go_wp2
    go_end0
    exact ⟨rfl, HP2.out⟩
/-- How long the queue in a block is. -/
def qLen (q : Nat) (w : World) : Nat := match w.cell? ⟨q, 0, none⟩ with
  | some (.slice _ n _) => n
  | _ => 0
theorem QAt.qLen {w : World} {S : Nat → Nat} {q : Nat} {v : Value} {L : List Nat} (h : QAt w S q v L) : qLen q w = L.length := by
  obtain ⟨a, cap, rfl, _⟩ := h.form
  unfold Proofs.YtaceogpdjbikiaaGreatDoor.qLen
  rw [h.at]
/-- What 'next' hands back. -/
def nextV (S : Nat → Nat) : Option Nat → Value
  | none => .pointer none
  | some s => sptr S s
set_option maxRecDepth 100000 in
/-- The first slab that fits, and what is behind it. -/
theorem q_next {w : World} {S : Nat → Nat} {q n : Nat} {v : Value} {L : List Nat} (h : QAt w S q v L) (hn : Nums w S n) (hL : ∀ x ∈ L, x < n) (ha : Off S n (q :: ownL v)) (hlen : L.length ≤ 999) (hq : H.QL L) (f : Nat → Bool) (c : Int)
    (hf : ∀ wr, Only (q :: ownL v) w wr → ∀ i, i < n → Calls Tryz.prog 34 #[.int .i64 c, sptr S i] wr fun e w' => e = .returned (.bool (f i)) ∧ ∃ m, w' = wr.drewN m) :
    Calls Tryz.prog 33 #[.pointer (some ⟨q, 0, none⟩), .func (.func 34) #[.int .i64 c] #[]] w fun e w' => ∃ r, e = .returned (nextV S r) ∧ ∃ L', H.Next f L r L' ∧ QStep w S q v L' w' := by
  have HN := Lib.hid hn
  have HA := Lib.hid ha
  have HF := Lib.hid hf
  have HQ := Lib.hid h
  have HL := Lib.hid hL
  have HQL := Lib.hid hq
  clear hn ha hf h hL hq
  go_enter Tryz.func33, Tryz.ntmps33
  go_wp2_with fail
  go_loopw [5] (fun _ wr => ∃ X, H.Nx f L X ∧ X.length ≤ L.length ∧ QStep w S q v X wr) (fun _ wr => qLen q wr)
  case atStart => exact ⟨L, H.Nx.start HQL.out, Nat.le_refl _, QStep.same HQ.out 0⟩
  case round =>
    obtain ⟨X, hnx, hxl, v', hq', ho', hv'⟩ := hrel
    have hqc := hq'.at
    have HLT := Lib.hid HN.out.lt
    have HN' : Hid (Nums wr S n) := HN.out.only ho' HA.out
    have HA' : Hid (Off S n (q :: ownL v')) := HA.out.step HLT.out hv'
    have HX' : Hid (∀ x ∈ X, x < n) := fun x hx => HL.out x (hnx.2.1 x hx)
    have HNX := Lib.hid hnx
    have HO' := Lib.hid ho'
    have HV' := Lib.hid hv'
    have HQ' := Lib.hid hq'
    have HQN := Lib.hid hq'.qLen
    obtain ⟨a, cap, rfl, _, _⟩ := hq'.form
    have HLN := Lib.hid (q_len wr a X.length cap)
    by_cases h0 : X.length = 0
    · obtain rfl : X = [] := List.eq_nil_of_length_eq_zero h0
      have HP : Hid (∃ r, (Ending.returned (.pointer none) : Ending) = .returned (nextV S r) ∧ ∃ L', H.Next f L r L' ∧ QStep w S q v L' wr) := ⟨none, rfl, [], hnx.none, _, hq', ho', hv'⟩
      clear hnx hq' ho' hv'
      rw [List.length_nil] at HLN hqc
      go_wp2_with fail
      refine HLN.out.mono ?_
      rintro e w1 ⟨rfl, rfl⟩
      go_wp2
      go_ret
      exact HP.out
    · have HPO := Lib.hid (h_pop hq' HN'.out HX'.out HA'.out (by omega) hnx.1 h0)
      have HM0 : Hid (X.getD 0 0 < n) := HX'.out _ (H.getD_mem (by omega))
      clear hnx hq' ho' hv'
      have HXE := Lib.hid (rfl : X.length = X.length)
      generalize hxg : X.length = xl at *
      have hxp : 0 < xl := by omega
      have hta : ∀ (p : Addr) (W : World), (Instr.typeAssert (.iface 73 (.pointer (some p))) 20 73 false).run Tryz.prog W = .ok (.pointer (some p)) W := fun _ _ => by kernel_rfl
      unfold sptr at HPO
      go_wp2_with fail
      refine HLN.out.mono ?_
      rintro e w1 ⟨rfl, rfl⟩
      go_wp2_with fail
      refine HPO.out.mono ?_
      rintro e w2 ⟨rfl, L', hql, hperm, hgt, hll, v2, hq2, ho2, hv2⟩
      have hfit : ∀ x ∈ q :: ownL (Value.slice a xl cap), x ∈ q :: ownL v ∨ w.heap.size ≤ x := foot_mem HV'.out
      have HO2 : Hid (Only (q :: ownL v) w w2) := HO'.out.trans ho2 hfit
      have HV2 : Hid (∀ k ∈ ownL v2, k ∈ ownL v ∨ w.heap.size ≤ k) := fun k hk => by
        rcases hv2 k hk with e | e
        · exact HV'.out k e
        · exact .inr (Nat.le_trans HO'.out.size e)
      have HFI : Hid (Calls Tryz.prog 34 #[.int .i64 c, .pointer (some ⟨S (X.getD 0 0), 0, none⟩)] w2 fun e w' => e = .returned (.bool (f (X.getD 0 0))) ∧ ∃ m, w' = w2.drewN m) := HF.out w2 HO2.out _ HM0.out
      have HQ2 := Lib.hid hq2
      cases hb : f (X.getD 0 0) with
      | true =>
        rw [hb] at HFI
        have HP : Hid (∀ m, ∃ r, (Ending.returned (.pointer (some ⟨S (X.getD 0 0), 0, none⟩)) : Ending) = .returned (nextV S r) ∧ ∃ L', H.Next f L r L' ∧ QStep w S q v L' (w2.drewN m)) := fun m => ⟨some (X.getD 0 0), rfl, L', HNX.out.yes hql hperm hgt hb, v2, HQ2.out.drewN m, HO2.out.drewN m, HV2.out⟩
        clear hql hperm hgt hq2 ho2 hv2 hfit hb
        generalize S (X.getD 0 0) = sx at *
        go_wp2_with fail
        refine HFI.out.mono ?_
        rintro e w3 ⟨rfl, m, rfl⟩
        go_wp2
        go_ret
        exact HP.out m
      | false =>
        rw [hb] at HFI
        have HNX2 : Hid (H.Nx f L L') := HNX.out.no hql hperm hb
        have HLL : Hid (L'.length + 1 = xl) := hll
        clear hql hperm hgt hq2 ho2 hv2 hfit hb
        generalize S (X.getD 0 0) = sx at *
        go_wp2_with fail
        refine HFI.out.mono ?_
        rintro e w3 ⟨rfl, m, rfl⟩
        go_wp2
        go_roundw
        case rel => exact ⟨L', HNX2.out, by have := HLL.out; omega, v2, HQ2.out.drewN m, HO2.out.drewN m, HV2.out⟩
        case measure => rw [HQN.out, (HQ2.out.drewN m).qLen]; have := HLL.out; omega
end Go.Proofs.YtaceogpdjbikiaaGreatDoor
