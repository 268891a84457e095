
/- Layer 7: container/heap over a queue: Push, Pop; is a slab in it. -/
import Derived.Test.YtaceogpdjbikiaaGreatDoorPqC
namespace Go.Proofs.YtaceogpdjbikiaaGreatDoor

open Go.RowKit

section

variable {w w' : World} {S : Nat → Nat} {q n : Nat} {v v' : Value} {L L' : List Nat}

/-- What a call leaves that changes a queue. -/
def QStep (w : World) (S : Nat → Nat) (q : Nat) (v : Value) (L' : List Nat) (w' : World) : Prop := ∃ v', QAt w' S q v' L' ∧ Only (q :: ownL v) w w' ∧ ∀ k ∈ ownL v', k ∈ ownL v ∨ w.heap.size ≤ k
theorem QStep.same (h : QAt w S q v L) (m : Nat) : QStep w S q v L (w.drewN m) := ⟨v, h.drewN m, (Only.refl _ _).drewN m, fun _ hk => .inl hk⟩
theorem QStep.of_left (h : QLeft w S q v L' w') : QStep w S q v L' w' := ⟨v, h.1, h.2, fun _ hk => .inl hk⟩
theorem Only.foot {w0 w1 w2 : World} {F G : List Nat} (h : Only F w0 w1) (k : Only G w1 w2) (hG : ∀ x ∈ G, x ∈ F ∨ w0.heap.size ≤ x) : Only F w0 w2 := h.trans k hG
theorem foot_mem {w : World} {q : Nat} {v v' : Value} (h : ∀ k ∈ ownL v', k ∈ ownL v ∨ w.heap.size ≤ k) : ∀ x ∈ q :: ownL v', x ∈ q :: ownL v ∨ w.heap.size ≤ x := by
  intro x hx
  rcases List.mem_cons.1 hx with e | e
  · exact .inl (by rw [e]; exact List.mem_cons_self ..)
  · rcases h x e with e | e
    · exact .inl (List.mem_cons_of_mem _ e)
    · exact .inr e
theorem Off.step {w : World} {S : Nat → Nat} {q n : Nat} {v v' : Value} (h : Off S n (q :: ownL v)) (hl : ∀ i, i < n → S i < w.heap.size) (hv : ∀ k ∈ ownL v', k ∈ ownL v ∨ w.heap.size ≤ k) : Off S n (q :: ownL v') := by
  intro i hi hm
  rcases foot_mem (q := q) hv _ hm with e | e
  · exact h i hi e
  · have := hl i hi; omega
end

set_option maxRecDepth 100000 in
theorem h_push {w : World} {S : Nat → Nat} {q n : Nat} {v : Value} {L : List Nat} (h : QAt w S q v L) (hn : Nums w S n) (hL : ∀ x ∈ L, x < n) (ha : Off S n (q :: ownL v)) (hlen : L.length ≤ 999) (hq : H.QL L) (x : Nat) (hx : x < n) (hxL : x ∉ L) :
    Calls Tryz.prog 104 #[.iface 74 (.pointer (some ⟨q, 0, none⟩)), .iface 73 (sptr S x)] w fun e w' => e = .returned (.tuple #[]) ∧ ∃ L', H.QL L' ∧ (∀ y, y ∈ L' ↔ y = x ∨ y ∈ L) ∧ QStep w S q v L' w' := by
  have HPU := Lib.hid (q_push h x (by omega))
  have HMP := m_push w q
  have HUP : Hid (∀ w1 v', QAt w1 S q v' (L ++ [x]) → Only (q :: ownL v) w w1 → (∀ k ∈ ownL v', k ∈ ownL v ∨ w.heap.size ≤ k) → Calls Tryz.prog 116 #[.iface 74 (.pointer (some ⟨q, 0, none⟩)), .int .i64 (L.length : Int)] w1 fun e w' => e = .returned (.tuple #[]) ∧ ∃ L', H.QL L' ∧ (∀ y, y ∈ L' ↔ y = x ∨ y ∈ L) ∧ QStep w S q v L' w') := by
    intro w1 v' hq1 ho1 hv1
    refine (h_up hq1 (hn.only ho1 ha) (fun y hy => by
      rcases List.mem_append.1 hy with e | e
      · exact hL y e
      · rw [List.mem_singleton.1 e]; exact hx) (ha.step hn.lt hv1) (by simp; omega) L.length (H.UpI.start hq.1 x)).mono ?_
    rintro e w2 ⟨he, X', hh, hp, hq2, ho2⟩
    obtain ⟨a1, a2⟩ := H.add_of hq hxL hp hh
    exact ⟨he, X', a1, a2, v', hq2, ho1.trans ho2 (foot_mem hv1), hv1⟩
  clear h hn hL ha hq
  unfold sptr at *
  generalize S x = sx at *
  go_enter Tryz.func104, Tryz.ntmps104
  go_wp2_with fail
  refine HPU.out.mono ?_
  rintro e w1 ⟨rfl, v', hq1, ho1, hv1⟩
  have HU := Lib.hid (HUP.out w1 v' hq1 ho1 hv1)
  have HML := m_len hq1
  obtain ⟨a, cap, rfl, hc1, hc2⟩ := hq1.form
  rw [List.length_append, List.length_singleton] at HML hc1
  have HLN := Lib.hid (q_len w1 a (L.length + 1) cap)
  clear hq1 ho1 hv1 HUP
  go_wp2_with fail
  refine HLN.out.mono ?_
  rintro e w2 ⟨rfl, rfl⟩
  go_wp2_with fail
  refine HU.out.mono ?_
  rintro e w3 ⟨rfl, hp⟩
  have HP := Lib.hid hp
  clear hp
  go_wp2
  go_end0
  exact ⟨rfl, HP.out⟩
set_option maxRecDepth 100000 in
theorem h_pop {w : World} {S : Nat → Nat} {q n : Nat} {v : Value} {L : List Nat} (h : QAt w S q v L) (hn : Nums w S n) (hL : ∀ x ∈ L, x < n) (ha : Off S n (q :: ownL v)) (hlen : L.length ≤ 999) (hq : H.QL L) (h0 : L.length ≠ 0) :
    Calls Tryz.prog 74 #[.iface 74 (.pointer (some ⟨q, 0, none⟩))] w fun e w' => e = .returned (.iface 73 (sptr S (L.getD 0 0))) ∧ ∃ L', H.QL L' ∧ (L.getD 0 0 :: L').Perm L ∧ (∀ x ∈ L', L.getD 0 0 < x) ∧ L'.length + 1 = L.length ∧ QStep w S q v L' w' := by
  obtain ⟨m, hm⟩ : ∃ m, L.length = m + 1 := ⟨L.length - 1, by omega⟩
  have HML := m_len h
  obtain ⟨a, cap, rfl, hc1, hc2⟩ := h.form
  have HLN := Lib.hid (q_len w a L.length cap)
  have HMS := m_swap h
  have HSW : Hid (Calls Tryz.prog 138 #[.slice a L.length cap, .int .i64 0, .int .i64 (m : Int)] w fun e w' => e = .returned (.tuple #[]) ∧ QAt w' S q (.slice a L.length cap) (H.swp L 0 m) ∧ Only (q :: ownL (.slice a L.length cap)) w w') := q_swap h 0 m (by omega) (by omega) (by omega)
  have HSP := Lib.hid (H.swp_perm (X := L) (i := 0) (j := m) (by omega) (by omega))
  have HX0 : Hid ((H.swp L 0 m).getD m 0 = L.getD 0 0) := by show _ = _; rw [H.swp_get (by omega) (by omega), if_pos rfl]
  have HST := Lib.hid (H.DnI.start hq.1 hm)
  have HSL := Lib.hid (H.swp_length L 0 m)
  have HN := Lib.hid hn
  have HL := Lib.hid hL
  have HA := Lib.hid ha
  have HQL := Lib.hid hq
  have HM := Lib.hid hm
  rw [hm] at HML HLN HMS HSW hc1 HA ⊢
  have hm9 : m ≤ 999 := by omega
  clear h hn hL ha hq hlen h0 hm
  go_enter Tryz.func74, Tryz.ntmps74
  go_wp2_with fail
  refine HLN.out.mono ?_
  rintro e w1 ⟨rfl, rfl⟩
  go_wp2_with fail
  refine HSW.out.mono ?_
  rintro e w2 ⟨rfl, hq2, ho2⟩
  have HO2 := Lib.hid ho2
  have HQ2 := Lib.hid hq2
  have HDN := Lib.hid (h_down hq2 (HN.out.only ho2 HA.out) (fun x hx => HL.out x (HSP.out.subset hx)) HA.out (by rw [HSL.out, HM.out]; omega) m (by rw [HSL.out, HM.out]; omega) HST.out)
  clear hq2 ho2
  go_wp2_with fail
  refine HDN.out.mono ?_
  rintro e w3 ⟨⟨b, rfl⟩, X', hh, hp, hx, hq3, ho3⟩
  have HMP := m_pop w3 q
  have hxl : X'.length = m + 1 := by rw [hp.length_eq, HSL.out, HM.out]
  have HPP := Lib.hid (q_pop hq3 hxl (by omega))
  have HEQ : Hid (X'.getD m 0 = L.getD 0 0) := hx.trans HX0.out
  have HPOST := Lib.hid (H.pop_of HQL.out HM.out (hp.trans HSP.out) HEQ.out hh)
  have HO3 := Lib.hid (HO2.out.trans' ho3)
  rw [HEQ.out] at HPP
  clear hh hp hx hq3 ho3
  go_wp2_with fail
  refine HPP.out.mono ?_
  rintro e w4 ⟨rfl, v', hq4, ho4, hv4⟩
  have HP4 : Hid (∃ L', H.QL L' ∧ (L.getD 0 0 :: L').Perm L ∧ (∀ x ∈ L', L.getD 0 0 < x) ∧ L'.length + 1 = m + 1 ∧ QStep w S q (.slice a (m + 1) cap) L' w4) :=
    ⟨_, HPOST.out.1, HPOST.out.2.2.1, HPOST.out.2.2.2, by rw [HPOST.out.2.1], v', hq4, HO3.out.trans' ho4, fun k hk => .inl (hv4 k hk)⟩
  clear hq4 ho4 hv4
  go_wp2
  go_ret
  exact ⟨rfl, HP4.out⟩
end Go.Proofs.YtaceogpdjbikiaaGreatDoor
