
/- Layer 7: container/heap over a queue: up, down, Push, Pop. -/
import Derived.Test.YtaceogpdjbikiaaGreatDoorPqB
namespace Go.Proofs.YtaceogpdjbikiaaGreatDoor

open Go.RowKit

section

variable {w : World} {S : Nat → Nat} {q : Nat} {v : Value} {L : List Nat}

theorem load_q (h : QAt w S q v L) : (loadVar 113 ⟨q, 0, none⟩).run Tryz.prog w = .ok v w := by
  have e : (isAgg 113).run Tryz.prog w = .ok false w := by
    unfold isAgg
    rw [Sem.run_bind, run_underlying Tryz.underlying113 w]
    rfl
  unfold loadVar
  rw [Sem.run_bind, e, Result.andThen_ok, if_neg (by decide), run_load, h.at]
theorem m_len (h : QAt w S q v L) : (method 280 74 (.pointer (some ⟨q, 0, none⟩)) "Len").run Tryz.prog w = .ok (73, v) w := method_via _ (by kernel_rfl) Tryz.underlying74 (load_q h)
theorem m_less (h : QAt w S q v L) : (method 280 74 (.pointer (some ⟨q, 0, none⟩)) "Less").run Tryz.prog w = .ok (135, v) w := method_via _ (by kernel_rfl) Tryz.underlying74 (load_q h)
theorem m_swap (h : QAt w S q v L) : (method 280 74 (.pointer (some ⟨q, 0, none⟩)) "Swap").run Tryz.prog w = .ok (138, v) w := method_via _ (by kernel_rfl) Tryz.underlying74 (load_q h)
end

theorem m_push (w : World) (q : Nat) : (method 280 74 (.pointer (some ⟨q, 0, none⟩)) "Push").run Tryz.prog w = .ok (137, .pointer (some ⟨q, 0, none⟩)) w := method_ptr _ (by kernel_rfl) Tryz.underlying74
theorem m_pop (w : World) (q : Nat) : (method 280 74 (.pointer (some ⟨q, 0, none⟩)) "Pop").run Tryz.prog w = .ok (136, .pointer (some ⟨q, 0, none⟩)) w := method_ptr _ (by kernel_rfl) Tryz.underlying74

/-- The slabs' blocks lie apart from the queue's. -/
def Off (S : Nat → Nat) (n : Nat) (F : List Nat) : Prop := ∀ i, i < n → S i ∉ F
/-- What container/heap leaves of a queue: its slice in the same place. -/
def QLeft (w : World) (S : Nat → Nat) (q : Nat) (v : Value) (X' : List Nat) (w' : World) : Prop := QAt w' S q v X' ∧ Only (q :: ownL v) w w'

set_option maxRecDepth 100000 in
theorem h_up {w : World} {S : Nat → Nat} {q n : Nat} {v : Value} {X : List Nat} (h : QAt w S q v X) (hn : Nums w S n) (hX : ∀ x ∈ X, x < n) (ha : Off S n (q :: ownL v)) (hlen : X.length ≤ 1000) (j : Nat) (hu : H.UpI X j) :
    Calls Tryz.prog 116 #[.iface 74 (.pointer (some ⟨q, 0, none⟩)), .int .i64 (j : Int)] w fun e w' => e = .returned (.tuple #[]) ∧ ∃ X', H.Heap X' ∧ X'.Perm X ∧ QLeft w S q v X' w' := by
  have HN := Lib.hid hn
  have HX := Lib.hid hX
  have HA := Lib.hid ha
  have HQ := Lib.hid h
  have HU := Lib.hid hu
  clear hn hX ha h hu
  go_enter Tryz.func116, Tryz.ntmps116
  go_wp2_with fail
  go_loopw [1, 4] (fun jv _ wr => ∃ (X' : List Nat) (j' : Nat), jv = .int .i64 j' ∧ H.UpI X' j' ∧ X'.Perm X ∧ QAt wr S q v X' ∧ Only (q :: ownL v) w wr) (fun jv _ _ => (intOf jv).toNat)
  case atStart => exact ⟨X, j, rfl, HU.out, List.Perm.refl _, HQ.out, Only.refl _ _⟩
  case round =>
    obtain ⟨X', j', rfl, hu', hp', hq', ho'⟩ := hrel
    have HU' := Lib.hid hu'
    have HP' := Lib.hid hp'
    have HQ' := Lib.hid hq'
    have HO' := Lib.hid ho'
    have hjl : j' < X'.length := hu'.1
    have hl' : X'.length ≤ 1000 := by rw [hp'.length_eq]; exact hlen
    have HN' : Hid (Nums wr S n) := HN.out.only HO'.out HA.out
    have HX' : Hid (∀ x ∈ X', x < n) := fun x hx => HX.out x (hp'.subset hx)
    clear hu' hp' hq' ho'
    by_cases h0 : j' = 0
    · subst h0
      have HH : Hid (H.Heap X') := HU'.out.done (.inl rfl)
      go_wp2
      go_end0
      exact ⟨rfl, X', HH.out, HP'.out, HQ'.out, HO'.out⟩
    · obtain ⟨k, rfl⟩ : ∃ k, j' = k + 1 := ⟨j' - 1, by omega⟩
      obtain ⟨p, hp⟩ : ∃ p, (k + 1 - 1) / 2 = p := ⟨_, rfl⟩
      have hpk : (k : Int) / 2 = (p : Int) := by omega
      have hpl : p < X'.length := by omega
      have hk : k ≤ 1000 := by omega
      have HLE : Hid (Calls Tryz.prog 135 #[v, .int .i64 ((k : Int) + 1), .int .i64 (p : Int)] wr fun e w' => e = .returned (.bool (decide (X'.getD (k + 1) 0 < X'.getD p 0))) ∧ ∃ m, w' = wr.drewN m) := q_less HQ'.out HN'.out HX'.out (k + 1) p hjl hpl hl'
      have HML := m_less HQ'.out
      by_cases hlt : X'.getD (k + 1) 0 < X'.getD p 0
      · rw [decide_eq_true hlt] at HLE
        have HST : Hid (H.UpI (H.swp X' p (k + 1)) p) := by have h := HU'.out.step (by omega) (by rw [hp]; exact hlt); rw [hp] at h; exact h
        have HSP := Lib.hid (H.swp_perm hpl hjl)
        clear hlt hp
        go_wp2_with fail
        refine HLE.out.mono ?_
        rintro e w1 ⟨rfl, m, rfl⟩
        have HMS := m_swap (HQ'.out.drewN m)
        have HSW : Hid (Calls Tryz.prog 138 #[v, .int .i64 (p : Int), .int .i64 ((k : Int) + 1)] (wr.drewN m) fun e w' => e = .returned (.tuple #[]) ∧ QAt w' S q v (H.swp X' p (k + 1)) ∧ Only (q :: ownL v) (wr.drewN m) w') := q_swap (HQ'.out.drewN m) p (k + 1) hpl hjl hl'
        go_wp2_with fail
        refine HSW.out.mono ?_
        rintro e w2 ⟨rfl, hq2, ho2⟩
        have HQ2 := Lib.hid hq2
        have HO2 := Lib.hid ((HO'.out.drewN m).trans' ho2)
        clear hq2 ho2
        go_wp2
        go_roundw
        case rel => exact ⟨_, p, rfl, HST.out, HSP.out.trans HP'.out, HQ2.out, HO2.out⟩
        case measure => simp [intOf]; omega
      · rw [decide_eq_false hlt] at HLE
        have HH : Hid (H.Heap X') := HU'.out.done (.inr (by rw [hp]; omega))
        clear hlt hp
        go_wp2_with fail
        refine HLE.out.mono ?_
        rintro e w1 ⟨rfl, m, rfl⟩
        go_wp2
        go_end0
        exact ⟨rfl, X', HH.out, HP'.out, HQ'.out.drewN m, HO'.out.drewN m⟩
/-- What 'down' leaves. -/
def DownPost (w : World) (S : Nat → Nat) (q : Nat) (v : Value) (X : List Nat) (n : Nat) (e : Ending) (w' : World) : Prop := (∃ b, e = .returned (.bool b)) ∧ ∃ X', H.Heap (X'.take n) ∧ X'.Perm X ∧ X'.getD n 0 = X.getD n 0 ∧ QLeft w S q v X' w'
theorem DownPost.mk {w : World} {S : Nat → Nat} {q : Nat} {v : Value} {X X' : List Nat} {n : Nat} {b : Bool} {w' : World} (h1 : H.Heap (X'.take n)) (h2 : X'.Perm X) (h3 : X'.getD n 0 = X.getD n 0) (h4 : QAt w' S q v X') (h5 : Only (q :: ownL v) w w') : DownPost w S q v X n (.returned (.bool b)) w' := ⟨⟨b, rfl⟩, X', h1, h2, h3, h4, h5⟩
set_option maxHeartbeats 1000000 in
set_option maxRecDepth 100000 in
theorem h_down {w : World} {S : Nat → Nat} {q M : Nat} {v : Value} {X : List Nat} (h : QAt w S q v X) (hn : Nums w S M) (hX : ∀ x ∈ X, x < M) (ha : Off S M (q :: ownL v)) (hlen : X.length ≤ 1000) (n : Nat) (hnl : n < X.length) (hu : H.DnI X n 0) :
    Calls Tryz.prog 101 #[.iface 74 (.pointer (some ⟨q, 0, none⟩)), .int .i64 0, .int .i64 (n : Int)] w (DownPost w S q v X n) := by
  have HN := Lib.hid hn
  have HX := Lib.hid hX
  have HA := Lib.hid ha
  have HQ := Lib.hid h
  have HU := Lib.hid hu
  have hn1 : n ≤ 1000 := by omega
  clear hn hX ha h hu
  go_enter Tryz.func101, Tryz.ntmps101
  go_wp2_with fail
  go_loopw [7, 8, 9, 10] (fun iv _ _ _ wr => ∃ (X' : List Nat) (i' : Nat), iv = .int .i64 i' ∧ i' ≤ n ∧ H.DnI X' n i' ∧ X'.Perm X ∧ X'.getD n 0 = X.getD n 0 ∧ QAt wr S q v X' ∧ Only (q :: ownL v) w wr) (fun iv _ _ _ _ => n - (intOf iv).toNat)
  case atStart => exact ⟨X, 0, rfl, Nat.zero_le _, HU.out, List.Perm.refl _, rfl, HQ.out, Only.refl _ _⟩
  case round =>
    obtain ⟨X', i', rfl, hin, hu', hp', hla', hq', ho'⟩ := hrel
    have HU' := Lib.hid hu'
    have HP' := Lib.hid hp'
    have HQ' := Lib.hid hq'
    have HO' := Lib.hid ho'
    have HLA' := Lib.hid hla'
    have hxl : X'.length = X.length := hp'.length_eq
    have hl' : X'.length ≤ 1000 := by omega
    have hil : i' < X'.length := by omega
    have HN' : Hid (Nums wr S M) := HN.out.only HO'.out HA.out
    have HX' : Hid (∀ x ∈ X', x < M) := fun x hx => HX.out x (hp'.subset hx)
    clear hu' hp' hq' ho' hla'
    obtain ⟨c1, hc1⟩ : ∃ c, c = 2 * i' + 1 := ⟨_, rfl⟩
    obtain ⟨c2, hc2⟩ : ∃ c, c = c1 + 1 := ⟨_, rfl⟩
    have e1 : 2 * (i' : Int) + 1 = (c1 : Int) := by omega
    have e2 : (c1 : Int) + 1 = (c2 : Int) := by omega
    have hci : i' < c1 := by omega
    have hci2 : i' < c2 := by omega
    have hcm1 : c1 ≤ 2002 := by omega
    have hcm : c2 ≤ 2002 := by omega
    have HC1 := Lib.hid hc1
    have HC2 := Lib.hid hc2
    clear hc1 hc2
    by_cases h0 : n ≤ c1
    · have HH : Hid (H.Heap (X'.take n)) := HU'.out.done (fun k k0 hk he => by have := HC1.out; omega)
      go_wp2
      go_ret
      exact DownPost.mk HH.out HP'.out HLA'.out HQ'.out HO'.out
    · by_cases h2 : c2 < n
      · have HLE : Hid (Calls Tryz.prog 135 #[v, .int .i64 (c2 : Int), .int .i64 (c1 : Int)] wr fun e w' => e = .returned (.bool (decide (X'.getD c2 0 < X'.getD c1 0))) ∧ ∃ m, w' = wr.drewN m) := q_less HQ'.out HN'.out HX'.out c2 c1 (by omega) (by have := HC2.out; omega) hl'
        have HML := m_less HQ'.out
        by_cases hlt : X'.getD c2 0 < X'.getD c1 0
        · rw [decide_eq_true hlt] at HLE
          have HCM : Hid (∀ k, 0 < k → k < n → (k - 1) / 2 = i' → X'.getD c2 0 ≤ X'.getD k 0) := fun k k0 hk he => by
            rcases (by have := HC1.out; have := HC2.out; omega : k = c1 ∨ k = c2) with e | e <;> rw [e] <;> omega
          clear hlt
          go_wp2_with fail
          refine HLE.out.mono ?_
          rintro e w1 ⟨rfl, m, hw1⟩
          have HQ1 : Hid (QAt w1 S q v X') := by rw [hw1]; exact HQ'.out.drewN m
          have HN1 : Hid (Nums w1 S M) := by rw [hw1]; exact HN'.out.drewN m
          have HO1 : Hid (Only (q :: ownL v) w w1) := by rw [hw1]; exact HO'.out.drewN m
          clear hw1
          have hjl : c2 < X'.length := by omega
          have HLF : Hid (Calls Tryz.prog 135 #[v, .int .i64 (c2 : Int), .int .i64 (i' : Int)] w1 fun e w' => e = .returned (.bool (decide (X'.getD c2 0 < X'.getD i' 0))) ∧ ∃ m, w' = w1.drewN m) := q_less HQ1.out HN1.out HX'.out c2 i' hjl hil hl'
          have HMF := m_less HQ1.out
          by_cases hlf : X'.getD c2 0 < X'.getD i' 0
          · rw [decide_eq_true hlf] at HLF
            have HST : Hid (H.DnI (H.swp X' i' c2) n c2) := HU'.out.step (by have := HC1.out; have := HC2.out; omega) (by have := HC1.out; have := HC2.out; omega) (by have := HC1.out; have := HC2.out; omega) hlf HCM.out
            have HSP := Lib.hid (H.swp_perm hil hjl)
            have HLA : Hid ((H.swp X' i' c2).getD n 0 = X.getD n 0) := by
              show _ = _
              rw [H.swp_get hil hjl, if_neg (by omega), if_neg (by omega)]; exact HLA'.out
            clear hlf
            go_wp2_with fail
            refine HLF.out.mono ?_
            rintro e w3 ⟨rfl, m3, hw3⟩
            have HQ3 : Hid (QAt w3 S q v X') := by rw [hw3]; exact HQ1.out.drewN m3
            have HO3 : Hid (Only (q :: ownL v) w w3) := by rw [hw3]; exact HO1.out.drewN m3
            clear hw3
            have HMS := m_swap HQ3.out
            have HSW : Hid (Calls Tryz.prog 138 #[v, .int .i64 (i' : Int), .int .i64 (c2 : Int)] w3 fun e w' => e = .returned (.tuple #[]) ∧ QAt w' S q v (H.swp X' i' c2) ∧ Only (q :: ownL v) w3 w') := q_swap HQ3.out i' c2 hil hjl hl'
            go_wp2_with fail
            refine HSW.out.mono ?_
            rintro e w4 ⟨rfl, hq4, ho4⟩
            have HQ4 := Lib.hid hq4
            have HO4 := Lib.hid (HO3.out.trans' ho4)
            clear hq4 ho4
            go_wp2
            go_roundw
            case rel => exact ⟨_, c2, rfl, by omega, HST.out, HSP.out.trans HP'.out, HLA.out, HQ4.out, HO4.out⟩
            case measure => simp [intOf]; omega
          · rw [decide_eq_false hlf] at HLF
            have HH : Hid (H.Heap (X'.take n)) := HU'.out.done (fun k k0 hk he => Nat.le_trans (Nat.le_of_not_lt hlf) (HCM.out k k0 hk he))
            clear hlf
            go_wp2_with fail
            refine HLF.out.mono ?_
            rintro e w3 ⟨rfl, m3, hw3⟩
            have HQ3 : Hid (QAt w3 S q v X') := by rw [hw3]; exact HQ1.out.drewN m3
            have HO3 : Hid (Only (q :: ownL v) w w3) := by rw [hw3]; exact HO1.out.drewN m3
            clear hw3
            go_wp2
            go_ret
            exact DownPost.mk HH.out HP'.out HLA'.out HQ3.out HO3.out
        · rw [decide_eq_false hlt] at HLE
          have HCM : Hid (∀ k, 0 < k → k < n → (k - 1) / 2 = i' → X'.getD c1 0 ≤ X'.getD k 0) := fun k k0 hk he => by
            rcases (by have := HC1.out; have := HC2.out; omega : k = c1 ∨ k = c2) with e | e <;> rw [e] <;> omega
          clear hlt
          go_wp2_with fail
          refine HLE.out.mono ?_
          rintro e w1 ⟨rfl, m, hw1⟩
          have HQ1 : Hid (QAt w1 S q v X') := by rw [hw1]; exact HQ'.out.drewN m
          have HN1 : Hid (Nums w1 S M) := by rw [hw1]; exact HN'.out.drewN m
          have HO1 : Hid (Only (q :: ownL v) w w1) := by rw [hw1]; exact HO'.out.drewN m
          clear hw1
          have hjl : c1 < X'.length := by have := HC2.out; omega
          have hjn : c1 < n := by have := HC2.out; omega
          have HLF : Hid (Calls Tryz.prog 135 #[v, .int .i64 (c1 : Int), .int .i64 (i' : Int)] w1 fun e w' => e = .returned (.bool (decide (X'.getD c1 0 < X'.getD i' 0))) ∧ ∃ m, w' = w1.drewN m) := q_less HQ1.out HN1.out HX'.out c1 i' hjl hil hl'
          have HMF := m_less HQ1.out
          by_cases hlf : X'.getD c1 0 < X'.getD i' 0
          · rw [decide_eq_true hlf] at HLF
            have HST : Hid (H.DnI (H.swp X' i' c1) n c1) := HU'.out.step (by have := HC1.out; have := HC2.out; omega) (by have := HC1.out; have := HC2.out; omega) (by have := HC1.out; have := HC2.out; omega) hlf HCM.out
            have HSP := Lib.hid (H.swp_perm hil hjl)
            have HLA : Hid ((H.swp X' i' c1).getD n 0 = X.getD n 0) := by
              show _ = _
              rw [H.swp_get hil hjl, if_neg (by omega), if_neg (by omega)]; exact HLA'.out
            clear hlf
            go_wp2_with fail
            refine HLF.out.mono ?_
            rintro e w3 ⟨rfl, m3, hw3⟩
            have HQ3 : Hid (QAt w3 S q v X') := by rw [hw3]; exact HQ1.out.drewN m3
            have HO3 : Hid (Only (q :: ownL v) w w3) := by rw [hw3]; exact HO1.out.drewN m3
            clear hw3
            have HMS := m_swap HQ3.out
            have HSW : Hid (Calls Tryz.prog 138 #[v, .int .i64 (i' : Int), .int .i64 (c1 : Int)] w3 fun e w' => e = .returned (.tuple #[]) ∧ QAt w' S q v (H.swp X' i' c1) ∧ Only (q :: ownL v) w3 w') := q_swap HQ3.out i' c1 hil hjl hl'
            go_wp2_with fail
            refine HSW.out.mono ?_
            rintro e w4 ⟨rfl, hq4, ho4⟩
            have HQ4 := Lib.hid hq4
            have HO4 := Lib.hid (HO3.out.trans' ho4)
            clear hq4 ho4
            go_wp2
            go_roundw
            case rel => exact ⟨_, c1, rfl, by omega, HST.out, HSP.out.trans HP'.out, HLA.out, HQ4.out, HO4.out⟩
            case measure => simp [intOf]; omega
          · rw [decide_eq_false hlf] at HLF
            have HH : Hid (H.Heap (X'.take n)) := HU'.out.done (fun k k0 hk he => Nat.le_trans (Nat.le_of_not_lt hlf) (HCM.out k k0 hk he))
            clear hlf
            go_wp2_with fail
            refine HLF.out.mono ?_
            rintro e w3 ⟨rfl, m3, hw3⟩
            have HQ3 : Hid (QAt w3 S q v X') := by rw [hw3]; exact HQ1.out.drewN m3
            have HO3 : Hid (Only (q :: ownL v) w w3) := by rw [hw3]; exact HO1.out.drewN m3
            clear hw3
            go_wp2
            go_ret
            exact DownPost.mk HH.out HP'.out HLA'.out HQ3.out HO3.out
      · have HCM : Hid (∀ k, 0 < k → k < n → (k - 1) / 2 = i' → X'.getD c1 0 ≤ X'.getD k 0) := fun k k0 hk he => by
          rw [(by have := HC1.out; have := HC2.out; omega : k = c1)]; exact Nat.le_refl _
        have hjl : c1 < X'.length := by omega
        have HLF : Hid (Calls Tryz.prog 135 #[v, .int .i64 (c1 : Int), .int .i64 (i' : Int)] wr fun e w' => e = .returned (.bool (decide (X'.getD c1 0 < X'.getD i' 0))) ∧ ∃ m, w' = wr.drewN m) := q_less HQ'.out HN'.out HX'.out c1 i' hjl hil hl'
        have HMF := m_less HQ'.out
        by_cases hlf : X'.getD c1 0 < X'.getD i' 0
        · rw [decide_eq_true hlf] at HLF
          have HST : Hid (H.DnI (H.swp X' i' c1) n c1) := HU'.out.step (by have := HC1.out; have := HC2.out; omega) (by have := HC1.out; have := HC2.out; omega) (by have := HC1.out; have := HC2.out; omega) hlf HCM.out
          have HSP := Lib.hid (H.swp_perm hil hjl)
          have HLA : Hid ((H.swp X' i' c1).getD n 0 = X.getD n 0) := by
            show _ = _
            rw [H.swp_get hil hjl, if_neg (by omega), if_neg (by omega)]; exact HLA'.out
          clear hlf
          go_wp2_with fail
          refine HLF.out.mono ?_
          rintro e w3 ⟨rfl, m3, hw3⟩
          have HQ3 : Hid (QAt w3 S q v X') := by rw [hw3]; exact HQ'.out.drewN m3
          have HO3 : Hid (Only (q :: ownL v) w w3) := by rw [hw3]; exact HO'.out.drewN m3
          clear hw3
          have HMS := m_swap HQ3.out
          have HSW : Hid (Calls Tryz.prog 138 #[v, .int .i64 (i' : Int), .int .i64 (c1 : Int)] w3 fun e w' => e = .returned (.tuple #[]) ∧ QAt w' S q v (H.swp X' i' c1) ∧ Only (q :: ownL v) w3 w') := q_swap HQ3.out i' c1 hil hjl hl'
          go_wp2_with fail
          refine HSW.out.mono ?_
          rintro e w4 ⟨rfl, hq4, ho4⟩
          have HQ4 := Lib.hid hq4
          have HO4 := Lib.hid (HO3.out.trans' ho4)
          clear hq4 ho4
          go_wp2
          go_roundw
          case rel => exact ⟨_, c1, rfl, by omega, HST.out, HSP.out.trans HP'.out, HLA.out, HQ4.out, HO4.out⟩
          case measure => simp [intOf]; omega
        · rw [decide_eq_false hlf] at HLF
          have HH : Hid (H.Heap (X'.take n)) := HU'.out.done (fun k k0 hk he => Nat.le_trans (Nat.le_of_not_lt hlf) (HCM.out k k0 hk he))
          clear hlf
          go_wp2_with fail
          refine HLF.out.mono ?_
          rintro e w3 ⟨rfl, m3, hw3⟩
          have HQ3 : Hid (QAt w3 S q v X') := by rw [hw3]; exact HQ'.out.drewN m3
          have HO3 : Hid (Only (q :: ownL v) w w3) := by rw [hw3]; exact HO'.out.drewN m3
          clear hw3
          go_wp2
          go_ret
          exact DownPost.mk HH.out HP'.out HLA'.out HQ3.out HO3.out
end Go.Proofs.YtaceogpdjbikiaaGreatDoor
