
/- Layer 4: the contract of inOrder: steps, one behind the other, as far as the first error. -/
import Derived.Test.YtmelmiookkeoaaaDoorSuA

namespace Go.Proofs.YtmelmiookkeoaaaDoor

open Go.RowKit

section

variable {w : World} {d : V.Dv} {F : List Nat}

/-- Where it is behind j steps, none of which told an error. -/
def Ran (w : World) (p : Option Addr) (d : V.Dv) (F : List Nat) (l : List V.St) (j : Nat) (wr : World) : Prop :=
  ∃ dj, V.runL d l = V.runL dj (l.drop j) ∧ DevStep w (.pointer p) dj F wr ∧ dj.steps ≤ d.steps + j
/-- A step's call, whatever it is. -/
theorem Ran.call {p : Option Addr} {l : List V.St} {j : Nat} {wr : World} {s : V.St} (h : Ran w p d F l j wr) (hs : l[j]? = some s) (_hF : ∀ k ∈ F, k < w.heap.size) :
    ∃ (dj : V.Dv) (F' : List Nat), Dev wr (.pointer p) dj F' ∧ Only F w wr ∧ (∀ k ∈ F', k ∈ F ∨ w.heap.size ≤ k) ∧ dj.steps ≤ d.steps + j ∧
      (∀ w', DevStep wr (.pointer p) (s.run dj) F' w' → s.err dj = 0 → Ran w p d F l (j + 1) w') ∧
      (∀ w', DevStep wr (.pointer p) (s.run dj) F' w' → s.err dj ≠ 0 → V.runL d l = (s.run dj, s.err dj) ∧ DevStep w (.pointer p) (V.runL d l).1 F w') := by
  obtain ⟨dj, h1, ⟨F', k1, k2, k3⟩, h3⟩ := h
  have e : l.drop j = s :: l.drop (j + 1) := by
    rw [List.drop_eq_getElem_cons (List.getElem?_eq_some_iff.1 hs).1, (List.getElem?_eq_some_iff.1 hs).2]
  have hst : ∀ w', DevStep wr (.pointer p) (s.run dj) F' w' → DevStep w (.pointer p) (s.run dj) F w' := by
    rintro w' ⟨F2, j1, j2, j3⟩
    refine ⟨F2, j1, k2.trans j2 k3, fun k hk => ?_⟩
    rcases j3 k hk with e | e
    · exact k3 k e
    · exact .inr (Nat.le_trans k2.size e)
  refine ⟨dj, F', k1, k2, k3, h3, fun w' hw he => ⟨s.run dj, ?_, hst w' hw, ?_⟩, fun w' hw he => ?_⟩
  · rw [h1, e, V.runL_ok _ he]
  · have := s.steps dj; omega
  · have e2 : V.runL d l = (s.run dj, s.err dj) := by rw [h1, e, V.runL_no _ he]
    refine ⟨e2, ?_⟩
    rw [e2]; exact hst w' hw
set_option maxRecDepth 100000 in
set_option maxHeartbeats 1000000 in
theorem su_inOrder {p : Option Addr} (l : List V.St) (hok : ∀ s ∈ l, s.ok) (h : Dev w (.pointer p) d F) (g cap : Nat) (hg : g ∉ F)
    (hc : ∀ i s, l[i]? = some s → ∃ u, w.cell? ⟨g, i, none⟩ = some u ∧ StepV w (.pointer p) F u s) (hl : l.length ≤ 1000000) (hs : d.steps ≤ 100000000) :
    Calls Tryd.prog 57 #[.slice (some ⟨g, 0, none⟩) l.length cap] w fun e w' => e = .returned (.int .i64 (V.runL d l).2) ∧ DevStep w (.pointer p) (V.runL d l).1 F w' := by
  have HF := Lib.hid h.lt
  have H0 : Hid (Ran w p d F l 0 w) := ⟨d, by rw [List.drop_zero], DevStep.same h 0, Nat.le_refl _⟩
  have HOK := Lib.hid hok
  have HC := Lib.hid hc
  have HG := Lib.hid hg
  have hlen : ∀ i s, l[i]? = some s → i < l.length := fun i s h => (List.getElem?_eq_some_iff.1 h).1
  have HN : Hid (∀ i, i < l.length → ∃ s, l[i]? = some s) := fun i hi => ⟨_, List.getElem?_eq_getElem hi⟩
  have HE : Hid (∀ wr, Ran w p d F l l.length wr → (V.runL d l).2 = 0 ∧ DevStep w (.pointer p) (V.runL d l).1 F wr) := by
    rintro wr ⟨dj, h1, h2, h3⟩
    rw [List.drop_length] at h1
    rw [h1]
    exact ⟨rfl, h2⟩
  clear h hok hc hg hlen
  generalize hn : l.length = n at *
  clear hn
  go_enter Tryd.func57, Tryd.ntmps57
  go_wp2_with fail
  go_loopw [4, 5, 8] (fun _ _ x wr => ∃ j : Nat, j ≤ n ∧ x = .int .i64 j ∧ Hid (Ran w p d F l j wr)) (fun _ _ x _ => n - (intOf x).toNat)
  case atStart => exact ⟨0, by omega, rfl, H0.out⟩
  case round =>
    obtain ⟨j, hj, rfl, hr⟩ := hrel
    by_cases hlt : j < n
    · obtain ⟨s, hsj⟩ := HN.out j hlt
      obtain ⟨dj, F', k1, k2, k3, k4, k5, k6⟩ := hr.out.call hsj HF.out
      obtain ⟨u, hu, hsv⟩ := HC.out j s hsj
      have hcell : wr.cell? ⟨g, j, none⟩ = some u := (World.cell?_of_block (w := w) (a := ⟨g, j, none⟩) (k2.block g (World.block_lt_of_cell? w _ hu) HG.out)).trans hu
      have hsv2 := hsv.step k2 k3
      have hso := HOK.out s (List.mem_of_getElem? hsj)
      have K5 := Lib.hid k5
      have K6 := Lib.hid k6
      have hst : dj.steps ≤ 1000000000 := by omega
      clear hsv k2 k3 k4 k5 k6 hu hsj
      cases s with
      | store off m =>
        obtain ⟨a, b, c, rfl, h2, h3, h4⟩ := hsv2
        have HS := Lib.hid (su_store1 k1 a b c off m h2 h3 h4 hso.1 hso.2 hst)
        clear h2 h3 h4 k1 hso hst
        have hE : V.St.err dj (.store off m) = dj.err off 8 := rfl
        have hR : V.St.run dj (.store off m) = dj.store off m := rfl
        rw [hE, hR] at K5 K6
        clear hE hR
        generalize dj.err off 8 = er at *
        generalize dj.store off m = d2 at *
        by_cases he : er = 0
        · subst he
          have K := Lib.hid (fun w' h => K5.out w' h rfl)
          go_wp2_with fail
          refine HS.out.mono ?_
          rintro e w1 ⟨rfl, h1⟩
          have HR := Lib.hid (K.out w1 h1)
          clear h1
          go_wp2
          go_roundw
          case rel => exact ⟨j + 1, by omega, by go_num, HR⟩
          case measure => simp [intOf]; omega
        · have K := Lib.hid (fun w' h => K6.out w' h he)
          have hb : (er != 0) = true := by simpa using he
          clear he
          go_wp2_with fail
          refine HS.out.mono ?_
          rintro e w1 ⟨rfl, h1⟩
          obtain ⟨h2, h3⟩ := K.out w1 h1
          have H2 := Lib.hid h2; have H3 := Lib.hid h3
          clear h1 h2 h3
          go_wp2
          go_ret
          exact ⟨by rw [H2.out]; rfl, H3.out⟩
      | flush off =>
        obtain ⟨a, b, rfl, h2, h3⟩ := hsv2
        have HS := Lib.hid (su_flush1 k1 a b off h2 h3 hso hst)
        clear h2 h3 k1 hso hst
        have hE : V.St.err dj (.flush off) = dj.err off 1 := rfl
        have hR : V.St.run dj (.flush off) = dj.flush off := rfl
        rw [hE, hR] at K5 K6
        clear hE hR
        generalize dj.err off 1 = er at *
        generalize dj.flush off = d2 at *
        by_cases he : er = 0
        · subst he
          have K := Lib.hid (fun w' h => K5.out w' h rfl)
          go_wp2_with fail
          refine HS.out.mono ?_
          rintro e w1 ⟨rfl, h1⟩
          have HR := Lib.hid (K.out w1 h1)
          clear h1
          go_wp2
          go_roundw
          case rel => exact ⟨j + 1, by omega, by go_num, HR⟩
          case measure => simp [intOf]; omega
        · have K := Lib.hid (fun w' h => K6.out w' h he)
          have hb : (er != 0) = true := by simpa using he
          clear he
          go_wp2_with fail
          refine HS.out.mono ?_
          rintro e w1 ⟨rfl, h1⟩
          obtain ⟨h2, h3⟩ := K.out w1 h1
          have H2 := Lib.hid h2; have H3 := Lib.hid h3
          clear h1 h2 h3
          go_wp2
          go_ret
          exact ⟨by rw [H2.out]; rfl, H3.out⟩
      | fence =>
        have hu : u = .func (.func 58) #[.pointer p] #[] := hsv2
        subst hu
        have HS := Lib.hid (dev_fence k1 hst)
        clear hsv2 k1 hso hst
        have hE : V.St.err dj .fence = dj.state := rfl
        have hR : V.St.run dj .fence = dj.fence := rfl
        rw [hE, hR] at K5 K6
        clear hE hR
        generalize dj.state = er at *
        generalize dj.fence = d2 at *
        by_cases he : er = 0
        · subst he
          have K := Lib.hid (fun w' h => K5.out w' h rfl)
          go_wp2_with fail
          refine HS.out.mono ?_
          rintro e w1 ⟨rfl, h1⟩
          have HR := Lib.hid (K.out w1 h1)
          clear h1
          go_wp2
          go_roundw
          case rel => exact ⟨j + 1, by omega, by go_num, HR⟩
          case measure => simp [intOf]; omega
        · have K := Lib.hid (fun w' h => K6.out w' h he)
          have hb : (er != 0) = true := by simpa using he
          clear he
          go_wp2_with fail
          refine HS.out.mono ?_
          rintro e w1 ⟨rfl, h1⟩
          obtain ⟨h2, h3⟩ := K.out w1 h1
          have H2 := Lib.hid h2; have H3 := Lib.hid h3
          clear h1 h2 h3
          go_wp2
          go_ret
          exact ⟨by rw [H2.out]; rfl, H3.out⟩
    · obtain rfl : j = n := by omega
      obtain ⟨h1, h2⟩ := HE.out wr hr.out
      have H1 := Lib.hid h1; have H2 := Lib.hid h2
      clear h1 h2
      go_wp2
      go_ret
      exact ⟨by rw [H1.out]; rfl, H2.out⟩
end

end Go.Proofs.YtmelmiookkeoaaaDoor
