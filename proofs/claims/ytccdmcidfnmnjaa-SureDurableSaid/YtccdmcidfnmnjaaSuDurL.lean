/- The walk of SureDurable: whatever is handed in, the call answers true, and what was there stays. -/
import Derived.Test.YtccdmcidfnmnjaaSuBackL
import Derived.ProofKit
import Derived.OpenShut
namespace Go.Proofs.Ytccdmcidfnmnjaa
open Go.RowKit

theorem bytes_in {w : World} {PA : Option Addr} {pn pc : Nat} {pz : List Int} (hp : IsBytes w (.slice PA pn pc) pz) : pz ≠ [] → ∀ a, PA = some a → a.block < w.heap.size := by
  intro hz a ha
  obtain ⟨a', cap', e, h1, h2, h3, h4⟩ := hp
  simp only [Value.slice.injEq] at e
  obtain ⟨rfl, rfl, rfl⟩ := e
  rcases h3 with h3 | ⟨b, o, e, hc⟩
  · exact absurd h3 hz
  · rw [e] at ha
    obtain rfl := Option.some.inj ha
    have hl : 0 < pz.length := List.length_pos_iff.2 hz
    exact World.block_lt_of_cell? w _ (hc 0 hl)
set_option maxHeartbeats 2000000 in
set_option maxRecDepth 100000 in
theorem sureDurable_walk (A : Option Addr) (len cap : Nat) (zs : List Int) (q0 c0 : Int) (PA : Option Addr) (pn pc : Nat) (pz : List Int) (w : World) (h0 : IsInts .u64 w (.slice A len cap) zs) (h1 : (Lit.int .u8 q0).wf = true) (h2 : (Lit.int .u8 c0).wf = true) (h3 : IsInts .u8 w (.slice PA pn pc) pz) :
    Calls Try.prog 4 #[.slice A len cap, .agg #[.int .u8 q0, .int .u8 c0], .slice PA pn pc] w fun e w' => e = .returned (.bool true) ∧ Below w.heap.size w w' := by
  obtain ⟨q, rfl, hq⟩ := su_u8 h1
  obtain ⟨c, rfl, hc⟩ := su_u8 h2
  obtain ⟨hw, hn⟩ := words_in h0
  obtain ⟨hlen, hlc, hlm⟩ := hw.len
  have hp2 := bytes_in h3
  obtain ⟨_, hpc, hpm⟩ := IsInts.len' h3
  have HP : Hid (IsBytes w (.slice PA pn pc) pz) := h3
  have HP2 := Lib.hid hp2
  clear h0 h1 h2 h3 hp2
  generalize zs.map Int.toNat = l at *
  unfold maxLen at hlm hpm
  have HBX : Hid (∀ o, Below w.heap.size w (w.alloc o)) := fun o => (Below.refl _ _).alloc (Nat.le_refl _) _
  have HCX : Hid (∀ o w1, Below (w.alloc o).heap.size (w.alloc o) w1 → w1.heap[w.heap.size]? = some o ∧ Below w.heap.size w w1) := by
    intro o w1 hb
    exact ⟨(hb.block w.heap.size (by simp)).trans (heap_alloc_new w o), ((Below.refl _ _).alloc (Nat.le_refl _) o).trans (hb.mono (by simp))⟩
  by_cases h40 : 40 < len
  · clear hw hn hlen
    go_enter Try.func4, Try.ntmps4
    go_wp2_with fail
    refine (alive4_any _).mono ?_
    rintro e w1 ⟨rfl, hb1⟩
    obtain ⟨hx, hb⟩ := HCX.out _ w1 hb1
    have cb0 : w1.cell? ⟨w.heap.size, 0, none⟩ = some (.int .u8 (q : Int)) := cell_of_row w1 _ 0 _ _ _ hx
    have cb1 : w1.cell? ⟨w.heap.size, 1, none⟩ = some (.int .u8 (c : Int)) := cell_of_row w1 _ 1 _ _ _ hx
    have HB1 := Lib.hid hb
    clear hb1 hx hb
    go_wp2_with fail
    go_quiet (fail)
    go_wp2
    go_ret
    exact ⟨rfl, below_drewN' HB1.out _⟩
  · by_cases h100 : 100 < pn
    · clear hw hn hlen
      go_enter Try.func4, Try.ntmps4
      go_wp2_with fail
      refine (alive4_any _).mono ?_
      rintro e w1 ⟨rfl, hb1⟩
      obtain ⟨hx, hb⟩ := HCX.out _ w1 hb1
      have cb0 : w1.cell? ⟨w.heap.size, 0, none⟩ = some (.int .u8 (q : Int)) := cell_of_row w1 _ 0 _ _ _ hx
      have cb1 : w1.cell? ⟨w.heap.size, 1, none⟩ = some (.int .u8 (c : Int)) := cell_of_row w1 _ 1 _ _ _ hx
      have HB1 := Lib.hid hb
      clear hb1 hx hb
      go_wp2_with fail
      go_quiet (fail)
      go_wp2
      go_ret
      exact ⟨rfl, below_drewN' HB1.out _⟩
    · have hm : ((q : Int) % 20) = ((q % 20 : Nat) : Int) := rfl
      have hr : q % 20 < 20 := Nat.mod_lt _ (by decide)
      generalize q % 20 = r at *
      obtain ⟨o, ho⟩ : ∃ o : Int, o = 8 * (r : Int) := ⟨_, rfl⟩
      have ho2 : 8 * (r : Int) = o := ho.symm
      have ho3 : 0 ≤ o ∧ o ≤ 152 := by omega
      obtain ⟨v1, v2, v3, v4, v5⟩ := V.sure_durable (off := o) (l := l) (by omega) (by omega) (by omega) hn c hc pz
      have V1 : Hid ((((V.newDv 8).stop c).putAll o l).1.steps ≤ 1000) := by show _ ≤ _; omega
      have V2 := Lib.hid v2; have V3 := Lib.hid v3; have V4 := Lib.hid v4; have V5 := Lib.hid v5
      have HW := Lib.hid hw
      have HLEN := Lib.hid hlen
      have hnw : ((V.newDv 8).stop c).steps ≤ 10000000 := by rw [V.stop_steps]; decide
      rw [hlen] at V3 V5
      clear hw hn ho v1 v2 v3 v4 v5 hlen
      generalize hd2 : ((V.newDv 8).stop (c : Int)).putAll o l = d2 at *
      obtain ⟨d2, er⟩ := d2
      have HD2 := Lib.hid hd2
      clear hd2
      dsimp only at V1 V2 V3 V4 V5
      go_enter Try.func4, Try.ntmps4
      go_wp2_with fail
      refine (alive4_any _).mono ?_
      rintro e w1 ⟨rfl, hb1⟩
      obtain ⟨hx, hb⟩ := HCX.out _ w1 hb1
      have cb0 : w1.cell? ⟨w.heap.size, 0, none⟩ = some (.int .u8 (q : Int)) := cell_of_row w1 _ 0 _ _ _ hx
      have cb1 : w1.cell? ⟨w.heap.size, 1, none⟩ = some (.int .u8 (c : Int)) := cell_of_row w1 _ 1 _ _ _ hx
      have HB1 := Lib.hid hb
      clear hb1 hx hb
      go_wp2_with fail
      go_quiet (fail)
      go_wp2_with fail
      refine (in_new 8 (by decide) (by decide) w _ (below_drewN' HB1.out _)).mono ?_
      rintro e w2 ⟨D, rfl, hd⟩
      have HD := Lib.hid hd
      clear hd cb0 cb1
      go_wp2_with fail
      refine (in_stop HD.out (c : Int) (by omega)).mono ?_
      rintro e w3 ⟨rfl, hd⟩
      have HD3 := Lib.hid hd
      clear hd
      have HPA : Hid (Calls Try.prog 33 #[.pointer (some ⟨D, 0, none⟩), .int .i64 o, .slice A len cap] w3 fun e w' => e = .returned (.int .i64 er) ∧ DevIn w (.pointer (some ⟨D, 0, none⟩)) d2 w') := by
        have h := in_putAll HD3.out o ⟨by omega, by omega⟩ A len cap l (HW.out.below HD3.out.below) hnw
        rw [HD2.out] at h
        exact h
      go_wp2_with fail
      refine HPA.out.mono ?_
      rintro e w4 ⟨rfl, hd⟩
      have HD4 := Lib.hid hd
      clear hd
      go_wp2_with fail
      refine (in_crash HD4.out PA pn pc pz HP.out HP2.out (Nat.le_trans V1.out (by decide))).mono ?_
      rintro e w5 ⟨rfl, hd⟩
      have HD5 := Lib.hid hd
      clear hd
      go_wp2_with fail
      refine (in_get HD5.out o ⟨by omega, by omega⟩ len (by omega) V3.out V4.out).mono ?_
      rintro e w6 ⟨v, rfl, hnw6, hd6⟩
      obtain ⟨ga, rfl, hga, hwa, hba, hla⟩ := hnw6
      rw [V.words_length] at hwa ⊢
      have HWA := Lib.hid hwa
      have HB6 := Lib.hid hd6.below
      have HW6 := Lib.hid (HW.out.below hd6.below)
      have VV := V2.out
      clear hwa hd6 hba hga hla
      go_wp2_with fail
      go_loopw [14, 66] (fun _ x wr => ∃ j : Nat, j ≤ len ∧ x = .int .i64 j ∧ ∃ n, wr = w6.drewN n) (fun _ x _ => len - (intOf x).toNat)
      case atStart => exact ⟨0, by omega, rfl, nodraw _⟩
      case round =>
        obtain ⟨j, hj, rfl, n, rfl⟩ := hrel
        by_cases hlt : j < len
        · obtain ⟨b1, o1, x, rfl, hx, _, hc1⟩ := HW6.out.get j hlt
          obtain ⟨y, hy, hc2⟩ := words_cell HWA.out j hlt
          obtain ⟨y', hy', k1, k2⟩ := V5.out j x hx
          obtain rfl : y = y' := by rw [hy] at hy'; exact Option.some.inj hy'
          rw [Nat.zero_add] at hc2
          clear hx hy hy'
          rcases VV with rfl | rfl
          · obtain rfl := k2 rfl
            have hb : ((y : Int) != (y : Int)) = false := by simp
            clear k1 k2
            go_wp2_with fail
            go_quiet (fail)
            go_wp2
            go_roundw
            case rel => exact ⟨j + 1, by omega, by go_num, _, rfl⟩
            case measure => simp [intOf]; omega
          · clear k2
            rcases k1 with rfl | rfl
            · have hb : ((y : Int) != (y : Int)) = false := by simp
              go_wp2_with fail
              go_quiet (fail)
              go_wp2
              go_roundw
              case rel => exact ⟨j + 1, by omega, by go_num, _, rfl⟩
              case measure => simp [intOf]; omega
            · by_cases hx0 : x = 0
              · subst hx0
                go_wp2_with fail
                go_quiet (fail)
                go_wp2
                go_roundw
                case rel => exact ⟨j + 1, by omega, by go_num, _, rfl⟩
                case measure => simp [intOf]; omega
              · have hb : ((0 : Int) != (x : Int)) = true := by simp; omega
                clear hx0
                go_wp2_with fail
                go_quiet (fail)
                go_wp2
                go_roundw
                case rel => exact ⟨j + 1, by omega, by go_num, _, rfl⟩
                case measure => simp [intOf]; omega
        · rcases VV with rfl | rfl
          · go_wp2
            go_ret
            exact ⟨rfl, below_drewN' HB6.out n⟩
          · go_wp2
            go_ret
            exact ⟨rfl, below_drewN' HB6.out n⟩

theorem cellsArr2b : Try.prog.cellsOf 59 = 2 := by kernel_rfl
theorem cellsU8 : Try.prog.cellsOf 5 = 1 := by kernel_rfl
set_option maxRecDepth 100000 in
open Go.ChangeShapes Go.WideShapes Go.ChangeAt in
theorem open_arr2b {H : Type} {enc : TypeId × Value → H} {w : World} {base b0 : Nat} {spare : Nat → Bool} {held : Bool} {r : Reach} {v : Value} {d : DataW H} {p : List MemPlace}
    (hv : Value.okWide Try.prog w r b0 59 v) (h : DataW.Trod enc Try.prog w base spare held 59 v d p) :
    ∃ x y : Int, v = .agg #[.int .u8 x, .int .u8 y] ∧ (Lit.int .u8 x).wf = true ∧ (Lit.int .u8 y).wf = true := by
  have hv' := hv
  simp only [Value.okWide, Try.underlying59] at hv'
  obtain ⟨cs, rfl, hsz, _⟩ := hv'
  rw [cellsArr2b] at hsz
  obtain ⟨fuel, hf⟩ := h
  obtain ⟨xs, m, rfl, hx, hl, hxl, hi⟩ := DataW.trod_array Try.underlying59 hf
  rw [cellsU8] at hi
  obtain ⟨l⟩ := cs
  match l, hsz with
  | [a, b], _ =>
    have g : ∀ i, i < 2 → ∃ y, DataW.trod enc Try.prog w base spare held m 5 (([a, b].drop i).take 1) = some y := by
      intro i h3
      have := hi i h3
      rw [List.getElem?_eq_getElem (by omega)] at this
      exact ⟨_, by simpa [Value.cells] using this⟩
    obtain ⟨y0, h0⟩ := g 0 (by decide)
    obtain ⟨y1, h1⟩ := g 1 (by decide)
    obtain ⟨x, e0, _, wx⟩ := DataW.trod_int Try.underlying5 h0
    obtain ⟨y, e1, _, wy⟩ := DataW.trod_int Try.underlying5 h1
    simp at e0 e1
    subst e0 e1
    exact ⟨x, y, rfl, wx, wy⟩
end Go.Proofs.Ytccdmcidfnmnjaa
