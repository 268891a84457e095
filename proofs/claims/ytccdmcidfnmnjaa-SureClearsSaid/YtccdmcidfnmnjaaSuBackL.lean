/- The walk of SureBack: whatever is handed in, the call answers true, and what was there stays. -/
import Derived.Test.YtccdmcidfnmnjaaSuF
import Derived.Test.YtccdmcidfnmnjaaSuQ
import Derived.Deep.QuietTactic
import Derived.BigQuiet
namespace Go.Proofs.Ytccdmcidfnmnjaa
open Go.RowKit

theorem su_u64 {a : Int} (h : (Lit.int .u64 a).wf = true) : 0 ≤ a ∧ a < 2 ^ 64 := by
  simp [Lit.wf, IntKind.min, IntKind.max, IntKind.signed, IntKind.bits] at h
  omega
theorem su_i64 {a : Int} (h : (Lit.int .i64 a).wf = true) : I64 a := by
  simp [Lit.wf, IntKind.min, IntKind.max, IntKind.signed, IntKind.bits] at h
  unfold I64; omega
theorem su_u8 {a : Int} (h : (Lit.int .u8 a).wf = true) : ∃ n : Nat, a = n ∧ n ≤ 255 := by
  simp [Lit.wf, IntKind.min, IntKind.max, IntKind.signed, IntKind.bits] at h
  exact ⟨a.toNat, by omega, by omega⟩
/-- Words that came in. -/
theorem words_in {w : World} {A : Option Addr} {len cap : Nat} {zs : List Int} (h : IsInts .u64 w (.slice A len cap) zs) : IsWords w (.slice A len cap) (zs.map Int.toNat) ∧ ∀ n ∈ zs.map Int.toNat, n < 2 ^ 64 := by
  have hz : ∀ z ∈ zs, (Lit.int .u64 z).wf = true := by obtain ⟨_, _, _, _, _, _, h⟩ := h; exact h
  have e : (zs.map Int.toNat).map (fun n : Nat => (n : Int)) = zs := by
    rw [List.map_map]
    conv => rhs; rw [← List.map_id zs]
    exact List.map_congr_left (fun z hm => by have := su_u64 (hz z hm); simp; omega)
  refine ⟨by unfold IsWords; rw [e]; exact h, fun n hn => ?_⟩
  obtain ⟨z, hm, rfl⟩ := List.mem_map.1 hn
  have := su_u64 (hz z hm)
  omega
theorem words_cell {w : World} {b o len cap : Nat} {l : List Nat} (h : IsWords w (.slice (some ⟨b, o, none⟩) len cap) l) (i : Nat) (hi : i < len) : ∃ x, l[i]? = some x ∧ w.cell? ⟨b, o + i, none⟩ = some (.int .u64 ((x : Nat) : Int)) := by
  obtain ⟨b', o', x, e1, e2, _, e3⟩ := h.get i hi
  simp only [Option.some.injEq, Addr.mk.injEq, and_true] at e1
  obtain ⟨rfl, rfl⟩ := e1
  exact ⟨x, e2, e3⟩

set_option maxHeartbeats 1000000 in
set_option maxRecDepth 100000 in
theorem sureBack_walk (A : Option Addr) (len cap : Nat) (zs : List Int) (q0 c0 : Int) (w : World) (h0 : IsInts .u64 w (.slice A len cap) zs) (h1 : (Lit.int .u8 q0).wf = true) (h2 : (Lit.int .u8 c0).wf = true) :
    Calls Try.prog 7 #[.slice A len cap, .int .u8 q0, .int .u8 c0] w fun e w' => e = .returned (.bool true) ∧ Below w.heap.size w w' := by
  obtain ⟨q, rfl, hq⟩ := su_u8 h1
  obtain ⟨c, rfl, hc⟩ := su_u8 h2
  obtain ⟨hw, hn⟩ := words_in h0
  obtain ⟨hlen, hlc, hlm⟩ := hw.len
  clear h0 h1 h2
  generalize zs.map Int.toNat = l at *
  unfold maxLen at hlm
  by_cases h40 : 40 < len
  · clear hw hn hlen
    go_enter Try.func7, Try.ntmps7
    go_wp2_with fail
    refine (alive4_any _).mono ?_
    rintro e w1 ⟨rfl, hb1⟩
    have HB1 := Lib.hid hb1
    clear hb1
    go_wp2
    go_ret
    exact ⟨rfl, HB1.out⟩
  · obtain ⟨i0, hi, hz0, hz1, hz2⟩ := info_parts info_u64
    have hm : ((q : Int) % 20) = ((q % 20 : Nat) : Int) := rfl
    have hr : q % 20 < 20 := Nat.mod_lt _ (by decide)
    generalize q % 20 = r at *
    obtain ⟨o, ho⟩ : ∃ o : Int, o = 8 * (r : Int) := ⟨_, rfl⟩
    have ho2 : 8 * (r : Int) = o := ho.symm
    have ho3 : 0 ≤ o ∧ o ≤ 152 := by omega
    have hk : ((c : Int) % ((len : Int) + 1)) = ((c % (len + 1) : Nat) : Int) := by rfl
    have hk9 : c % (len + 1) ≤ len := Nat.lt_succ_iff.1 (Nat.mod_lt _ (Nat.succ_pos _))
    generalize c % (len + 1) = k at *
    obtain ⟨o2, ho5⟩ : ∃ o2 : Int, o2 = o + 8 * (k : Int) := ⟨_, rfl⟩
    have ho6 : o + 8 * (k : Int) = o2 := ho5.symm
    have ho7 : 0 ≤ o2 ∧ o2 ≤ 10000 := by omega
    obtain ⟨m, hmm⟩ : ∃ m, m = len - k := ⟨_, rfl⟩
    have hmi : (len : Int) - (k : Int) = (m : Int) := by omega
    obtain ⟨v1, v2, v3, v4⟩ := V.back_put (off := o) (l := l) (by omega) (by omega) (by omega) hn
    obtain ⟨g1, g2⟩ := v4 0 k (by omega)
    obtain ⟨g3, g4⟩ := v4 k m (by omega)
    rw [show o + 8 * ((0 : Nat) : Int) = o by omega] at g1 g2
    rw [List.drop_zero] at g2
    rw [List.take_of_length_le (by rw [List.length_drop]; omega)] at g4
    rw [ho6] at g3 g4
    have V1 := Lib.hid v1; have V2 := Lib.hid v2; have G1 := Lib.hid g1; have G2 := Lib.hid g2; have G3 := Lib.hid g3; have G4 := Lib.hid g4
    have HW := Lib.hid hw
    have HTD : Hid (l.take k ++ l.drop k = l) := List.take_append_drop k l
    have HTL : Hid ((l.take k).length = k ∧ (l.drop k).length = m) := by
      refine ⟨?_, ?_⟩
      · rw [List.length_take]; omega
      · rw [List.length_drop]; omega
    have hnw : (V.newDv 8).steps ≤ 10000000 := by decide
    have H8 := Lib.hid ho5
    clear hw hn ho v1 v2 v3 v4 g1 g2 g3 g4 hlen ho5 hmm
    generalize hd2 : (V.newDv 8).putAll o l = d2 at *
    obtain ⟨d2, e2⟩ := d2
    have V1' : e2 = 0 := V1.out
    subst V1'
    have HD2 := Lib.hid hd2
    clear hd2 V1
    go_enter Try.func7, Try.ntmps7
    go_wp2_with fail
    refine (alive4_any _).mono ?_
    rintro e w1 ⟨rfl, hb1⟩
    have HB1 := Lib.hid hb1
    clear hb1
    go_wp2_with fail
    refine (in_new 8 (by decide) (by decide) w w1 HB1.out).mono ?_
    rintro e w2 ⟨D, rfl, hd⟩
    have HD := Lib.hid hd
    clear hd
    have HPA : Hid (Calls Try.prog 33 #[.pointer (some ⟨D, 0, none⟩), .int .i64 o, .slice A len cap] w2 fun e w' => e = .returned (.int .i64 0) ∧ DevIn w (.pointer (some ⟨D, 0, none⟩)) d2 w') := by
      have h := in_putAll HD.out o ⟨by omega, by omega⟩ A len cap l (HW.out.below HD.out.below) hnw
      rw [HD2.out] at h
      exact h
    go_wp2_with fail
    refine HPA.out.mono ?_
    rintro e w3 ⟨rfl, hd⟩
    have HD3 := Lib.hid hd
    clear hd
    go_wp2_with fail
    refine (in_get HD3.out o ⟨by omega, by omega⟩ k (by omega) G1.out V2.out).mono ?_
    rintro e w4 ⟨v, rfl, hnw4, hd4⟩
    rw [G2.out] at hnw4
    obtain ⟨ga, rfl, hga, hwa, hba, hla⟩ := hnw4
    rw [HTL.out.1] at hwa ⊢
    have HWA := Lib.hid hwa
    have HD4 := Lib.hid hd4
    clear hwa hd4 hba hga hla
    go_wp2_with fail
    refine (in_get HD4.out o2 ⟨by omega, by omega⟩ m (by omega) G3.out V2.out).mono ?_
    rintro e w5 ⟨v, rfl, hnw5, hd5⟩
    rw [G4.out] at hnw5
    obtain ⟨gb, rfl, hgb, hwb, hbb, hlb⟩ := hnw5
    rw [HTL.out.2] at hwb ⊢
    have HWB := Lib.hid hwb
    have HWA5 := Lib.hid (HWA.out.below hbb)
    have HB5 := Lib.hid hd5.below
    clear hwb hd5 hbb hgb hlb
    go_wp2_with (at_builtin; refine wpList_append_ints rfl (.const (.slice none 0 0)) (.tmp 59) 58 rfl .u64 w.heap.size 33 i0 _ 8 Try.underlying58 hi hz0 hz1 hz2 rfl (.slice none 0 0) 0 [] rfl owns_nil _ k k _ rfl HWA5.out (by unfold maxLen; omega) (by omega) HB5.out.size ?_)
    intro va w6 hown' hgr
    have hown : w6.ownsRow w.heap.size 33 1 va k ((List.map (fun n : Nat => (n : Int)) (l.take k)).map (Value.int .u64)) := by simpa using hown'
    have HOWN := Lib.hid hown
    have HB6 : Hid (Below w.heap.size w w6) := HB5.out.grown hgr HB5.out.size (fun k hk => by cases hk)
    have HWB6 : Hid (IsWords w6 (.slice (some ⟨gb, 0, none⟩) m m) (l.drop k)) := HWB.out.below ((Below.refl _ _).grown hgr (Nat.le_refl _) (fun k hk => by cases hk))
    obtain ⟨aa, ca, rfl, _, _⟩ := owns_form hown
    clear hown hgr hown'
    go_wp2_with (at_builtin; refine wpList_append_ints rfl (.tmp 60) (.tmp 61) 58 rfl .u64 w.heap.size 33 i0 _ 8 Try.underlying58 hi hz0 hz1 hz2 rfl _ _ _ rfl HOWN.out _ m m _ rfl HWB6.out (by unfold maxLen; omega) (by omega) HB6.out.size ?_)
    intro vb w7 hown' hgr
    have HB7 : Hid (Below w.heap.size w w7) := HB6.out.grown hgr HB6.out.size (fun k hk => owns_block HOWN.out k hk)
    have hown : w7.ownsRow w.heap.size 33 1 vb (k + m) ((List.map (fun n : Nat => (n : Int)) l).map (Value.int .u64)) := by simpa using hown'
    have hz : IsWords w7 vb l := IsInts.of_own hown (by obtain ⟨_, _, _, _, _, _, h⟩ := HW.out; exact h)
    obtain ⟨ab, cb, rfl, hcb1, hcb2⟩ := owns_form hown
    have hkm : k + m = len := by omega
    rw [hkm] at hz hown ⊢
    have HZ := Lib.hid hz
    have HW7 := Lib.hid (HW.out.below HB7.out)
    clear hz hown hgr hown'
    go_wp2_with fail
    go_loopw [15, 78] (fun _ x wr => ∃ j : Nat, j ≤ len ∧ x = .int .i64 j ∧ ∃ n, wr = w7.drewN n) (fun _ x _ => len - (intOf x).toNat)
    case atStart => exact ⟨0, by omega, rfl, nodraw _⟩
    case round =>
      obtain ⟨j, hj, rfl, n, rfl⟩ := hrel
      by_cases hlt : j < len
      · obtain ⟨b1, o1, x, rfl, hx, _, hc1⟩ := HZ.out.get j hlt
        obtain ⟨b2, o4, y, rfl, hy, _, hc2⟩ := HW7.out.get j hlt
        obtain rfl : x = y := by rw [hx] at hy; exact Option.some.inj hy
        have hb : ((x : Int) != (x : Int)) = false := by simp
        clear hx hy
        go_wp2_with fail
        go_quiet (fail)
        go_wp2
        go_roundw
        case rel => exact ⟨j + 1, by omega, by go_num, _, rfl⟩
        case measure => simp [intOf]; omega
      · go_wp2
        go_ret
        exact ⟨rfl, below_drewN' HB7.out n⟩
end Go.Proofs.Ytccdmcidfnmnjaa
