/- Two devices of the call's own, apart; the statements' own 'two' and 'same' of layer 4. -/
import Derived.Test.YtccdmcidfnmnjaaSuBackL
import Derived.Test.YtccdmcidfnmnjaaSuE
import Derived.Deep.RegionWith
import Derived.Outline
import Derived.Deep.DeepCutAuto
namespace Go.Proofs.Ytccdmcidfnmnjaa
open Go.RowKit

theorem byte_cell {w : World} {b o : Nat} {len cap : Nat} {zs : List Int} (h : IsBytes w (.slice (some ⟨b, o, none⟩) len cap) zs) (i : Nat) (hi : i < len) :
    w.cell? ⟨b, o + i, none⟩ = some (.int .u8 (zs.getD i 0)) := by
  obtain ⟨a', cap', e, h1, h2, h3, h4⟩ := h
  simp only [Value.slice.injEq] at e
  obtain ⟨rfl, rfl, rfl⟩ := e
  rcases h3 with rfl | ⟨b', o', e, hc⟩
  · simp at hi
  · simp only [Option.some.injEq, Addr.mk.injEq, and_true] at e
    obtain ⟨rfl, rfl⟩ := e
    exact hc i hi
/-- Both devices of the call's own, apart. -/
def Both (w0 : World) (v1 : Value) (d : V.Dv) (v2 : Value) (o : V.Dv) (wr : World) : Prop :=
  ∃ F1 F2, Dev wr v1 d F1 ∧ Dev wr v2 o F2 ∧ (∀ k ∈ F1, w0.heap.size ≤ k) ∧ (∀ k ∈ F2, w0.heap.size ≤ k) ∧ Below w0.heap.size w0 wr ∧ ∀ k ∈ F1, k ∉ F2
section
variable {w0 wr : World} {v1 v2 : Value} {d d' o : V.Dv}
theorem Both.below (h : Both w0 v1 d v2 o wr) : Below w0.heap.size w0 wr := by obtain ⟨_, _, _, _, _, _, h, _⟩ := h; exact h
theorem Both.swap (h : Both w0 v1 d v2 o wr) : Both w0 v2 o v1 d wr := by
  obtain ⟨F1, F2, h1, h2, h3, h4, h5, h6⟩ := h
  exact ⟨F2, F1, h2, h1, h4, h3, h5, fun k hk hk' => h6 k hk' hk⟩
theorem Both.one (h : Both w0 v1 d v2 o wr) : DevIn w0 v1 d wr := by obtain ⟨F1, F2, h1, h2, h3, h4, h5, h6⟩ := h; exact ⟨F1, h1, h3, h5⟩
theorem Both.drewN (h : Both w0 v1 d v2 o wr) (n : Nat) : Both w0 v1 d v2 o (wr.drewN n) := by
  obtain ⟨F1, F2, h1, h2, h3, h4, h5, h6⟩ := h
  exact ⟨F1, F2, h1.drewN n, h2.drewN n, h3, h4, below_drewN' h5 n, h6⟩
theorem Both.newer {w1 : World} (h : Both w0 v1 d v2 o wr) (hb : Below wr.heap.size wr w1) : Both w0 v1 d v2 o w1 := by
  obtain ⟨F1, F2, h1, h2, h3, h4, h5, h6⟩ := h
  exact ⟨F1, F2, h1.only (Only.of_below (F := []) hb) (fun k hk => by simp at hk), h2.only (Only.of_below (F := []) hb) (fun k hk => by simp at hk), h3, h4, h5.trans (hb.mono h5.size), h6⟩
theorem Both.runF (h : Both w0 v1 d v2 o wr) {f : FuncId} {args : Array Value} {R : Ending → Prop} (hc : ∀ F, Dev wr v1 d F → (∀ k ∈ F, w0.heap.size ≤ k) → Calls Try.prog f args wr fun e w' => R e ∧ DevStep wr v1 d' F w') :
    Calls Try.prog f args wr fun e w' => R e ∧ Both w0 v1 d' v2 o w' := by
  obtain ⟨F1, F2, h1, h2, h3, h4, h5, h6⟩ := h
  refine (hc F1 h1 h3).mono ?_
  rintro e w' ⟨hR, F', k1, k2, k3⟩
  refine ⟨hR, F', F2, k1, h2.only k2 h6, fun k hk => ?_, h4, h5.trans (k2.below h5.size h3), fun k hk hk2 => ?_⟩
  · rcases k3 k hk with e | e
    · exact h3 k e
    · exact Nat.le_trans h5.size e
  · rcases k3 k hk with e | e
    · exact h6 k e hk2
    · have := h2.lt k hk2; omega
theorem Both.run (h : Both w0 v1 d v2 o wr) {f : FuncId} {args : Array Value} {R : Ending → Prop} (hc : ∀ F, Dev wr v1 d F → Calls Try.prog f args wr fun e w' => R e ∧ DevStep wr v1 d' F w') :
    Calls Try.prog f args wr fun e w' => R e ∧ Both w0 v1 d' v2 o w' := h.runF fun F hF _ => hc F hF
/-- The picks stand in what was there: no block of the two. -/
theorem Both.crash (h : Both w0 v1 d v2 o wr) (PA : Option Addr) (pn pc : Nat) (pz : List Int) (hp : IsBytes w0 (.slice PA pn pc) pz) (hp2 : pz ≠ [] → ∀ a, PA = some a → a.block < w0.heap.size) (hs : d.steps ≤ 1000000000) :
    Calls Try.prog 21 #[v1, .slice PA pn pc] wr fun e w' => e = .returned (.tuple #[]) ∧ Both w0 v1 (d.crash pz) v2 o w' :=
  h.runF (R := fun e => e = .returned (.tuple #[])) fun F hF hlo => dev_crash hF PA pn pc pz (hp.below h.below) (fun hz a e hf => by have := hp2 hz a e; have := hlo _ hf; omega) hs
theorem both_new (n : Nat) (h1 : 1 ≤ n) (h2 : n ≤ 1024) (h : DevIn w0 v1 d wr) : Calls Try.prog 32 #[.int .i64 (n : Int)] wr fun e w' => ∃ D, e = .returned (.pointer (some ⟨D, 0, none⟩)) ∧ Both w0 v1 d (.pointer (some ⟨D, 0, none⟩)) (V.newDv n) w' := by
  obtain ⟨F1, k1, k2, k3⟩ := h
  refine (dev_new n h1 h2 wr).mono ?_
  rintro e w' ⟨v, F, rfl, hd, hb1, hF⟩
  have hd' := hd
  obtain ⟨D, L, ps, rfl, _⟩ := hd'
  exact ⟨D, rfl, F1, F, k1.only (Only.of_below (F := []) hb1) (fun k hk => by simp at hk), hd, k2, fun k hk => Nat.le_trans k3.size (hF k hk), k3.trans (hb1.mono k3.size), fun k hk hk2 => by have := k1.lt k hk; have := hF k hk2; omega⟩
theorem both_image (h : Both w0 v1 d v2 o wr) : Calls Try.prog 28 #[v1] wr (fun e w' => NewBytes wr d.image e w' ∧ Both w0 v1 d v2 o w') := by
  have h' := h
  obtain ⟨F1, F2, h1, h2, h3, h4, h5, h6⟩ := h
  exact (dev_image h1).mono fun e w' hn => ⟨hn, h'.newer (by obtain ⟨_, _, _, _, hb⟩ := hn; exact hb)⟩
end
/-- Bytes as a string, whole. -/
theorem conv_bytes_all {w : World} {g n c : Nat} {zs : List Int} (h : IsBytes w (.slice (some ⟨g, 0, none⟩) n c) zs) :
    ∀ dst, Try.prog.underlying dst = some .string → (convert 22 dst (.slice (some ⟨g, 0, none⟩) n c)).run Try.prog w = .ok (.string (strOfNums zs)) w := by
  have hl := h.len'.1
  refine run_convert_bytes_arg (P := Try.prog) w 22 5 Try.underlying22 Try.underlying5 g 0 n c zs hl (fun i hi => ?_)
  exact byte_cell h i hi


namespace V
/-- Words stored on a new device, at places that come again. -/
def stored (l : List Nat) : Nat → Dv
  | 0 => newDv 8
  | j + 1 => (stored l j).store (8 * ((j % 60 : Nat) : Int)) (l.getD j 0)
def twoDv (l : List Nat) (q : Nat) : Dv := (stored l l.length).stop (q : Int)
theorem stored_steps (l : List Nat) : ∀ j, (stored l j).steps ≤ j
  | 0 => Nat.le_refl _
  | j + 1 => by
    have h1 := stored_steps l j
    have h2 := St.steps (.store (8 * ((j % 60 : Nat) : Int)) (l.getD j 0)) (stored l j)
    show (V.Dv.store _ _ _).steps ≤ _
    exact Nat.le_trans h2 (by omega)
theorem stored_len (l : List Nat) : ∀ j, (stored l j).lines.length = 8
  | 0 => newDv_len 8
  | j + 1 => by
    have := St.len (.store (8 * ((j % 60 : Nat) : Int)) (l.getD j 0)) (stored l j)
    exact this.trans (stored_len l j)
theorem twoDv_len (l : List Nat) (q : Nat) : (twoDv l q).lines.length = 8 := (stop_len _ _).trans (stored_len l _)
theorem stored_err (l : List Nat) (j : Nat) (off : Int) (h0 : 0 ≤ off) (h1 : off < 512) (h8 : off % 8 = 0) (hl : (stored l j).left = -1) (hn : (stored l j).lines.length = 8) : (stored l j).err off 8 = 0 := by
  unfold Dv.err
  rw [if_neg (by rw [hl]; decide), if_pos ⟨h0, by rw [hn]; omega, h8⟩]
end V

section
variable {w0 : World}
set_option maxHeartbeats 1000000 in
set_option maxRecDepth 100000 in
theorem two_any (wr : World) (hb : Below w0.heap.size w0 wr) (A : Option Addr) (len cap : Nat) (l : List Nat) (hl : IsWords w0 (.slice A len cap) l) (hn : ∀ n ∈ l, n < 2 ^ 64) (h80 : len ≤ 80) (q : Nat) (hq : q ≤ 255) :
    Calls Try.prog 35 #[.slice A len cap, .int .u8 (q : Int)] wr fun e w' => ∃ D1 D2, e = .returned (.tuple #[.pointer (some ⟨D1, 0, none⟩), .pointer (some ⟨D2, 0, none⟩)]) ∧ Both w0 (.pointer (some ⟨D1, 0, none⟩)) (V.twoDv l q) (.pointer (some ⟨D2, 0, none⟩)) (V.twoDv l q) w' := by
  obtain ⟨hlen, hlc, hlm⟩ := hl.len
  unfold maxLen at hlm
  have HW := Lib.hid hl
  have HB := Lib.hid hb
  have HN := Lib.hid (in_new 8 (by decide) (by decide) w0 wr hb)
  have HST := Lib.hid (V.stored_steps l)
  have HTD : Hid (V.twoDv l q = (V.stored l len).stop (q : Int)) := by show _ = _; rw [← hlen]; rfl
  have HLT : Hid (∀ j x, l[j]? = some x → x < 2 ^ 64) := fun j x h => hn x (List.mem_of_getElem? h)
  clear hl hb hn hlen
  go_enter Try.func35, Try.ntmps35
  go_wp2_with fail
  refine HN.out.mono ?_
  rintro e w1 ⟨D1, rfl, hd1⟩
  have HD1 := Lib.hid hd1
  clear hd1
  go_wp2_with fail
  refine (both_new 8 (by decide) (by decide) HD1.out).mono ?_
  rintro e w2 ⟨D2, rfl, hd2⟩
  have HD2 := Lib.hid hd2
  clear hd2
  have HWW : Hid (∀ W, Below w0.heap.size w0 W → IsWords W (.slice A len cap) l) := fun W hW => HW.out.below hW
  go_wp2_with fail
  go_loopw [8, 9, 20] (fun _ _ x W => ∃ j : Nat, j ≤ len ∧ x = .int .i64 j ∧ Hid (Both w0 (.pointer (some ⟨D1, 0, none⟩)) (V.stored l j) (.pointer (some ⟨D2, 0, none⟩)) (V.stored l j) W)) (fun _ _ x _ => len - (intOf x).toNat)
  case atStart => exact ⟨0, by omega, rfl, HD2.out⟩
  case round =>
    obtain ⟨j, hj, rfl, hd⟩ := hrel
    by_cases hlt : j < len
    · obtain ⟨b, o, x, rfl, hx, hx64, hcell⟩ := (HWW.out _ hd.out.below).get j hlt
      have hm : ((j : Int) % 60) = ((j % 60 : Nat) : Int) := rfl
      have hr : j % 60 < 60 := Nat.mod_lt _ (by decide)
      have HNX : Hid (V.stored l (j + 1) = (V.stored l j).store (8 * ((j % 60 : Nat) : Int)) x) := by
        show _ = _
        rw [V.stored, List.getD_eq_getElem?_getD, hx]; rfl
      have hst := HST.out j
      generalize j % 60 = r at *
      obtain ⟨q2, hq2⟩ : ∃ q2 : Int, q2 = 8 * (r : Int) := ⟨_, rfl⟩
      have hq3 : 8 * (r : Int) = q2 := hq2.symm
      rw [hq3] at HNX
      have hq4 : 0 ≤ q2 ∧ q2 ≤ 600 := by omega
      have HS1 := Lib.hid (hd.out.run (fun F hF => dev_store hF q2 ⟨by omega, by omega⟩ x hx64 (by omega)))
      have HS2 := Lib.hid (fun W (h : Both w0 (.pointer (some ⟨D1, 0, none⟩)) ((V.stored l j).store q2 x) (.pointer (some ⟨D2, 0, none⟩)) (V.stored l j) W) => h.swap.run (fun F hF => dev_store hF q2 ⟨by omega, by omega⟩ x hx64 (by omega)))
      clear hx hq2
      go_wp2_with fail
      refine HS1.out.mono ?_
      rintro e w3 ⟨rfl, hd3⟩
      have HD3 := Lib.hid hd3
      clear hd3
      go_wp2_with fail
      refine (HS2.out _ HD3.out).mono ?_
      rintro e w4 ⟨rfl, hd4⟩
      have HD4 := Lib.hid hd4.swap
      clear hd4
      go_wp2
      go_roundw
      case rel => exact ⟨j + 1, by omega, by go_num, by rw [HNX.out]; exact HD4⟩
      case measure => simp [intOf]; omega
    · obtain rfl : j = len := by omega
      have HS1 := Lib.hid (hd.out.run (fun F hF => dev_stop hF (q : Int) (by omega)))
      have HS2 := Lib.hid (fun W (h : Both w0 (.pointer (some ⟨D1, 0, none⟩)) ((V.stored l j).stop (q : Int)) (.pointer (some ⟨D2, 0, none⟩)) (V.stored l j) W) => h.swap.run (fun F hF => dev_stop hF (q : Int) (by omega)))
      go_wp2_with fail
      refine HS1.out.mono ?_
      rintro e w3 ⟨rfl, hd3⟩
      have HD3 := Lib.hid hd3
      clear hd3
      go_wp2_with fail
      refine (HS2.out _ HD3.out).mono ?_
      rintro e w4 ⟨rfl, hd4⟩
      have HD4 := Lib.hid hd4.swap
      clear hd4
      go_wp2
      go_ret2
      exact ⟨D1, D2, rfl, by rw [HTD.out]; exact HD4.out⟩

theorem both_may {wr : World} {v1 v2 : Value} {d o : V.Dv} (h : Both w0 v1 d v2 o wr) (i : Int) (hi : I64 i) (hs : d.steps ≤ 1000000000) :
    Calls Try.prog 23 #[v1, .int .i64 i] wr fun e w' => e = .returned (.int .i64 (d.may i : Nat)) ∧ wr = w' := in_may h.one i hi hs
set_option maxHeartbeats 1000000 in
set_option maxRecDepth 100000 in
theorem same_any {p1 p2 : Option Addr} {d : V.Dv} (wr : World) (h : Both w0 (.pointer p1) d (.pointer p2) d wr) (hs : d.steps ≤ 1000000000) :
    Calls Try.prog 38 #[.pointer p1, .pointer p2] wr fun e w' => e = .returned (.bool true) ∧ Both w0 (.pointer p1) d (.pointer p2) d w' := by
  have HTa := Lib.hid (h.drewN 1)
  have HSd := Lib.hid (fun (W : World) (h : Both w0 (.pointer p1) d (.pointer p2) d W) => in_steps h.one)
  have HSo := Lib.hid (fun (W : World) (h : Both w0 (.pointer p1) d (.pointer p2) d W) => in_steps h.swap.one)
  have HId : Hid (Calls Try.prog 28 #[.pointer p1] wr.drew fun e w' => NewBytes wr.drew d.image e w' ∧ Both w0 (.pointer p1) d (.pointer p2) d w') := both_image HTa.out
  have HIo := Lib.hid (fun (W : World) (h : Both w0 (.pointer p1) d (.pointer p2) d W) => both_image h.swap)
  have HMd := Lib.hid (fun (W : World) (i : Int) (hi : I64 i) (h : Both w0 (.pointer p1) d (.pointer p2) d W) => both_may h i hi hs)
  have HMo := Lib.hid (fun (W : World) (i : Int) (hi : I64 i) (h : Both w0 (.pointer p1) d (.pointer p2) d W) => both_may h.swap i hi hs)
  have HH := Lib.hid h
  clear h
  generalize hst : d.steps = st at *
  have HSTT := Lib.hid hst
  clear hst
  go_enter Try.func38, Try.ntmps38
  go_upto_region 14 with fail
  go_cut [19] (fun s wx => s = .bool false ∧ Hid (Both w0 (.pointer p1) d (.pointer p2) d wx))
  case first =>
    go_region_with (first
      | (go_at_call 27; first
          | ((with_reducible refine (HSd.out _ HT3.out).mono ?_); rintro e w' ⟨rfl, rfl⟩)
          | ((with_reducible refine (HSo.out _ HT3.out).mono ?_); rintro e w' ⟨rfl, rfl⟩))
      | (go_at_call 28; first
          | ((with_reducible refine HId.out.mono ?_); rintro e w6 ⟨⟨g1, rfl, hg1, hi1, hb1⟩, ht6⟩; have HT2 := Lib.hid ht6; have HI1 := Lib.hid hi1; have hcv1 := conv_bytes_all hi1 9 Try.underlying9; clear hg1 hi1 hb1 ht6)
          | (go_loud (refine (HIo.out _ HT2.out).mono ?_; rintro e w7 ⟨⟨g2, rfl, hg2, hi2, hb2⟩, ht7⟩; have HT3 := Lib.hid ht7.swap; have hcv2 := conv_bytes_all hi2 9 Try.underlying9; have hcv3 := conv_bytes_all (HI1.out.below hb2) 9 Try.underlying9; clear hg2 hi2 hb2 ht7))))
    all_goals (go_wp2_with fail; go_meet; exact ⟨rfl, HT3⟩)
  case rest =>
    obtain ⟨rfl, HT3⟩ := hcut
    go_wp2_with fail
    go_loopw [5, 20] (fun _ x W => ∃ j : Nat, j ≤ 8 ∧ x = .int .i64 j ∧ Hid (Both w0 (.pointer p1) d (.pointer p2) d W)) (fun _ x _ => 8 - (intOf x).toNat)
    case atStart => exact ⟨0, by omega, rfl, HT3⟩
    case round =>
      obtain ⟨j, hj, rfl, hd⟩ := hrel
      by_cases hlt : j < 8
      · have H1 := Lib.hid (HMd.out _ (j : Int) ⟨by omega, by omega⟩ hd.out)
        have H2 := Lib.hid (HMo.out _ (j : Int) ⟨by omega, by omega⟩ hd.out)
        generalize d.may (j : Int) = k at *
        have hb : ((k : Int) != (k : Int)) = false := by simp
        go_wp2_with fail
        refine H1.out.mono ?_
        rintro e w' ⟨rfl, rfl⟩
        go_wp2_with fail
        refine H2.out.mono ?_
        rintro e w' ⟨rfl, rfl⟩
        go_wp2
        go_roundw
        case rel => exact ⟨j + 1, by omega, by go_num, hd⟩
        case measure => simp [intOf]; omega
      · go_wp2
        go_ret
        exact ⟨rfl, hd.out⟩
end
end Go.Proofs.Ytccdmcidfnmnjaa
