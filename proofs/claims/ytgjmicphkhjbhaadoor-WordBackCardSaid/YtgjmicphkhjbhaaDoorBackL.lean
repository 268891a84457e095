/- The walk of the statement WordBack. -/
import Derived.Test.YtgjmicphkhjbhaaDoorWg
namespace Go.Proofs.YtgjmicphkhjbhaaDoor
open Go.RowKit

theorem put_at (v : Value) (zs : List Int) (at' : Int) (n : Nat) (w : World) (hv : IsBytes w v zs) (hl : zs.length ≤ 140737488351232) (h0 : 0 ≤ at') (h8 : at' % 8 = 0) (h1 : at' + 8 ≤ (zs.length : Int)) (hn : n < 2 ^ 64) :
    Calls Tryd.prog 12 #[v, .int .i64 at', .int .u64 n] w (PutPost w (M.pv zs at'.toNat n 8) true) := by
  have h := put_any v zs at' n w hv hl (by omega) hn
  have e1 : M.stands zs.length at' = true := by simp only [M.stands, decide_eq_true_eq]; omega
  have e2 : M.putB zs at' n = M.pv zs at'.toNat n 8 := by simp [M.putB, e1]
  rwa [e1, e2] at h
theorem get_at (v : Value) (zs : List Int) (at' : Int) (w : World) (hv : IsBytes w v zs) (hl : zs.length ≤ 140737488351232) (h0 : 0 ≤ at') (h8 : at' % 8 = 0) (h1 : at' + 8 ≤ (zs.length : Int)) :
    Calls Tryd.prog 10 #[v, .int .i64 at'] w fun e w' => e = .returned (.tuple #[.int .u64 (M.gv zs at'.toNat 8 : Nat), .bool true]) ∧ ∃ m, w' = w.drewN m := by
  have h := get_any v zs at' w hv (by omega)
  have e1 : M.stands zs.length at' = true := by simp only [M.stands, decide_eq_true_eq]; omega
  have e2 : M.getW zs at' = M.gv zs at'.toNat 8 := by simp [M.getW, e1]
  rwa [e1, e2] at h

/-- So many words have been laid. -/
def Laid (ls zs : List Int) (len i : Nat) : Prop := zs.length = 8 * len ∧ ∀ j, j < i → M.gv zs (8 * j) 8 = (ls.getD j 0).toNat
theorem Laid.zero (ls : List Int) (len : Nat) : Laid ls (List.replicate (8 * len) 0) len 0 := ⟨by simp, fun j hj => absurd hj (by omega)⟩
theorem Laid.succ {ls zs : List Int} {len i x : Nat} (h : Laid ls zs len i) (hi : i < len) (hx : (ls.getD i 0) = (x : Int)) (hx2 : x < 2 ^ 64) : Laid ls (M.pv zs (8 * i) x 8) len (i + 1) := by
  refine ⟨by rw [M.pv_length]; exact h.1, fun j hj => ?_⟩
  by_cases hji : j = i
  · subst hji
    rw [M.get_put _ _ _ (by rw [h.1]; omega) hx2, hx]; rfl
  · rw [M.get_put_other _ _ _ _ (by rw [h.1]; omega) (by omega)]
    exact h.2 j (by omega)

def BackRel (w : World) (ls : List Int) (len i : Nat) (bv : Value) (wr : World) : Prop := ∃ zs, IsBytes wr bv zs ∧ Laid ls zs len i ∧ Below w.heap.size w wr

set_option maxRecDepth 100000 in
set_option maxHeartbeats 1000000 in
theorem wordBack_core (b o cap : Nat) (ls : List Int) (p n : Nat) (w : World) (hc : ∀ i, i < ls.length → w.cell? ⟨b, o + i, none⟩ = some (.int .u64 (ls.getD i 0))) (hw : ∀ z ∈ ls, (Lit.int .u64 z).wf = true)
    (h0 : 0 < ls.length) (h1 : ls.length ≤ 125) (hp : p ≤ 255) (hn : n < 2 ^ 64) (hT : TabAt 0 Lib.deBruijn64tab w) (hs : 1 ≤ w.heap.size) :
    Calls Tryd.prog 5 #[.slice (some ⟨b, o, none⟩) ls.length cap, .int .u8 p, .int .u64 n] w fun e w' => e = .returned (.bool true) ∧ Below w.heap.size w w' := by
  obtain ⟨i0, hi, hz0, hz1, hz2⟩ := info_parts info_u8
  have HT := Lib.hid hT; clear hT
  have hx : ∀ i, i < ls.length → ∃ x : Nat, ls.getD i 0 = x ∧ x < 2 ^ 64 := by
    intro i hi
    have e : ls.getD i 0 = ls[i] := by simp [hi]
    have := hw _ (List.getElem_mem hi)
    rw [e]
    simp [Lit.wf, IntKind.min, IntKind.max, IntKind.signed, IntKind.bits] at this
    exact ⟨ls[i].toNat, by omega, by omega⟩
  have HX := Lib.hid hx
  have HC := Lib.hid hc
  clear hx hc hw
  generalize ls.length = len at *
  have hne : ((len : Int) == 0) = false := by simp; omega
  go_enter Tryd.func5, Tryd.ntmps5
  go_wp2_with fail
  refine (alive_any _ HT.out hs).mono ?_
  rintro e w1 ⟨rfl, hb⟩
  have HB := Lib.hid hb; clear hb
  go_wp2_with (refine wpList_make_full _ rfl (.tmp 33) (.tmp 33) 22 rfl w1.heap.size 5 i0 (.int .u8 0) 1 Tryd.underlying22 hi hz0 hz1 .i64 .i64 _ _ (8 * len) rfl rfl (by simp) (by simp) (by rw [hz2]; omega) (by unfold maxLen; omega) (by simp) ?_)
  intro w2 hown hg
  have hb1 : Below w1.heap.size w1 w2 := (Below.refl _ _).grown hg (Nat.le_refl _) (fun k hk => by cases hk)
  have HR0 : Hid (BackRel w ls len 0 (.slice (some ⟨w1.heap.size, 0, none⟩) (8 * len) (8 * len)) w2) := by
    refine ⟨List.replicate (8 * len) 0, ?_, Laid.zero ls len, HB.out.trans (hb1.mono HB.out.size)⟩
    have h := hown
    rw [toList_madeCells_one] at h
    have h2 := IsInts.of_row (k := .u8) (xs := List.replicate (8 * len) 0) (w := w2) (base := w1.heap.size) (e := 5) (g := w1.heap.size) (cap := 8 * len) (by simpa using h) (fun z hz => by rw [List.eq_of_mem_replicate hz]; decide)
    rw [show (List.replicate (8 * len) (0 : Int)).length = 8 * len by simp] at h2
    exact h2
  clear hown hg hb1
  go_wp2
  go_loopw [7, 37] (fun bv k wr => ∃ i : Nat, i ≤ len ∧ k = .int .i64 i ∧ BackRel w ls len i bv wr) (fun _ k _ => len - (intOf k).toNat)
  case atStart => exact ⟨0, by omega, rfl, HR0.out⟩
  case round =>
    obtain ⟨i, hil, rfl, hrel⟩ := hrel
    obtain ⟨zs, hzs, hlaid, hbel⟩ := hrel
    have HZ := Lib.hid hzs
    have HL := Lib.hid hlaid
    have HBE := Lib.hid hbel
    by_cases hlt : i < len
    · obtain ⟨x, hx1, hx2⟩ := HX.out i hlt
      have hcell : wr.cell? ⟨b, o + i, none⟩ = some (.int .u64 (x : Int)) := by
        have h := HC.out i hlt
        rw [hx1] at h
        exact (hbel.cell (p := ⟨b, o + i, none⟩) (World.block_lt_of_cell? w _ h)).trans h
      have HX1 := Lib.hid hx1
      have HZL : Hid (zs.length = 8 * len) := hlaid.1
      obtain ⟨a, cp, rfl, _, _, _, _⟩ := hzs
      rw [HZL.out]
      rw [HZL.out] at HZ
      clear hx1 hlaid hbel
      go_wp2_with fail
      refine (put_at _ zs _ x _ HZ.out (by rw [HZL.out]; omega) (by omega) (by omega) (by rw [HZL.out]; omega) hx2).mono ?_
      rintro e w3 ⟨c, rfl, hc, hb3⟩
      rw [show (8 * (i : Int)).toNat = 8 * i by omega] at hc
      have HN : Hid (BackRel w ls len (i + 1) c w3) := ⟨_, hc, HL.out.succ hlt HX1.out hx2, HBE.out.trans (hb3.mono HBE.out.size)⟩
      obtain ⟨a3, cp3, rfl, _, _, _, _⟩ := hc
      have HZ3 : Hid ((M.pv zs (8 * i) x 8).length = 8 * len) := by show _ = _; rw [M.pv_length]; exact HZL.out
      rw [HZ3.out]
      rw [HZ3.out] at HN
      clear hb3
      go_wp2
      go_roundw
      case rel => exact ⟨i + 1, by omega, by go_num, HN.out⟩
      case measure => simp [intOf]; omega
    · obtain rfl : i = len := by omega
      have hk : p % i < i := Nat.mod_lt _ h0
      have HPK : Hid ((p : Int) % (i : Int) = ((p % i : Nat) : Int)) := rfl
      have HZL : Hid (zs.length = 8 * i) := hlaid.1
      obtain ⟨a, cp, rfl, _, _, _, _⟩ := hzs
      rw [HZL.out]
      rw [HZL.out] at HZ
      clear hlaid hbel hlt
      go_wp2_with fail
      rw [HPK.out]
      generalize p % i = q at *
      refine (put_at _ zs _ n _ HZ.out (by rw [HZL.out]; omega) (by omega) (by omega) (by rw [HZL.out]; omega) hn).mono ?_
      rintro e w3 ⟨c, rfl, hc, hb3⟩
      rw [show (8 * (q : Int)).toNat = 8 * q by omega] at hc
      have HZ3 := Lib.hid (HZ.out.below hb3)
      have HC3 := Lib.hid hc
      have HB3 : Hid (Below w.heap.size w w3) := HBE.out.trans (hb3.mono HBE.out.size)
      have HZC : Hid ((M.pv zs (8 * q) n 8).length = 8 * i) := by show _ = _; rw [M.pv_length]; exact HZL.out
      have HG : Hid (∀ j, j < i → M.gv (M.pv zs (8 * q) n 8) (8 * j) 8 = if j = q then n else (ls.getD j 0).toNat) := by
        show ∀ j, _
        intro j hj
        by_cases hjq : j = q
        · subst hjq
          rw [if_pos rfl, M.get_put _ _ _ (by rw [HZL.out]; omega) hn]
        · rw [if_neg hjq, M.get_put_other _ _ _ _ (by rw [HZL.out]; omega) (by omega)]
          exact HL.out.2 j hj
      generalize M.pv zs (8 * q) n 8 = cs at *
      obtain ⟨a3, cp3, rfl, _, _, _, _⟩ := hc
      rw [HZC.out]
      rw [HZC.out] at HC3
      clear hb3
      go_wp2
      go_loopw [78] (fun k wr => ∃ j : Nat, j ≤ i ∧ k = .int .i64 j ∧ ∃ m, wr = w3.drewN m) (fun k _ => i - (intOf k).toNat)
      case atStart => exact ⟨0, by omega, rfl, nodraw _⟩
      case round =>
        obtain ⟨j, hji, rfl, m, rfl⟩ := hrel
        by_cases hlt : j < i
        · obtain ⟨x, hx1, hx2⟩ := HX.out j hlt
          have hcell : w3.cell? ⟨b, o + j, none⟩ = some (.int .u64 (x : Int)) := by
            have h := HC.out j hlt
            rw [hx1] at h
            exact (HB3.out.cell (p := ⟨b, o + j, none⟩) (World.block_lt_of_cell? w _ h)).trans h
          have HY : Hid (M.gv zs (8 * j) 8 = x) := by show _ = _; rw [HL.out.2 j hlt, hx1]; rfl
          have HY2 := Lib.hid (HG.out j hlt)
          have HX1 := Lib.hid hx1
          clear hx1
          by_cases hjq : j = q
          · subst hjq
            have HW : Hid (M.gv cs (8 * j) 8 = n) := by show _ = _; rw [HY2.out, if_pos rfl]
            go_wp2_with fail
            refine (get_at _ zs _ _ (by exact HZ3.out) (by rw [HZL.out]; omega) (by omega) (by omega) (by rw [HZL.out]; omega)).mono ?_
            rintro e w' ⟨rfl, m1, rfl⟩
            rw [show (8 * (j : Int)).toNat = 8 * j by omega, HY.out]
            go_wp2_with fail
            refine (get_at _ cs _ _ (by exact HC3.out) (by rw [HZC.out]; omega) (by omega) (by omega) (by rw [HZC.out]; omega)).mono ?_
            rintro e w' ⟨rfl, m2, rfl⟩
            rw [show (8 * (j : Int)).toNat = 8 * j by omega, HW.out]
            go_wp2
            go_roundw
            case rel => exact ⟨j + 1, by omega, by go_num, _, rfl⟩
            case measure => simp [intOf]; omega
          · have HW : Hid (M.gv cs (8 * j) 8 = x) := by show _ = _; rw [HY2.out, if_neg hjq, HX1.out]; rfl
            have e1 : ((j : Int) != (q : Int)) = true := by simp [bne_iff_ne]; omega
            have e2 : ((j : Int) == (q : Int)) = false := by simp; omega
            go_wp2_with fail
            refine (get_at _ zs _ _ (by exact HZ3.out) (by rw [HZL.out]; omega) (by omega) (by omega) (by rw [HZL.out]; omega)).mono ?_
            rintro e w' ⟨rfl, m1, rfl⟩
            rw [show (8 * (j : Int)).toNat = 8 * j by omega, HY.out]
            go_wp2_with fail
            refine (get_at _ cs _ _ (by exact HC3.out) (by rw [HZC.out]; omega) (by omega) (by omega) (by rw [HZC.out]; omega)).mono ?_
            rintro e w' ⟨rfl, m2, rfl⟩
            rw [show (8 * (j : Int)).toNat = 8 * j by omega, HW.out]
            go_wp2
            go_roundw
            case rel => exact ⟨j + 1, by omega, by go_num, _, rfl⟩
            case measure => simp [intOf]; omega
        · obtain rfl : j = i := by omega
          go_wp2
          go_ret
          exact ⟨rfl, below_drewN' HB3.out _⟩

set_option maxRecDepth 100000 in
theorem wordBack_long (a : Option Addr) (len cap : Nat) (p n : Int) (w : World) (hl : len = 0 ∨ 125 < len) (hm : len ≤ maxLen) (hT : TabAt 0 Lib.deBruijn64tab w) (hs : 1 ≤ w.heap.size) :
    Calls Tryd.prog 5 #[.slice a len cap, .int .u8 p, .int .u64 n] w fun e w' => e = .returned (.bool true) ∧ Below w.heap.size w w' := by
  have HT := Lib.hid hT; clear hT
  unfold maxLen at hm
  rcases hl with rfl | hl
  · go_enter Tryd.func5, Tryd.ntmps5
    go_wp2_with fail
    refine (alive_any _ HT.out hs).mono ?_
    rintro e w1 ⟨rfl, hb⟩
    have HB := Lib.hid hb; clear hb
    go_wp2
    go_ret
    exact ⟨rfl, HB.out⟩
  · go_enter Tryd.func5, Tryd.ntmps5
    go_wp2_with fail
    refine (alive_any _ HT.out hs).mono ?_
    rintro e w1 ⟨rfl, hb⟩
    have HB := Lib.hid hb; clear hb
    go_wp2
    go_ret
    exact ⟨rfl, HB.out⟩

theorem wordBack_walk (b0 : Option Addr) (len0 cap0 : Nat) (z0 : List Int) (a1 a2 : Int) (w : World) (w0 : IsInts .u64 w (.slice b0 len0 cap0) z0) (w1 : (Lit.int .u8 a1).wf = true) (w2 : (Lit.int .u64 a2).wf = true)
    (hT : TabAt 0 Lib.deBruijn64tab w) (hs : 1 ≤ w.heap.size) :
    Calls Tryd.prog 5 #[.slice b0 len0 cap0, .int .u8 a1, .int .u64 a2] w fun e w' => e = .returned (.bool true) ∧ Below w.heap.size w w' := by
  obtain ⟨a, cap, h, hlc, hcm, hR, hwf⟩ := w0
  simp only [Value.slice.injEq] at h
  obtain ⟨rfl, rfl, rfl⟩ := h
  by_cases hl : z0.length = 0 ∨ 125 < z0.length
  · exact wordBack_long _ _ _ a1 a2 w hl (by omega) hT hs
  · have h2 : ∃ n : Nat, a2 = n ∧ n < 2 ^ 64 := by
      simp [Lit.wf, IntKind.min, IntKind.max, IntKind.signed, IntKind.bits] at w2
      exact ⟨a2.toNat, by omega, by omega⟩
    obtain ⟨n, rfl, hn⟩ := h2
    have h1 : ∃ p : Nat, a1 = p ∧ p ≤ 255 := by
      simp [Lit.wf, IntKind.min, IntKind.max, IntKind.signed, IntKind.bits] at w1
      exact ⟨a1.toNat, by omega, by omega⟩
    obtain ⟨p, rfl, hp⟩ := h1
    rcases hR with h | ⟨b, o, rfl, hc⟩
    · rw [h] at hl; simp at hl
    · exact wordBack_core b o cap0 z0 p n w hc hwf (by omega) (by omega) hp hn hT hs
end Go.Proofs.YtgjmicphkhjbhaaDoor
