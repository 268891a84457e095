
/- The walk of the statement SlabFills. -/
import Derived.Test.YtbaealdabplmdaaDoorSlWordL

namespace Go.Proofs.YtbaealdabplmdaaDoor

open Go.RowKit

/-- The word with the first blocks of a class taken. -/
def fW (c : Int) (i : Nat) : Nat := if i = 0 then 0 else c.toNat * 65536 + (2 ^ i - 1)
theorem fW_of {c : Int} (hc : c = 1 ∨ c = 2) {i : Nat} (hi : i ≤ S.blk c) : S.rgt (fW c i) = true ∧ S.tkn (fW c i) = 2 ^ i - 1 ∧ (fW c i = 0 ∨ (S.cls (fW c i) : Int) = c) := by
  unfold fW
  by_cases h0 : i = 0
  · subst h0
    rw [if_pos rfl]
    exact ⟨rfl, rfl, .inl rfl⟩
  · rw [if_neg h0]
    have h1 : 2 ^ 1 ≤ 2 ^ i := Nat.pow_le_pow_right (by decide) (by omega)
    have h2 : 2 ^ i ≤ 2 ^ S.blk c := Nat.pow_le_pow_right (by decide) hi
    have hm := S.made (c := c.toNat) (t := 2 ^ i - 1) (by
      rcases hc with rfl | rfl
      · have : (2 : Nat) ^ S.blk 1 = 65536 := by decide
        exact .inr (.inl ⟨rfl, by omega, by omega⟩)
      · have : (2 : Nat) ^ S.blk 2 = 16 := by decide
        exact .inr (.inr ⟨rfl, by omega, by omega⟩))
    exact ⟨hm.1, hm.2.2, .inr (by rw [hm.2.1]; omega)⟩
theorem fW_lt {c : Int} (hc : c = 1 ∨ c = 2) {i : Nat} (hi : i ≤ S.blk c) : fW c i < 2 ^ 64 := by
  obtain ⟨h1, h2, h3⟩ := fW_of hc hi
  have := S.tkn_lt (fW c i)
  have := S.cls_le (fW c i)
  rcases S.shape (fW c i) with ⟨h, _⟩ | ⟨_, h, _⟩
  · rw [h] at h1; cases h1
  · omega
theorem fW_bit (i k : Nat) : (2 ^ i - 1).testBit k = decide (k < i) := Nat.testBit_two_pow_sub_one ..
theorem fW_next {c : Int} (hc : c = 1 ∨ c = 2) {i : Nat} (hi : i < S.blk c) : S.nxt (fW c i) c = (i : Int) ∧ S.tak (fW c i) c (i : Int) = true ∧ S.tkW (fW c i) c (i : Int) = fW c (i + 1) := by
  obtain ⟨h1, h2, h3⟩ := fW_of hc (i := i) (by omega)
  have hs : S.sui (fW c i) c = true := decide_eq_true ⟨hc, h3⟩
  have ht : S.tak (fW c i) c (i : Int) = true := by
    unfold S.tak S.has
    rw [hs, h2, Int.toNat_natCast, fW_bit, decide_eq_true (show 0 ≤ (i : Int) ∧ (i : Int) < (S.blk c : Int) by omega)]
    simp
  refine ⟨?_, ht, ?_⟩
  · rcases S.nxt_of (fW_lt hc (by omega)) hs with ⟨_, h⟩ | ⟨k, hk, hk2, hk3, hk4⟩
    · have := h i hi
      rw [h2, fW_bit] at this
      simp at this
    · rw [hk]
      rw [h2, fW_bit] at hk3
      have h5 : ¬ k < i := of_decide_eq_false hk3
      have h6 : ¬ i < k := by
        intro hlt
        have := hk4 i hlt
        rw [h2, fW_bit] at this
        simp at this
      omega
  · obtain ⟨k, hk, _, _, _, _, _, _, _, e, _⟩ := S.take_of ht
    obtain rfl : k = i := by omega
    rw [e, h2]
    unfold fW
    have := Nat.two_pow_pos k
    rw [if_neg (by omega), Nat.pow_succ]
    omega
theorem fW_full {c : Int} (hc : c = 1 ∨ c = 2) : S.nxt (fW c (S.blk c)) c = -1 ∧ S.pc (S.tkn (fW c (S.blk c))) 16 = S.blk c := by
  obtain ⟨h1, h2, h3⟩ := fW_of hc (Nat.le_refl _)
  have hs : S.sui (fW c (S.blk c)) c = true := decide_eq_true ⟨hc, h3⟩
  refine ⟨?_, ?_⟩
  · rcases S.nxt_of (fW_lt hc (Nat.le_refl _)) hs with ⟨h, _⟩ | ⟨k, hk, hk2, hk3, hk4⟩
    · exact h
    · rw [h2, fW_bit] at hk3
      exact absurd hk2 (of_decide_eq_false hk3)
  · rw [h2]
    rcases hc with rfl | rfl <;> decide
/-- What stands between the drops. -/
def Between (c : Int) (x n : Nat) : Prop := S.rgt x = true ∧ (x = 0 ∨ (S.cls x : Int) = c) ∧ n = S.pc (S.tkn x) 16 ∧ x < 2 ^ 64
theorem Between.drop {c : Int} {x n q : Nat} (h : Between c x n) (hh : S.has x (q : Int) = true) : ∃ n', n = n' + 1 ∧ Between c (S.drW x (q : Int)) n' ∧ (0 < n' → S.nxt (S.drW x (q : Int)) c ≤ (q : Int)) := by
  obtain ⟨h1, h2, h3, h4⟩ := h
  obtain ⟨k, e, d1, d2, d3, d4, d5, d6, d7, d8, d9, d10, d11⟩ := S.drop_of hh
  obtain rfl : k = q := by omega
  have hx0 : x ≠ 0 := by
    rintro rfl
    rw [show S.cls 0 = 0 from rfl] at d3
    omega
  have hc : (S.cls x : Int) = c := by rcases h2 with h | h; exact absurd h hx0; exact h
  have hp := S.pc_sub d4 16 d2
  have hlt := S.drW_lt h4 (k : Int)
  refine ⟨S.pc (S.tkn (S.drW x (k : Int))) 16, by rw [d11]; omega, ⟨d9, ?_, rfl, hlt⟩, ?_⟩
  · by_cases h5 : S.tkn x = 2 ^ k
    · left; rw [d8, if_pos h5]
    · right; rw [d10, if_neg h5]; exact hc
  · intro hpos
    have h5 : ¬ S.tkn x = 2 ^ k := by
      intro h5
      rw [d11, h5, Nat.sub_self] at hpos
      exact absurd hpos (by decide)
    have hs : S.sui (S.drW x (k : Int)) c = true := decide_eq_true ⟨by omega, .inr (by rw [d10, if_neg h5]; exact hc)⟩
    have hbit : (S.tkn (S.drW x (k : Int))).testBit k = false := by rw [d11, S.bit_sub d4]; simp
    rcases S.nxt_of hlt hs with ⟨h6, _⟩ | ⟨j, h6, h7, h8, h9⟩
    · rw [h6]; omega
    · rw [h6]
      apply Int.not_lt.1
      intro h10
      have := h9 k (by omega)
      rw [hbit] at this
      cases this
theorem Between.zero {c : Int} {x n : Nat} (h : Between c x n) : x = 0 ↔ n = 0 := by
  obtain ⟨h1, _, h3, _⟩ := h
  rw [h3, S.pc_none (S.tkn_lt x)]
  constructor
  · rintro rfl; rfl
  · intro h; exact S.tkn_zero h h1
theorem byte_nat {z : Int} (h : (Lit.int .u8 z).wf = true) : ∃ n : Nat, z = (n : Int) ∧ n ≤ 255 := by
  simp [Lit.wf, IntKind.min, IntKind.max, IntKind.signed, IntKind.bits] at h
  exact ⟨z.toNat, by omega, by omega⟩
set_option maxRecDepth 100000 in
theorem slabFills_walk (c : Int) (b : Option Addr) (len cap : Nat) (zs : List Int) (w : World) (_wc : (Lit.int .i64 c).wf = true) (hz : IsInts .u8 w (.slice b len cap) zs) (hT : TabAt 0 Lib.deBruijn64tab w) (_hs : 0 < w.heap.size) :
    Calls Tryd.prog 5 #[.int .i64 c, .slice b len cap] w fun e w' => e = .returned (.bool true) ∧ Below w.heap.size w w' := by
  have HT := Lib.hid hT; clear hT
  have HB0 : Hid (∀ m, Below w.heap.size w (w.drewN m)) := fun m => below_drewN' (Below.refl _ _) m
  have hlen : len = zs.length ∧ len ≤ maxLen := by
    obtain ⟨a, c', h1, h2, h3, _⟩ := hz
    simp only [Value.slice.injEq] at h1
    exact ⟨h1.2.1, by omega⟩
  obtain ⟨hl1, hl2⟩ := hlen
  have HL := Lib.hid hl1
  have HZ := Lib.hid hz
  have HWF : Hid (∀ z ∈ zs, (Lit.int .u8 z).wf = true) := by obtain ⟨_, _, _, _, _, _, h⟩ := hz; exact h
  clear hl1 hz _wc
  unfold maxLen at hl2
  by_cases h100 : 100 < len
  · go_enter Tryd.func5, Tryd.ntmps5
    go_wp2_with fail
    refine (alive6_any _ HT.out).mono ?_
    rintro e w1 ⟨rfl, m0, rfl⟩
    go_wp2
    go_ret
    exact ⟨rfl, HB0.out _⟩
  · have HBK : Hid (∀ W : World, Calls Tryd.prog 17 #[.int .i64 c] W fun e w' => e = .returned (.int .i64 (S.blk c : Nat)) ∧ ∃ m, w' = W.drewN m) := fun W => sl_blocks c W
    have hb16 := S.blk_le c
    have HFIN : Hid (S.nxt (fW c (S.blk c)) c = -1 ∧ Between c (fW c (S.blk c)) (S.blk c)) := by
      show _ ∧ _
      by_cases hc : c = 1 ∨ c = 2
      · obtain ⟨h1, h2⟩ := fW_full hc
        obtain ⟨h3, _, h4⟩ := fW_of hc (Nat.le_refl _)
        exact ⟨h1, h3, h4, h2.symm, fW_lt hc (Nat.le_refl _)⟩
      · have e0 : S.blk c = 0 := by unfold S.blk; rw [if_neg (by omega), if_neg (by omega)]
        have e1 : fW c (S.blk c) = 0 := by rw [e0]; rfl
        rw [e1, e0]
        exact ⟨S.nxt_not (decide_eq_false (fun h => hc h.1)), rfl, .inl rfl, by decide, by decide⟩
    have HSTEP : Hid (∀ i : Nat, i < S.blk c → fW c i < 2 ^ 64 ∧ S.nxt (fW c i) c = (i : Int) ∧ S.tak (fW c i) c (i : Int) = true ∧ S.tkW (fW c i) c (i : Int) = fW c (i + 1)) := by
      intro i hi
      have hc : c = 1 ∨ c = 2 := by
        unfold S.blk at hi
        split at hi
        · left; assumption
        · split at hi
          · right; assumption
          · omega
      exact ⟨fW_lt hc (by omega), fW_next hc hi⟩
    obtain ⟨bk, hbk⟩ : ∃ k, k = S.blk c := ⟨_, rfl⟩
    rw [← hbk] at HBK hb16 HFIN HSTEP
    clear hbk
    go_enter Tryd.func5, Tryd.ntmps5
    go_wp2_with fail
    refine (alive6_any _ HT.out).mono ?_
    rintro e w1 ⟨rfl, m0, rfl⟩
    go_wp2_with fail
    refine (HBK.out _).mono ?_
    rintro e w1 ⟨rfl, m1, rfl⟩
    go_wp2_with fail
    go_loopw [5, 6, 7, 8, 9, 22] (fun x _ _ _ _ k wr => ∃ i : Nat, i ≤ bk ∧ k = .int .i64 i ∧ x = .int .u64 (fW c i : Nat) ∧ ∃ m, wr = w.drewN m) (fun _ _ _ _ _ k _ => bk - (intOf k).toNat)
    case atStart => exact ⟨0, by omega, rfl, rfl, _, rfl⟩
    case round =>
      obtain ⟨i, hi, rfl, rfl, m2, rfl⟩ := hrel
      by_cases hlt : i < bk
      · obtain ⟨s1, s2, s3, s4⟩ := HSTEP.out i hlt
        have HN : Hid (∀ W : World, TabAt 0 Lib.deBruijn64tab W → Calls Tryd.prog 15 #[.int .u64 (fW c i : Nat), .int .i64 c] W fun e w' => e = .returned (.int .i64 (i : Int)) ∧ ∃ m, w' = W.drewN m) := by
          intro W hW
          have := sl_next (fW c i) c W s1 hW
          rwa [s2] at this
        have HK : Hid (∀ W : World, Calls Tryd.prog 21 #[.int .u64 (fW c i : Nat), .int .i64 c, .int .i64 (i : Int)] W fun e w' => e = .returned (.tuple #[.int .u64 (fW c (i + 1) : Nat), .bool true]) ∧ ∃ m, w' = W.drewN m) := by
          intro W
          have := sl_take (fW c i) c (i : Int) W s1
          rwa [s3, s4] at this
        clear s1 s2 s3 s4
        obtain ⟨y, hy⟩ : ∃ y, y = fW c (i + 1) := ⟨_, rfl⟩
        rw [← hy] at HK
        have HY := Lib.hid hy
        clear hy
        generalize fW c i = x at *
        go_wp2_with fail
        refine (HN.out _ (by exact HT.out)).mono ?_
        rintro e w' ⟨rfl, m3, rfl⟩
        go_wp2_with fail
        refine (HK.out _).mono ?_
        rintro e w' ⟨rfl, m4, rfl⟩
        go_wp2
        go_roundw
        case rel => exact ⟨i + 1, by omega, by go_num, by rw [HY.out], _, rfl⟩
        case measure => simp [intOf]; omega
      · obtain rfl : i = bk := by omega
        obtain ⟨f1, f2⟩ := HFIN.out
        have HN : Hid (∀ W : World, TabAt 0 Lib.deBruijn64tab W → Calls Tryd.prog 15 #[.int .u64 (fW c i : Nat), .int .i64 c] W fun e w' => e = .returned (.int .i64 (-1)) ∧ ∃ m, w' = W.drewN m) := by
          intro W hW
          have := sl_next (fW c i) c W f2.2.2.2 hW
          rwa [f1] at this
        have HF2 := Lib.hid f2
        clear f1 f2
        generalize fW c i = x0 at *
        go_wp2_with fail
        refine (HN.out _ (by exact HT.out)).mono ?_
        rintro e w' ⟨rfl, m3, rfl⟩
        clear HN
        go_wp2_with fail
        refine (HBK.out _).mono ?_
        rintro e w' ⟨rfl, m4, rfl⟩
        go_wp2_with fail
        go_loopw [5, 10, 12, 13, 14, 52] (fun x n _ _ _ k wr => ∃ (j xn nn : Nat), j ≤ len ∧ k = .int .i64 j ∧ x = .int .u64 (xn : Int) ∧ n = .int .i64 (nn : Int) ∧ nn ≤ 16 ∧ Between c xn nn ∧ ∃ m, wr = w.drewN m) (fun _ _ _ _ _ k _ => len - (intOf k).toNat)
        case atStart => exact ⟨0, x0, i, by omega, rfl, rfl, rfl, by omega, HF2.out, _, rfl⟩
        case round =>
          obtain ⟨j, xn, nn, hj, rfl, rfl, rfl, hnn, hbt, m5, rfl⟩ := hrel
          have HBT := Lib.hid hbt
          have hxn := hbt.2.2.2
          clear hbt
          by_cases hlt : j < len
          · obtain ⟨b1, o1, rfl, -, k1, k2, q1⟩ := HZ.out.at6 (i := j) (by rw [← HL.out]; exact hlt)
            obtain ⟨z, hz1, hz2⟩ := byte_nat (HWF.out (zs.getD j 0) (by
              have hjz : j < zs.length := by rw [← HL.out]; exact hlt
              have e : zs.getD j 0 = zs[j] := by simp [hjz]
              rw [e]; exact List.getElem_mem hjz))
            rw [hz1] at q1
            clear hz1
            obtain ⟨q, hq⟩ : ∃ q : Nat, q = z % 16 := ⟨_, rfl⟩
            have hq1 : (z : Int) % 16 = (q : Int) := by omega
            have hq2 : q < 16 := by omega
            clear hq
            have HD : Hid (∀ W : World, Calls Tryd.prog 23 #[.int .u64 xn, .int .i64 (q : Int)] W fun e w' => e = .returned (.tuple #[.int .u64 (S.drW xn (q : Int) : Nat), .bool (S.has xn (q : Int))]) ∧ ∃ m, w' = W.drewN m) := fun W => sl_drop xn (q : Int) W hxn
            have HH : Hid (∀ W : World, Calls Tryd.prog 14 #[.int .u64 xn, .int .i64 (q : Int)] W fun e w' => e = .returned (.bool (S.has xn (q : Int))) ∧ ∃ m, w' = W.drewN m) := fun W => sl_has xn (q : Int) W hxn
            cases hh : S.has xn (q : Int) with
            | false =>
              rw [hh, S.drop_not hh] at HD
              rw [hh] at HH
              clear hh
              go_wp2_with fail
              refine (HD.out _).mono ?_
              rintro e w' ⟨rfl, m6, rfl⟩
              go_wp2_with fail
              refine (HH.out _).mono ?_
              rintro e w' ⟨rfl, m7, rfl⟩
              go_wp2
              go_roundw
              case rel => exact ⟨j + 1, xn, nn, by omega, by go_num, rfl, rfl, hnn, HBT.out, _, rfl⟩
              case measure => simp [intOf]; omega
            | true =>
              obtain ⟨n', rfl, hb', hnx⟩ := HBT.out.drop hh
              have hxn' := hb'.2.2.2
              rw [hh] at HD HH
              have HN : Hid (∀ W : World, TabAt 0 Lib.deBruijn64tab W → Calls Tryd.prog 15 #[.int .u64 (S.drW xn (q : Int) : Nat), .int .i64 c] W fun e w' => e = .returned (.int .i64 (S.nxt (S.drW xn (q : Int)) c)) ∧ ∃ m, w' = W.drewN m) := fun W hW => sl_next _ c W hxn' hW
              have HB' := Lib.hid hb'
              clear hh hb'
              generalize S.nxt (S.drW xn (q : Int)) c = nx at *
              generalize S.drW xn (q : Int) = xn' at *
              by_cases hpos : 0 < n'
              · have hle := hnx hpos
                clear hnx
                go_wp2_with fail
                refine (HD.out _).mono ?_
                rintro e w' ⟨rfl, m6, rfl⟩
                go_wp2_with fail
                refine (HH.out _).mono ?_
                rintro e w' ⟨rfl, m7, rfl⟩
                go_wp2_with fail
                refine (HN.out _ (by exact HT.out)).mono ?_
                rintro e w' ⟨rfl, m8, rfl⟩
                go_wp2
                go_roundw
                case rel => exact ⟨j + 1, xn', n', by omega, by go_num, rfl, by first | rfl | go_num, by omega, HB'.out, _, rfl⟩
                case measure => simp [intOf]; omega
              · obtain rfl : n' = 0 := by omega
                clear hnx
                go_wp2_with fail
                refine (HD.out _).mono ?_
                rintro e w' ⟨rfl, m6, rfl⟩
                go_wp2_with fail
                refine (HH.out _).mono ?_
                rintro e w' ⟨rfl, m7, rfl⟩
                go_wp2
                go_roundw
                case rel => exact ⟨j + 1, xn', 0, by omega, by go_num, rfl, by first | rfl | go_num, by omega, HB'.out, _, rfl⟩
                case measure => simp [intOf]; omega
          · obtain rfl : j = len := by omega
            have HLI : Hid (∀ W : World, Calls Tryd.prog 10 #[.int .u64 xn] W (LsPost W (S.ls (S.tkn xn) 16))) := fun W => sl_list xn W hxn
            have hz0 := HBT.out.zero
            have hl3 : (S.ls (S.tkn xn) 16).length = nn := by rw [S.ls_length]; exact HBT.out.2.2.1.symm
            have HL3 := Lib.hid hl3
            clear hl3
            generalize S.ls (S.tkn xn) 16 = LL at *
            by_cases hx0 : xn = 0
            · obtain rfl : nn = 0 := hz0.1 hx0
              subst hx0
              clear hz0
              go_wp2_with fail
              refine (HLI.out _).mono ?_
              rintro e w5 ⟨a5, c5, rfl, _, hb5⟩
              rw [HL3.out]
              have HB5 : Hid (Below w.heap.size w w5) := (HB0.out _).trans (hb5.mono (HB0.out _).size)
              clear hb5
              go_wp2
              go_ret
              exact ⟨by first | rfl | exact ret_bool (by simp), HB5.out⟩
            · have hn0 : ¬ nn = 0 := fun h => hx0 (hz0.2 h)
              clear hz0
              go_wp2_with fail
              refine (HLI.out _).mono ?_
              rintro e w5 ⟨a5, c5, rfl, _, hb5⟩
              rw [HL3.out]
              have HB5 : Hid (Below w.heap.size w w5) := (HB0.out _).trans (hb5.mono (HB0.out _).size)
              clear hb5
              go_wp2
              go_ret
              exact ⟨ret_bool (by rw [show ((xn : Int) == 0) = false from (by simpa using hx0), show ((nn : Int) == 0) = false from (by simpa using hn0)]; simp), HB5.out⟩
end Go.Proofs.YtbaealdabplmdaaDoor
