/- The walk of the statement WordFields. -/
import Derived.Test.YtgjmicphkhjbhaaDoorWg
import Derived.ProofKit
import Derived.Lib.SmallJoins
namespace Go.Proofs.YtgjmicphkhjbhaaDoor
open Go.RowKit

theorem fw_in (n v l s : Nat) (hn : n < 2 ^ 64) (h : l + s ≤ 64) : M.fld (M.wth n l s v) l s = M.fld v 0 s := by
  apply Nat.eq_of_testBit_eq
  intro i
  rw [M.testBit_fld, M.testBit_fld, M.testBit_wth _ _ _ _ _ hn]
  by_cases hi : i < s
  · rw [if_pos (by omega), show l + i - l = 0 + i by omega]
  · simp [hi]
theorem fw_low (n v l s : Nat) (hn : n < 2 ^ 64) : M.fld (M.wth n l s v) 0 l = M.fld n 0 l := by
  apply Nat.eq_of_testBit_eq
  intro i
  rw [M.testBit_fld, M.testBit_fld, M.testBit_wth _ _ _ _ _ hn]
  by_cases hi : i < l
  · rw [if_neg (by omega)]
  · simp [hi]
theorem fw_high (n v l s k : Nat) (hn : n < 2 ^ 64) : M.fld (M.wth n l s v) (l + s) k = M.fld n (l + s) k := by
  apply Nat.eq_of_testBit_eq
  intro i
  rw [M.testBit_fld, M.testBit_fld, M.testBit_wth _ _ _ _ _ hn, if_neg (by omega)]
theorem wf_join (n l : Nat) (hn : n < 2 ^ 64) : M.wth (M.wth 0 0 l (M.fld n 0 l)) l 64 (M.fld n l 64) = n := by
  apply Nat.eq_of_testBit_eq
  intro i
  rw [M.testBit_wth _ _ _ _ _ (M.wth_lt _ _ _ _), M.testBit_wth _ _ _ _ _ (by decide), M.testBit_fld, M.testBit_fld]
  by_cases hi : i < 64
  · by_cases hl : l ≤ i
    · rw [if_pos (by omega), show l + (i - l) = i by omega]
      simp; omega
    · rw [if_neg (by omega), if_pos (by omega)]
      simp; omega
  · rw [if_neg (by omega), if_neg (by omega), M.testBit_high hn (by omega)]; simp
theorem wf_same (n l s : Nat) (hn : n < 2 ^ 64) : M.wth n l s (M.fld n l s) = n := by
  apply Nat.eq_of_testBit_eq
  intro i
  rw [M.testBit_wth _ _ _ _ _ hn, M.testBit_fld]
  by_cases hi : i < 64 ∧ l ≤ i ∧ i < l + s
  · rw [if_pos hi, show l + (i - l) = i by omega]
    simp; omega
  · rw [if_neg hi]

theorem wordFields_core (n v : Nat) (p q : Int) (w : World) (hn : n < 2 ^ 64) (hv : v < 2 ^ 64) (hp : 0 ≤ p ∧ p ≤ 255) (hq : 0 ≤ q ∧ q ≤ 255) (hT : TabAt 0 Lib.deBruijn64tab w) (hs : 1 ≤ w.heap.size) :
    Calls Tryd.prog 6 #[.agg #[.int .u64 n, .int .u64 v, .int .u8 p, .int .u8 q]] w fun e w' => e = .returned (.bool true) ∧ Below w.heap.size w w' := by
  have HT := Lib.hid hT; clear hT
  obtain ⟨pn, rfl⟩ := Int.eq_ofNat_of_zero_le hp.1
  obtain ⟨qn, rfl⟩ := Int.eq_ofNat_of_zero_le hq.1
  go_enter Tryd.func6, Tryd.ntmps6
  go_wp2_with fail
  have hx0 := cell_of_row (w.alloc (.cells #[.int .u64 n, .int .u64 v, .int .u8 pn, .int .u8 qn] 38)) w.heap.size 0 _ 38 (0, 0) (heap_alloc_new w _)
  have hx1 := cell_of_row (w.alloc (.cells #[.int .u64 n, .int .u64 v, .int .u8 pn, .int .u8 qn] 38)) w.heap.size 1 _ 38 (0, 0) (heap_alloc_new w _)
  have hx2 := cell_of_row (w.alloc (.cells #[.int .u64 n, .int .u64 v, .int .u8 pn, .int .u8 qn] 38)) w.heap.size 2 _ 38 (0, 0) (heap_alloc_new w _)
  have hx3 := cell_of_row (w.alloc (.cells #[.int .u64 n, .int .u64 v, .int .u8 pn, .int .u8 qn] 38)) w.heap.size 3 _ 38 (0, 0) (heap_alloc_new w _)
  have hB0 : Below w.heap.size w (w.alloc (.cells #[.int .u64 n, .int .u64 v, .int .u8 pn, .int .u8 qn] 38)) := (Below.refl w.heap.size w).alloc (Nat.le_refl _) _
  have hsz : w.heap.size + 1 = (w.alloc (.cells #[.int .u64 n, .int .u64 v, .int .u8 pn, .int .u8 qn] 38)).heap.size := by simp
  generalize w.alloc (.cells #[.int .u64 n, .int .u64 v, .int .u8 pn, .int .u8 qn] 38) = W0 at *
  have hT0 : TabAt 0 Lib.deBruijn64tab W0 := TabAt.below HT.out hB0 hs
  refine (alive_any _ hT0 (by omega)).mono ?_
  rintro e w1 ⟨rfl, hb⟩
  have c0 : w1.cell? ⟨w.heap.size, 0, none⟩ = some (.int .u64 n) := (hb.cell (p := ⟨w.heap.size, 0, none⟩) (by simp; omega)).trans (by simpa using hx0)
  have c1 : w1.cell? ⟨w.heap.size, 1, none⟩ = some (.int .u64 v) := (hb.cell (p := ⟨w.heap.size, 1, none⟩) (by simp; omega)).trans (by simpa using hx1)
  have c2 : w1.cell? ⟨w.heap.size, 2, none⟩ = some (.int .u8 pn) := (hb.cell (p := ⟨w.heap.size, 2, none⟩) (by simp; omega)).trans (by simpa using hx2)
  have c3 : w1.cell? ⟨w.heap.size, 3, none⟩ = some (.int .u8 qn) := (hb.cell (p := ⟨w.heap.size, 3, none⟩) (by simp; omega)).trans (by simpa using hx3)
  have HB : Hid (Below w.heap.size w w1) := hB0.trans (hb.mono (by omega))
  clear hb hB0 hx0 hx1 hx2 hx3 hsz hT0
  go_wp2_with fail
  go_quiet (fail)
  go_wp2_with fail
  go_quiet (fail)
  go_wp2_with fail
  all_goals
    obtain ⟨l, hl1, hl2⟩ : ∃ l : Nat, (pn : Int) % 64 = (l : Int) ∧ l ≤ 63 := ⟨pn % 64, by omega, by omega⟩
    obtain ⟨s', hs1, hs2⟩ : ∃ s' : Nat, (qn : Int) % 65 = (s' : Int) ∧ s' ≤ 64 := ⟨qn % 65, by omega, by omega⟩
    rw [hl1, hs1]
  · obtain ⟨s, hss1, hss2⟩ : ∃ s : Nat, (64 : Int) - (l : Int) = (s : Int) ∧ l + s ≤ 64 := ⟨64 - l, by omega, by omega⟩
    rw [hss1]
    clear hss1 hl1 hs1
    have HF1 := Lib.hid (fw_in n v l s hn hss2)
    have HF2 := Lib.hid (fw_low n v l s hn)
    have HF3 := Lib.hid (fw_high n v l s 64 hn)
    have HF4 := Lib.hid (wf_join n l hn)
    have HF5 := Lib.hid (wf_same n l s hn)
    have hxlt := M.wth_lt n l s v
    have hylt := M.wth_lt 0 0 l (M.fld n 0 l)
    have hf0 := M.fld_lt n 0 l hn
    have hf1 := M.fld_lt n l 64 hn
    have hf2 := M.fld_lt n l s hn
    clear c0 c1 c2 c3
    refine (with_any n v _ _ _ hn hv).mono ?_
    rintro e w' ⟨rfl, m1, rfl⟩
    rw [Int.toNat_natCast l, Int.toNat_natCast s]
    generalize M.wth n l s v = x at *
    go_wp2_with fail
    refine (field_any x _ _ _ hxlt).mono ?_
    rintro e w' ⟨rfl, m2, rfl⟩
    rw [Int.toNat_natCast l, Int.toNat_natCast s, HF1.out]
    go_wp2_with fail
    refine (field_any v _ _ _ hv).mono ?_
    rintro e w' ⟨rfl, m3, rfl⟩
    rw [show Int.toNat 0 = 0 from rfl, Int.toNat_natCast s]
    go_wp2_with fail
    refine (field_any x _ _ _ hxlt).mono ?_
    rintro e w' ⟨rfl, m4, rfl⟩
    rw [show Int.toNat 0 = 0 from rfl, Int.toNat_natCast l, HF2.out]
    go_wp2_with fail
    refine (field_any n _ _ _ hn).mono ?_
    rintro e w' ⟨rfl, m5, rfl⟩
    rw [show Int.toNat 0 = 0 from rfl, Int.toNat_natCast l]
    go_wp2_with fail
    refine (field_any x _ _ _ hxlt).mono ?_
    rintro e w' ⟨rfl, m6, rfl⟩
    rw [show Int.toNat 64 = 64 from rfl, show ((l : Int) + (s : Int)).toNat = l + s by omega, HF3.out]
    go_wp2_with fail
    refine (field_any n _ _ _ hn).mono ?_
    rintro e w' ⟨rfl, m7, rfl⟩
    rw [show Int.toNat 64 = 64 from rfl, show ((l : Int) + (s : Int)).toNat = l + s by omega]
    go_wp2_with fail
    refine (field_any n _ _ _ hn).mono ?_
    rintro e w' ⟨rfl, m8, rfl⟩
    rw [show Int.toNat 0 = 0 from rfl, Int.toNat_natCast l]
    go_wp2_with fail
    refine (with_any 0 (M.fld n 0 l) _ _ _ (by decide) hf0).mono ?_
    rintro e w' ⟨rfl, m9, rfl⟩
    rw [Int.toNat_natCast l, show Int.toNat 0 = 0 from rfl]
    generalize M.wth 0 0 l (M.fld n 0 l) = y at *
    go_wp2_with fail
    refine (field_any n _ _ _ hn).mono ?_
    rintro e w' ⟨rfl, m10, rfl⟩
    rw [Int.toNat_natCast l, show Int.toNat 64 = 64 from rfl]
    go_wp2_with fail
    refine (with_any y (M.fld n l 64) _ _ _ hylt hf1).mono ?_
    rintro e w' ⟨rfl, m11, rfl⟩
    rw [Int.toNat_natCast l, show Int.toNat 64 = 64 from rfl, HF4.out]
    go_wp2_with fail
    refine (field_any n _ _ _ hn).mono ?_
    rintro e w' ⟨rfl, m12, rfl⟩
    rw [Int.toNat_natCast l, Int.toNat_natCast s]
    go_wp2_with fail
    refine (with_any n (M.fld n l s) _ _ _ hn hf2).mono ?_
    rintro e w' ⟨rfl, m13, rfl⟩
    rw [Int.toNat_natCast l, Int.toNat_natCast s, HF5.out]
    go_wp2
    go_ret
    exact ⟨rfl, below_drewN' HB.out _⟩
  · obtain ⟨s, hss1, hss2⟩ : ∃ s : Nat, s' = s ∧ l + s ≤ 64 := ⟨s', rfl, by omega⟩
    rw [hss1]
    clear hss1 hl1 hs1
    have HF1 := Lib.hid (fw_in n v l s hn hss2)
    have HF2 := Lib.hid (fw_low n v l s hn)
    have HF3 := Lib.hid (fw_high n v l s 64 hn)
    have HF4 := Lib.hid (wf_join n l hn)
    have HF5 := Lib.hid (wf_same n l s hn)
    have hxlt := M.wth_lt n l s v
    have hylt := M.wth_lt 0 0 l (M.fld n 0 l)
    have hf0 := M.fld_lt n 0 l hn
    have hf1 := M.fld_lt n l 64 hn
    have hf2 := M.fld_lt n l s hn
    clear c0 c1 c2 c3
    refine (with_any n v _ _ _ hn hv).mono ?_
    rintro e w' ⟨rfl, m1, rfl⟩
    rw [Int.toNat_natCast l, Int.toNat_natCast s]
    generalize M.wth n l s v = x at *
    go_wp2_with fail
    refine (field_any x _ _ _ hxlt).mono ?_
    rintro e w' ⟨rfl, m2, rfl⟩
    rw [Int.toNat_natCast l, Int.toNat_natCast s, HF1.out]
    go_wp2_with fail
    refine (field_any v _ _ _ hv).mono ?_
    rintro e w' ⟨rfl, m3, rfl⟩
    rw [show Int.toNat 0 = 0 from rfl, Int.toNat_natCast s]
    go_wp2_with fail
    refine (field_any x _ _ _ hxlt).mono ?_
    rintro e w' ⟨rfl, m4, rfl⟩
    rw [show Int.toNat 0 = 0 from rfl, Int.toNat_natCast l, HF2.out]
    go_wp2_with fail
    refine (field_any n _ _ _ hn).mono ?_
    rintro e w' ⟨rfl, m5, rfl⟩
    rw [show Int.toNat 0 = 0 from rfl, Int.toNat_natCast l]
    go_wp2_with fail
    refine (field_any x _ _ _ hxlt).mono ?_
    rintro e w' ⟨rfl, m6, rfl⟩
    rw [show Int.toNat 64 = 64 from rfl, show ((l : Int) + (s : Int)).toNat = l + s by omega, HF3.out]
    go_wp2_with fail
    refine (field_any n _ _ _ hn).mono ?_
    rintro e w' ⟨rfl, m7, rfl⟩
    rw [show Int.toNat 64 = 64 from rfl, show ((l : Int) + (s : Int)).toNat = l + s by omega]
    go_wp2_with fail
    refine (field_any n _ _ _ hn).mono ?_
    rintro e w' ⟨rfl, m8, rfl⟩
    rw [show Int.toNat 0 = 0 from rfl, Int.toNat_natCast l]
    go_wp2_with fail
    refine (with_any 0 (M.fld n 0 l) _ _ _ (by decide) hf0).mono ?_
    rintro e w' ⟨rfl, m9, rfl⟩
    rw [Int.toNat_natCast l, show Int.toNat 0 = 0 from rfl]
    generalize M.wth 0 0 l (M.fld n 0 l) = y at *
    go_wp2_with fail
    refine (field_any n _ _ _ hn).mono ?_
    rintro e w' ⟨rfl, m10, rfl⟩
    rw [Int.toNat_natCast l, show Int.toNat 64 = 64 from rfl]
    go_wp2_with fail
    refine (with_any y (M.fld n l 64) _ _ _ hylt hf1).mono ?_
    rintro e w' ⟨rfl, m11, rfl⟩
    rw [Int.toNat_natCast l, show Int.toNat 64 = 64 from rfl, HF4.out]
    go_wp2_with fail
    refine (field_any n _ _ _ hn).mono ?_
    rintro e w' ⟨rfl, m12, rfl⟩
    rw [Int.toNat_natCast l, Int.toNat_natCast s]
    go_wp2_with fail
    refine (with_any n (M.fld n l s) _ _ _ hn hf2).mono ?_
    rintro e w' ⟨rfl, m13, rfl⟩
    rw [Int.toNat_natCast l, Int.toNat_natCast s, HF5.out]
    go_wp2
    go_ret
    exact ⟨rfl, below_drewN' HB.out _⟩

theorem cellsBits : Tryd.prog.cellsOf 38 = 4 := by kernel_rfl
open Go.ChangeShapes Go.WideShapes Go.ChangeAt Go.Joins in
theorem open_bits4 {H : Type} {enc : TypeId × Value → H} {w : World} {base b0 : Nat} {spare : Nat → Bool} {held : Bool} {r : Reach} {v : Value} {d : DataW H} {p : List MemPlace}
    (hv : Value.okWide Tryd.prog w r b0 38 v) (h : DataW.Trod enc Tryd.prog w base spare held 38 v d p) :
    ∃ x y p q : Int, v = .agg #[.int .u64 x, .int .u64 y, .int .u8 p, .int .u8 q] ∧ (Lit.int .u64 x).wf = true ∧ (Lit.int .u64 y).wf = true ∧ (Lit.int .u8 p).wf = true ∧ (Lit.int .u8 q).wf = true := by
  obtain ⟨c0, c1, c2, c3, y0, y1, y2, y3, m, rfl, rfl, rfl, hy0, hy1, hy2, hy3⟩ := open_agg4 Tryd.underlying38 (by kernel_rfl) cellsBits hv h
  obtain ⟨a, e0, _, wa⟩ := DataW.trod_int Tryd.underlying23 hy0
  obtain ⟨b, e1, _, wb⟩ := DataW.trod_int Tryd.underlying23 hy1
  obtain ⟨c, e2, _, wc⟩ := DataW.trod_int Tryd.underlying5 hy2
  obtain ⟨d, e3, _, wd⟩ := DataW.trod_int Tryd.underlying5 hy3
  simp at e0 e1 e2 e3
  subst e0 e1 e2 e3
  exact ⟨a, b, c, d, rfl, wa, wb, wc, wd⟩
theorem u64_nat' {z : Int} (h : (Lit.int .u64 z).wf = true) : ∃ n : Nat, z = n ∧ n < 2 ^ 64 := by
  simp [Lit.wf, IntKind.min, IntKind.max, IntKind.signed, IntKind.bits] at h
  exact ⟨z.toNat, by omega, by omega⟩
theorem u8_bd {z : Int} (h : (Lit.int .u8 z).wf = true) : 0 ≤ z ∧ z ≤ 255 := by
  simp [Lit.wf, IntKind.min, IntKind.max, IntKind.signed, IntKind.bits] at h
  omega
theorem wordFields_walk (x y p q : Int) (w : World) (wx : (Lit.int .u64 x).wf = true) (wy : (Lit.int .u64 y).wf = true) (wp : (Lit.int .u8 p).wf = true) (wq : (Lit.int .u8 q).wf = true)
    (hT : TabAt 0 Lib.deBruijn64tab w) (hs : 1 ≤ w.heap.size) :
    Calls Tryd.prog 6 #[.agg #[.int .u64 x, .int .u64 y, .int .u8 p, .int .u8 q]] w fun e w' => e = .returned (.bool true) ∧ Below w.heap.size w w' := by
  obtain ⟨n, rfl, hn⟩ := u64_nat' wx
  obtain ⟨v, rfl, hv⟩ := u64_nat' wy
  exact wordFields_core n v p q w hn hv (u8_bd wp) (u8_bd wq) hT hs
end Go.Proofs.YtgjmicphkhjbhaaDoor
