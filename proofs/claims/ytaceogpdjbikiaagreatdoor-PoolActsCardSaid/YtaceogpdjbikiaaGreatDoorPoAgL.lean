
/- PoolAgain, what its walk asks: a pool and its device, kept through calls; Take of what is none; sameInts. -/
import Derived.Test.YtaceogpdjbikiaaGreatDoorPoW
import Derived.Test.YtaceogpdjbikiaaGreatDoorPoOp
import Derived.Test.YtaceogpdjbikiaaGreatDoorPoFiL
namespace Go.Proofs.YtaceogpdjbikiaaGreatDoor

open Go.RowKit

/-- A pool, and its device with just what is taken in its table. -/
structure St7 (N s : Nat) (d : V.Dv) (ws xs : List Nat) (k : Nat) : Prop where
  up : V.Up7 d N ws
  good : Good7 ws xs
  wl : ws.length = s
  steps : d.steps ≤ 20000 + 3 * k
theorem put_steps7 (d : V.Dv) (off : Int) (n : Nat) : (d.put off n).1.steps ≤ d.steps + 3 := V.runL_steps _ _
section

variable {N s : Nat} {d : V.Dv} {ws xs : List Nat} {k : Nat} {sh : V.Sh}

theorem St7.more (h : St7 N s d ws xs k) : St7 N s d ws xs (k + 1) := ⟨h.up, h.good, h.wl, by have := h.steps; omega⟩
theorem St7.reserve (h : St7 N s d ws xs k) (c : Int) : St7 N s d ws (rsv 192 ws xs c).1 k := ⟨h.up, rsv_good h.good 192 c, h.wl, h.steps⟩
/-- Of a place, Take answers OK, or that there is none; the pool stays right. -/
theorem St7.take (h : St7 N s d ws xs k) (h19 : 19 ≤ N) (hs : s = V.slabs N) (hsh : sh.table = 128) (x : Int) :
    St7 N s (takeR d sh 192 ws xs x).1 (takeR d sh 192 ws xs x).2.1 (takeR d sh 192 ws xs x).2.2.1 (k + 1) ∧ ((takeR d sh 192 ws xs x).2.2.2 = 0 ∨ (takeR d sh 192 ws xs x).2.2.2 = 7) ∧ ((∃ i b, P.FindIs 192 xs x i b) → (takeR d sh 192 ws xs x).2.2.2 = 0) := by
  unfold takeR
  rcases P.find_cases 192 xs x with ⟨e, hno⟩ | ⟨i, b, e, hf⟩
  · rw [e]
    exact ⟨h.more, .inr rfl, fun ⟨i, b, hf⟩ => absurd hf (hno i b)⟩
  · rw [e]
    dsimp only
    obtain ⟨hst, hbit⟩ := (findIs_x h.good).1 hf
    have hg2 := (taken_of h.good hst.1 hbit).1
    have ht : S.tkW (ws.getD i 0) (S.cls (used ws xs i) : Int) (b : Int) < 2 ^ 64 := S.tkW_lt (h.good.w64 hst.1) _ _
    generalize S.tkW (ws.getD i 0) (S.cls (used ws xs i) : Int) (b : Int) = t at *
    have hp := h.up.put h19 (by rw [h.wl]; exact hs) (i := i) (t := t) (by rw [← hs, ← h.wl]; exact hst.1) ht
    have hst3 := put_steps7 d (128 + 8 * (i : Int)) t
    rw [hsh, if_pos hp.1]
    exact ⟨⟨hp.2, hg2, by rw [List.length_set]; exact h.wl, by have := h.steps; dsimp only; omega⟩, .inl rfl, fun _ => rfl⟩
theorem St7.drop (h : St7 N s d ws xs k) (h19 : 19 ≤ N) (hs : s = V.slabs N) (hsh : sh.table = 128) (x : Int) :
    St7 N s (dropR d sh 192 ws xs x).1 (dropR d sh 192 ws xs x).2.1 (dropR d sh 192 ws xs x).2.2.1 (k + 1) := by
  unfold dropR
  rcases P.find_cases 192 xs x with ⟨e, hno⟩ | ⟨i, b, e, hf⟩
  · rw [e]
    rcases P.find_cases 192 ws x with ⟨e2, _⟩ | ⟨i, b, e2, hf⟩
    · rw [e2]; exact h.more
    · rw [e2]
      dsimp only
      obtain ⟨hst, hbit⟩ := (findIs_w h.good).1 hf
      have hg2 := (dropped_w h.good hst.1 hbit).1
      have ht : S.drW (ws.getD i 0) (b : Int) < 2 ^ 64 := S.drW_lt (h.good.w64 hst.1) _
      generalize S.drW (ws.getD i 0) (b : Int) = t at *
      have hp := h.up.put h19 (by rw [h.wl]; exact hs) (i := i) (t := t) (by rw [← hs, ← h.wl]; exact hst.1) ht
      have hst3 := put_steps7 d (128 + 8 * (i : Int)) t
      rw [hsh, if_pos hp.1]
      exact ⟨hp.2, hg2, by rw [List.length_set]; exact h.wl, by have := h.steps; dsimp only; omega⟩
  · rw [e]
    obtain ⟨hst, hbit⟩ := (findIs_x h.good).1 hf
    exact ⟨h.up, (dropped_x h.good hst.1 hbit).1, h.wl, by have := h.steps; dsimp only; omega⟩
/-- What was reserved with OK is found. -/
theorem rsv_found (h : Good7 ws xs) (c : Int) (he : (rsv 192 ws xs c).2.2 = 0) : ∃ i b, P.FindIs 192 (rsv 192 ws xs c).1 (rsv 192 ws xs c).2.1 i b := by
  revert he
  unfold rsv
  split
  · rename_i hc
    split
    · rename_i i hi
      intro _
      obtain ⟨h1, h2⟩ := P.pick_some hi
      rw [both_len] at h1
      rw [both_get h1] at h2
      have hix : i < xs.length := by rw [h.len]; exact h1
      obtain ⟨b, b1, _, _, _, _, _⟩ := held_of h h1 hc h2
      obtain ⟨b', b1', b2', b3'⟩ := P.nxt_take hc (h.right h1) h2
      obtain rfl : b' = b := by omega
      have htk := ((h.pair i h1).hold b3').1
      obtain ⟨k, e, t1, t2, t3, t4, t5, t6, t7, t8, t9, t10, t11⟩ := S.take_of htk
      obtain rfl : k = b' := by omega
      dsimp only
      rw [b1]
      refine ⟨i, k, by rw [List.length_set]; exact hix, ?_, ?_⟩
      · rw [P.getD_set _ _ _ _ hix, if_pos rfl, t11, S.bit_add t5]; simp
      · rw [P.getD_set _ _ _ _ hix, if_pos rfl, t10, Int.toNat_natCast]
    · intro he; exact absurd (show (6 : Int) = 0 from he) (by decide)
  · intro he; exact absurd (show (2 : Int) = 0 from he) (by decide)
end

theorem find_i64 {da : Nat} {l : List Nat} {x : Int} {i b : Nat} (h : P.FindIs da l x i b) (hd : da ≤ 1000000) (hm : l.length ≤ 63) : I64 x := by
  have h1 := P.within h
  exact ⟨by omega, by have := h1.2; omega⟩
theorem rsv_err (ws xs : List Nat) (c : Int) : (rsv 192 ws xs c).2.2 = 0 ∨ (rsv 192 ws xs c).2.2 = 6 ∨ (rsv 192 ws xs c).2.2 = 2 := by
  unfold rsv
  split
  · split
    · exact .inl rfl
    · exact .inr (.inl rfl)
  · exact .inr (.inr rfl)
theorem zeros_find (da n : Nat) (x : Int) : ∀ i b, ¬ P.FindIs da (List.replicate n 0) x i b := by
  intro i b h
  have h1 := h.2.1
  have h0 : (List.replicate n 0).getD i 0 = 0 := by
    rw [List.getD_eq_getElem?_getD, List.getElem?_replicate]; split <;> rfl
  rw [h0, show S.tkn 0 = 0 from rfl, Nat.zero_testBit] at h1; cases h1
theorem zeros_count (n : Nat) : ∀ k, P.count (List.replicate n 0) k = 0 := by
  intro k
  induction k with
  | zero => rfl
  | succ k ih =>
    have h0 : (List.replicate n 0).getD k 0 = 0 := by
      rw [List.getD_eq_getElem?_getD, List.getElem?_replicate]; split <;> rfl
    unfold P.count
    rw [ih, h0]; rfl
theorem all_cls {da : Nat} {ws : List Nat} {x : Int} (h : x ∈ P.all da ws ws.length) : clsOf da ws x ≠ 0 ∧ clsOf da ws x ≤ 2 := by
  obtain ⟨i, b, _, hf⟩ := (P.mem_all (Nat.le_refl _)).1 h
  unfold clsOf
  rw [P.find_some hf]
  dsimp only
  have := hf.blk
  rcases P.lns_blk hf.blk with ⟨h, _⟩ | ⟨h, _⟩ <;> omega
section

variable {w : World} {pv : Value} {a : Addr} {sh : V.Sh} {ws xs K : List Nat} {da : Nat}

set_option maxHeartbeats 1000000 in
set_option maxRecDepth 100000 in
/-- Take of a place where nothing is reserved. -/
theorem r_take_none (h : PoolR pv (some a) sh ws xs K w) (hs : ShOk sh da) (x : Int) (hx : I64 x) (hno : ∀ i b, ¬ P.FindIs da xs x i b) :
    Calls Tryz.prog 14 #[pv, .int .i64 x] w fun e w' => e = .returned (.int .i64 7) ∧ Below w.heap.size w w' := by
  obtain ⟨y, rfl, rfl, hp, hg⟩ := h
  have HM := Lib.hid (po_made hp)
  have HF := Lib.hid (po_find hp hs hg x hx)
  have HP := Lib.hid hp
  have HG := Lib.hid hg
  have HNO := Lib.hid hno
  have HB0 : Hid (∀ m, Below w.heap.size w (w.drewN m)) := fun m => below_drewN' (Below.refl _ _) m
  clear hp hg hs hx hno
  generalize hpp : y.P = pp at *
  go_enter Tryz.func14, Tryz.ntmps14
  go_wp2_with fail
  refine HM.out.mono ?_
  rintro e w1 ⟨rfl, rfl⟩
  go_wp2_with fail
  refine HF.out.mono ?_
  rintro e w1 (⟨i, b, hst, rfl, m, rfl⟩ | ⟨hno, g, rfl, hst, hgl, hb⟩)
  · have hs := HP.out.stock i hst.1
    have h2 := hs.c2
    have HH : Hid (∀ W : World, Calls Tryz.prog 48 #[.int .u64 (xs.getD i 0 : Nat), .int .i64 (b : Int)] W fun e w' => e = .returned (.bool ((S.tkn (xs.getD i 0)).testBit b)) ∧ ∃ m, w' = W.drewN m) := fun W => by
      have := sl_has (xs.getD i 0) (b : Int) W (HG.out.x64 hst.1)
      rwa [P.has_nat] at this
    have hbit : (S.tkn (xs.getD i 0)).testBit b = false := by
      cases hb : (S.tkn (xs.getD i 0)).testBit b with
      | false => rfl
      | true => exact absurd ((findIs_x HG.out).2 ⟨hst, hb⟩) (HNO.out i b)
    rw [hbit] at HH
    clear hs hst hbit
    unfold sptr
    generalize xs.getD i 0 = u at *
    generalize y.S i = sk at *
    go_wp2_with fail
    refine (HH.out _).mono ?_
    rintro e w2 ⟨rfl, m2, hw2⟩
    rw [World.drewN_drewN] at hw2
    subst hw2
    go_wp2
    go_ret
    exact ⟨rfl, HB0.out _⟩
  · have h2 := hst.c2
    have HH : Hid (∀ W : World, Calls Tryz.prog 48 #[.int .u64 ((0 : Nat) : Int), .int .i64 ((0 : Nat) : Int)] W fun e w' => e = .returned (.bool false) ∧ ∃ m, w' = W.drewN m) := fun W => by
      have := sl_has 0 ((0 : Nat) : Int) W (by decide)
      rwa [P.has_nat, show S.tkn 0 = 0 from rfl, Nat.zero_testBit] at this
    have HB := Lib.hid hb
    clear hst hno hb hgl
    go_wp2_with fail
    refine (HH.out _).mono ?_
    rintro e w2 ⟨rfl, m2, rfl⟩
    go_wp2
    go_ret
    exact ⟨rfl, below_drewN' HB.out _⟩
end

set_option maxRecDepth 100000 in
/-- Two slices of the very same numbers. -/
theorem ints_same {w : World} {A B : Option Addr} {n c m k : Nat} {l : List Int} (hl : IsInts .i64 w (.slice A n c) l) (hr : IsInts .i64 w (.slice B m k) l) :
    Calls Tryz.prog 18 #[.slice A n c, .slice B m k] w fun e w' => e = .returned (.bool true) ∧ ∃ m, w' = w.drewN m := by
  obtain ⟨hll, hlc, hlm⟩ := hl.len'
  obtain ⟨hrl, hrc, hrm⟩ := hr.len'
  unfold maxLen at hlm hrm
  obtain rfl : n = m := by omega
  have HL := Lib.hid hl; have HR := Lib.hid hr
  have HLL := Lib.hid hll
  clear hl hr hll hrl
  go_enter Tryz.func18, Tryz.ntmps18
  go_wp2_with fail
  go_loopw [13] (fun x wr => ∃ j : Nat, j ≤ n ∧ x = .int .i64 j ∧ ∃ n, wr = w.drewN n) (fun x _ => n - (intOf x).toNat)
  case atStart => exact ⟨0, by omega, rfl, nodraw _⟩
  case round =>
    obtain ⟨j, hj, rfl, u, rfl⟩ := hrel
    by_cases hlt : j < n
    · obtain ⟨b1, o1, rfl, -, -, -, hc1⟩ := HL.out.at6 (i := j) (by rw [HLL.out]; exact hlt)
      obtain ⟨b2, o2, rfl, -, -, -, hc2⟩ := HR.out.at6 (i := j) (by rw [HLL.out]; exact hlt)
      generalize l.getD j 0 = x at *
      have hb : ((x : Int) != (x : Int)) = false := by simp
      go_wp2_with fail
      go_quiet (fail)
      go_wp2
      go_roundw
      case rel => exact ⟨j + 1, by omega, by go_num, _, rfl⟩
      case measure => simp [intOf]; omega
    · obtain rfl : j = n := by omega
      go_wp2
      go_ret
      exact ⟨rfl, _, rfl⟩
end Go.Proofs.YtaceogpdjbikiaaGreatDoor
