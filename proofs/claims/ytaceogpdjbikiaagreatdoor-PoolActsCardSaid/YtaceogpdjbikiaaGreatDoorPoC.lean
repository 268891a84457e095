
/- Layer 7: the pool's calls that only read: made, wordPlace, place, find, Class, Shape. -/
import Derived.Test.YtaceogpdjbikiaaGreatDoorPoB
import Derived.BigQuiet
namespace Go.Proofs.YtaceogpdjbikiaaGreatDoor

open Go.RowKit

/-- What holds of a pool's words. -/
structure Good7 (ws xs : List Nat) : Prop where
  len : xs.length = ws.length
  most : ws.length ≤ 63
  pair : ∀ i, i < ws.length → P.Pair (ws.getD i 0) (xs.getD i 0)
/-- What is taken, or reserved, of each slab. -/
def used (ws xs : List Nat) (i : Nat) : Nat := ws.getD i 0 ||| xs.getD i 0
theorem Good7.w64 {ws xs : List Nat} (h : Good7 ws xs) {i : Nat} (hi : i < ws.length) : ws.getD i 0 < 2 ^ 64 := P.lt64 (h.pair i hi).rw
theorem Good7.x64 {ws xs : List Nat} (h : Good7 ws xs) {i : Nat} (hi : i < ws.length) : xs.getD i 0 < 2 ^ 64 := P.lt64 (h.pair i hi).rx
/-- The shape's numbers are small. -/
structure ShOk (sh : V.Sh) (da : Nat) : Prop where
  data : sh.data = (da : Int)
  dmost : da ≤ 1000000
  table : 0 ≤ sh.table ∧ sh.table ≤ 1000000
section

variable {w : World} {y : Lay} {dv : Value} {sh : V.Sh} {ws xs : List Nat}

theorem PoAt.c0 (h : PoAt w y dv sh ws xs) : w.cell? ⟨y.P, 0, none⟩ = some dv := cell_of_row w _ 0 _ _ _ h.row
theorem PoAt.c1 (h : PoAt w y dv sh ws xs) : w.cell? ⟨y.P, 1, none⟩ = some (.int .i64 sh.lines) := cell_of_row w _ 1 _ _ _ h.row
theorem PoAt.c2 (h : PoAt w y dv sh ws xs) : w.cell? ⟨y.P, 2, none⟩ = some (.int .i64 sh.slabs) := cell_of_row w _ 2 _ _ _ h.row
theorem PoAt.c3 (h : PoAt w y dv sh ws xs) : w.cell? ⟨y.P, 3, none⟩ = some (.int .i64 sh.table) := cell_of_row w _ 3 _ _ _ h.row
theorem PoAt.c4 (h : PoAt w y dv sh ws xs) : w.cell? ⟨y.P, 4, none⟩ = some (.int .i64 sh.data) := cell_of_row w _ 4 _ _ _ h.row
theorem PoAt.c5 (h : PoAt w y dv sh ws xs) : w.cell? ⟨y.P, 5, none⟩ = some y.sv := cell_of_row w _ 5 _ _ _ h.row
theorem PoAt.c6 (h : PoAt w y dv sh ws xs) : w.cell? ⟨y.P, 6, none⟩ = some (.map (some y.M)) := cell_of_row w _ 6 _ _ _ h.row
theorem PoAt.sl (h : PoAt w y dv sh ws xs) : ∃ a cap, y.sv = .slice a ws.length cap ∧ ws.length ≤ cap ∧ cap ≤ maxLen ∧ ∀ i, i < ws.length → ∃ g, a = some ⟨g, 0, none⟩ ∧ w.cell? ⟨g, i, none⟩ = some (sptr y.S i) := by
  have hown := h.slabs
  rcases h.slabs.2 with ⟨h1, h2⟩ | ⟨g, cap, cur, h1, _, hg, h2, h3, _⟩
  · exact ⟨none, 0, by rw [h1, h2], by omega, Nat.zero_le _, fun i hi => by omega⟩
  · refine ⟨_, cap, h1, h2, h3, fun i hi => ⟨g, rfl, ?_⟩⟩
    rw [h1] at hown
    rw [hown.cellAt i (by omega)]
    simp [hi]

theorem po_made {a : Addr} (h : PoAt w y (.pointer (some a)) sh ws xs) : Calls Tryz.prog 31 #[.pointer (some ⟨y.P, 0, none⟩)] w fun e w' => e = .returned (.bool true) ∧ w = w' := by
  have h0 := h.c0
  clear h
  generalize y.P = p at *
  go_enter Tryz.func31, Tryz.ntmps31
  go_wp2
  go_ret
  exact ⟨rfl, rfl⟩
theorem po_wordPlace (h : PoAt w y dv sh ws xs) {da : Nat} (hs : ShOk sh da) (k : Nat) (hk : k ≤ 63) : Calls Tryz.prog 61 #[.pointer (some ⟨y.P, 0, none⟩), .int .i64 (k : Int)] w fun e w' => e = .returned (.int .i64 (sh.table + 8 * (k : Int))) ∧ w = w' := by
  have h0 := h.c3
  obtain ⟨t1, t2⟩ := hs.table
  clear h hs
  generalize y.P = p at *
  generalize sh.table = t at *
  have HE : Hid (t + 8 * (k : Int) = t + (k : Int) * 8) := by show _ = _; omega
  go_enter Tryz.func61, Tryz.ntmps61
  go_wp2
  go_ret
  exact ⟨by rw [HE.out]; rfl, rfl⟩
theorem po_place (h : PoAt w y dv sh ws xs) {da : Nat} (hs : ShOk sh da) {g i t u : Nat} (s : StkAt w g i t u) (hi : i ≤ 63) (ht : t < 2 ^ 64) (hu : u < 2 ^ 64) (b : Nat) (hb : b ≤ 16) :
    Calls Tryz.prog 37 #[.pointer (some ⟨y.P, 0, none⟩), .pointer (some ⟨g, 0, none⟩), .int .i64 (b : Int)] w fun e w' => e = .returned (.int .i64 (P.off da i (S.cls (t ||| u)) b : Nat)) ∧ ∃ m, w' = w.drewN m := by
  have h0 := h.c4
  rw [hs.data] at h0
  have h1 := s.c0
  have hd := hs.dmost
  have HB : Hid (∀ m, Calls Tryz.prog 78 #[.pointer (some ⟨g, 0, none⟩)] (w.drewN m) fun e w' => e = .returned (.int .i64 ((S.lns (S.cls (t ||| u) : Nat) * 64 : Nat) : Int)) ∧ ∃ k, w' = (w.drewN m).drewN k) := fun m => st_bytes (s.drewN m) ht hu
  have hl := lns_le (S.cls (t ||| u) : Nat)
  have hle2 : S.lns (S.cls (t ||| u) : Nat) * 64 ≤ 256 := by omega
  have hmul : b * (S.lns (S.cls (t ||| u) : Nat) * 64) ≤ 16 * 256 := Nat.mul_le_mul hb hle2
  have HE : Hid (((P.off da i (S.cls (t ||| u)) b : Nat) : Int) = (da : Int) + (i : Int) * 1024 + ((b * (S.lns (S.cls (t ||| u) : Nat) * 64) : Nat) : Int)) := by
    show _ = _
    unfold P.off
    rw [show 64 * b * S.lns (S.cls (t ||| u) : Nat) = b * (S.lns (S.cls (t ||| u) : Nat) * 64) by rw [Nat.mul_comm 64 b, Nat.mul_assoc, Nat.mul_comm 64]]
    omega
  rw [HE.out]
  clear h hs s ht hu hl HE
  generalize hz : S.lns (S.cls (t ||| u) : Nat) * 64 = z at *
  clear hz
  obtain ⟨bz, hbz⟩ : ∃ bz, b * z = bz := ⟨_, rfl⟩
  have e1 : (b : Int) * (z : Int) = (bz : Int) := by rw [← hbz]; simp
  rw [hbz] at hmul ⊢
  have hm2 : bz ≤ 4096 := by omega
  clear hmul hbz
  generalize y.P = p at *
  go_enter Tryz.func37, Tryz.ntmps37
  go_wp2_with fail
  go_quiet ((go_at_call 78; first | exact Calls.quiet_of (HB.out _) | exact Calls.quiet_of (HB.out 0) | exact Calls.quiet_of (HB.out 1)))
  go_wp2
  go_ret
  exact ⟨rfl, _, rfl⟩
end

end Go.Proofs.YtaceogpdjbikiaaGreatDoor
