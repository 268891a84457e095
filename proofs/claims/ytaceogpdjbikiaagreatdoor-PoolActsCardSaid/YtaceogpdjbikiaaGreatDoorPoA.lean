
/- Layer 7: a slab as the pool knows it, in a block of its own: what is used of it, its class, how long its blocks are, does it fit, one more is reserved. -/
import Derived.Test.YtaceogpdjbikiaaGreatDoorPqE
import Derived.Test.YtaceogpdjbikiaaGreatDoorPpM
import Derived.Test.YtaceogpdjbikiaaGreatDoorSl
namespace Go.Proofs.YtaceogpdjbikiaaGreatDoor

open Go.RowKit

/-- A slab in block g: its number, what is taken, what is reserved. -/
def StkAt (w : World) (g i t h : Nat) : Prop := w.heap[g]? = some (.cells #[.int .i64 (i : Int), .int .u64 (t : Int), .int .u64 (h : Int)] 93 (0, 0))
section

variable {w : World} {g i t h : Nat}

theorem StkAt.c0 (s : StkAt w g i t h) : w.cell? ⟨g, 0, none⟩ = some (.int .i64 (i : Int)) := cell_of_row w g 0 _ _ _ s
theorem StkAt.c1 (s : StkAt w g i t h) : w.cell? ⟨g, 1, none⟩ = some (.int .u64 (t : Int)) := cell_of_row w g 1 _ _ _ s
theorem StkAt.c2 (s : StkAt w g i t h) : w.cell? ⟨g, 2, none⟩ = some (.int .u64 (h : Int)) := cell_of_row w g 2 _ _ _ s
theorem StkAt.fr (s : StkAt w g i t h) (j : Nat) : w.frozen? ⟨g, j, none⟩ = false := frozen_of_row w g j _ _ s
theorem StkAt.lt (s : StkAt w g i t h) : g < w.heap.size := (Array.getElem?_eq_some_iff.1 s).1
theorem StkAt.drewN (s : StkAt w g i t h) (m : Nat) : StkAt (w.drewN m) g i t h := s
theorem StkAt.keep {w' : World} (s : StkAt w g i t h) (hk : w'.heap[g]? = w.heap[g]?) : StkAt w' g i t h := hk.trans s
theorem StkAt.only {w' : World} {F : List Nat} (s : StkAt w g i t h) (ho : Only F w w') (hF : g ∉ F) : StkAt w' g i t h := s.keep (ho.block g s.lt hF)
theorem StkAt.setT (s : StkAt w g i t h) (u : Nat) : StkAt (w.setCell ⟨g, 1, none⟩ (.int .u64 (u : Int))) g i u h := by
  unfold StkAt
  rw [heap_setCell_same w g 1 _ _ _ s]; rfl
theorem StkAt.setH (s : StkAt w g i t h) (u : Nat) : StkAt (w.setCell ⟨g, 2, none⟩ (.int .u64 (u : Int))) g i t u := by
  unfold StkAt
  rw [heap_setCell_same w g 2 _ _ _ s]; rfl
end

theorem st_used {w : World} {g i t h : Nat} (s : StkAt w g i t h) (ht : t < 2 ^ 64) (hh : h < 2 ^ 64) :
    Calls Tryz.prog 76 #[.pointer (some ⟨g, 0, none⟩)] w fun e w' => e = .returned (.int .u64 ((t ||| h : Nat) : Int)) ∧ ∃ m, w' = w.drewN m := by
  have h1 := s.c1
  have h2 := s.c2
  have hor := u64_or_nat t h ht hh
  clear s ht hh
  generalize t ||| h = u at *
  go_enter Tryz.func76, Tryz.ntmps76
  go_wp2_with fail
  go_quiet (fail)
  go_wp2
  go_ret
  exact ⟨rfl, _, rfl⟩
theorem st_class {w : World} {g i t h : Nat} (s : StkAt w g i t h) (ht : t < 2 ^ 64) (hh : h < 2 ^ 64) :
    Calls Tryz.prog 50 #[.pointer (some ⟨g, 0, none⟩)] w fun e w' => e = .returned (.int .i64 (S.cls (t ||| h) : Nat)) ∧ ∃ m, w' = w.drewN m := by
  have HU := Lib.hid (st_used s ht hh)
  have hlt : t ||| h < 2 ^ 64 := Nat.or_lt_two_pow ht hh
  have HC : Hid (∀ W : World, Calls Tryz.prog 85 #[.int .u64 ((t ||| h : Nat) : Int)] W fun e w' => e = .returned (.int .i64 (S.cls (t ||| h) : Nat)) ∧ ∃ m, w' = W.drewN m) := fun W => sl_class _ W hlt
  clear s ht hh hlt
  generalize S.cls (t ||| h) = c at *
  generalize t ||| h = u at *
  go_enter Tryz.func50, Tryz.ntmps50
  go_wp2_with fail
  refine HU.out.mono ?_
  rintro e w1 ⟨rfl, m, rfl⟩
  go_wp2_with fail
  refine (HC.out _).mono ?_
  rintro e w2 ⟨rfl, m2, rfl⟩
  go_wp2
  go_ret
  exact ⟨rfl, by first | exact ⟨_, World.drewN_drewN ..⟩ | exact ⟨_, rfl⟩⟩
theorem lns_le (c : Int) : S.lns c ≤ 4 := by unfold S.lns; split; omega; split <;> omega
theorem st_bytes {w : World} {g i t h : Nat} (s : StkAt w g i t h) (ht : t < 2 ^ 64) (hh : h < 2 ^ 64) :
    Calls Tryz.prog 78 #[.pointer (some ⟨g, 0, none⟩)] w fun e w' => e = .returned (.int .i64 ((S.lns (S.cls (t ||| h) : Nat) * 64 : Nat) : Int)) ∧ ∃ m, w' = w.drewN m := by
  have HC := Lib.hid (st_class s ht hh)
  have HL : Hid (∀ W : World, Calls Tryz.prog 72 #[.int .i64 (S.cls (t ||| h) : Nat)] W fun e w' => e = .returned (.int .i64 (S.lns (S.cls (t ||| h) : Nat) : Nat)) ∧ ∃ m, w' = W.drewN m) := fun W => sl_lines _ W
  have hle := lns_le (S.cls (t ||| h) : Nat)
  clear s ht hh
  generalize S.lns (S.cls (t ||| h) : Nat) = l at *
  generalize S.cls (t ||| h) = c at *
  have he : (l : Int) * 64 = ((l * 64 : Nat) : Int) := by omega
  have HE : Hid (((l * 64 : Nat) : Int) = (l : Int) * 64) := he.symm
  clear he
  go_enter Tryz.func78, Tryz.ntmps78
  go_wp2_with fail
  refine HC.out.mono ?_
  rintro e w1 ⟨rfl, m, rfl⟩
  go_wp2_with fail
  refine (HL.out _).mono ?_
  rintro e w2 ⟨rfl, m2, rfl⟩
  go_wp2
  go_ret
  exact ⟨by rw [HE.out]; rfl, by first | exact ⟨_, World.drewN_drewN ..⟩ | exact ⟨_, rfl⟩⟩
/-- Has a slab with that word room, or is it free, for that class? -/
def room (u : Nat) (c : Int) : Bool := decide ((S.cls u : Int) = c) && (decide (c = 0) || decide (0 ≤ S.nxt u c))
set_option maxRecDepth 100000 in
theorem st_fits {w : World} {g i t h : Nat} (s : StkAt w g i t h) (ht : t < 2 ^ 64) (hh : h < 2 ^ 64) (hT : TabAt 1 Lib.deBruijn64tab w) (c : Int) :
    Calls Tryz.prog 34 #[.int .i64 c, .pointer (some ⟨g, 0, none⟩)] w fun e w' => e = .returned (.bool (room (t ||| h) c)) ∧ ∃ m, w' = w.drewN m := by
  have HC := Lib.hid (st_class s ht hh)
  have HU : Hid (∀ m, Calls Tryz.prog 76 #[.pointer (some ⟨g, 0, none⟩)] (w.drewN m) fun e w' => e = .returned (.int .u64 ((t ||| h : Nat) : Int)) ∧ ∃ k, w' = (w.drewN m).drewN k) := fun m => st_used (s.drewN m) ht hh
  have hlt : t ||| h < 2 ^ 64 := Nat.or_lt_two_pow ht hh
  have HN : Hid (∀ m, Calls Tryz.prog 75 #[.int .u64 ((t ||| h : Nat) : Int), .int .i64 c] (w.drewN m) fun e w' => e = .returned (.int .i64 (S.nxt (t ||| h) c)) ∧ ∃ k, w' = (w.drewN m).drewN k) := fun m => sl_next _ c (w.drewN m) hlt hT
  clear s ht hh hT hlt
  unfold room
  by_cases hc : (S.cls (t ||| h) : Int) = c
  · rw [hc] at HC
    rw [decide_eq_true hc, Bool.true_and]
    by_cases h0 : c = 0
    · rw [decide_eq_true h0, Bool.true_or]
      subst h0
      clear hc HN HU
      go_enter Tryz.func34, Tryz.ntmps34
      go_wp2_with fail
      refine HC.out.mono ?_
      rintro e w1 ⟨rfl, m, rfl⟩
      go_wp2
      go_ret
      exact ⟨rfl, _, rfl⟩
    · rw [decide_eq_false h0, Bool.false_or]
      generalize hx : S.nxt (t ||| h) c = x at *
      clear hc hx
      generalize t ||| h = u at *
      have HB : Hid ((c == 0 || decide (0 ≤ x)) = decide (0 ≤ x)) := by show _ = _; simp [h0]
      go_enter Tryz.func34, Tryz.ntmps34
      go_wp2_with fail
      refine HC.out.mono ?_
      rintro e w1 ⟨rfl, m, rfl⟩
      go_wp2_with fail
      refine (HU.out m).mono ?_
      rintro e w2 ⟨rfl, m2, hw2⟩
      rw [World.drewN_drewN] at hw2
      subst hw2
      go_wp2_with fail
      refine (HN.out _).mono ?_
      rintro e w3 ⟨rfl, m3, rfl⟩
      go_wp2
      go_ret
      exact ⟨ret_bool HB.out, by first | exact ⟨_, World.drewN_drewN ..⟩ | exact ⟨_, rfl⟩⟩
  · rw [decide_eq_false hc, Bool.false_and]
    generalize hg : S.cls (t ||| h) = k at *
    clear hg HN HU
    go_enter Tryz.func34, Tryz.ntmps34
    go_wp2_with fail
    refine HC.out.mono ?_
    rintro e w1 ⟨rfl, m, rfl⟩
    go_wp2
    go_ret
    exact ⟨rfl, _, rfl⟩
/-- One block more is reserved. -/
theorem st_hold {w : World} {g i t h : Nat} (s : StkAt w g i t h) (ht : t < 2 ^ 64) (hh : h < 2 ^ 64) (hT : TabAt 1 Lib.deBruijn64tab w) (c : Int) :
    Calls Tryz.prog 35 #[.pointer (some ⟨g, 0, none⟩), .int .i64 c] w fun e w' => e = .returned (.int .i64 (S.nxt (t ||| h) c)) ∧ ∃ m, w' = (w.drewN m).setCell ⟨g, 2, none⟩ (.int .u64 (S.tkW h c (S.nxt (t ||| h) c) : Nat)) := by
  have HU := Lib.hid (st_used s ht hh)
  have hlt : t ||| h < 2 ^ 64 := Nat.or_lt_two_pow ht hh
  have HN : Hid (∀ m, Calls Tryz.prog 75 #[.int .u64 ((t ||| h : Nat) : Int), .int .i64 c] (w.drewN m) fun e w' => e = .returned (.int .i64 (S.nxt (t ||| h) c)) ∧ ∃ k, w' = (w.drewN m).drewN k) := fun m => sl_next _ c (w.drewN m) hlt hT
  have HTK : Hid (∀ W : World, Calls Tryz.prog 49 #[.int .u64 (h : Int), .int .i64 c, .int .i64 (S.nxt (t ||| h) c)] W fun e w' => e = .returned (.tuple #[.int .u64 (S.tkW h c (S.nxt (t ||| h) c) : Nat), .bool (S.tak h c (S.nxt (t ||| h) c))]) ∧ ∃ m, w' = W.drewN m) := fun W => sl_take h c _ W hh
  have h2 := s.c2
  have hf := s.fr 2
  clear s ht hh hT hlt
  generalize S.tkW h c (S.nxt (t ||| h) c) = h' at *
  generalize S.tak h c (S.nxt (t ||| h) c) = b at *
  generalize S.nxt (t ||| h) c = x at *
  generalize t ||| h = u at *
  go_enter Tryz.func35, Tryz.ntmps35
  go_wp2_with fail
  refine HU.out.mono ?_
  rintro e w1 ⟨rfl, m, rfl⟩
  go_wp2_with fail
  refine (HN.out m).mono ?_
  rintro e w2 ⟨rfl, m2, hw2⟩
  rw [World.drewN_drewN] at hw2
  subst hw2
  go_wp2_with fail
  refine (HTK.out _).mono ?_
  rintro e w3 ⟨rfl, m3, hw3⟩
  rw [World.drewN_drewN] at hw3
  subst hw3
  go_wp2
  go_ret
  exact ⟨rfl, _, rfl⟩
end Go.Proofs.YtaceogpdjbikiaaGreatDoor
