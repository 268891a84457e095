
/- Layer 7: the block that a place is: find; Class; Shape. -/
import Derived.Test.YtaceogpdjbikiaaGreatDoorPoC
namespace Go.Proofs.YtaceogpdjbikiaaGreatDoor

open Go.RowKit

/-- The place x is block b of slab i, taken, reserved, or free, by the slab's class. -/
def Stands (da : Nat) (ws xs : List Nat) (x : Int) (i b : Nat) : Prop := i < ws.length ∧ b < S.blk (S.cls (used ws xs i)) ∧ x = (P.off da i (S.cls (used ws xs i)) b : Nat)
theorem Stands.one {da : Nat} {ws xs : List Nat} {x : Int} {i b i' b' : Nat} (h : Stands da ws xs x i b) (h' : Stands da ws xs x i' b') : i = i' ∧ b = b' := by
  have e : P.off da i (S.cls (used ws xs i)) b = P.off da i' (S.cls (used ws xs i')) b' := by have := h.2.2.symm.trans h'.2.2; omega
  obtain ⟨rfl, _⟩ := P.off_slab h.2.1 h'.2.1 e
  exact ⟨rfl, P.off_block h.2.1 h'.2.1 e⟩
theorem Stands.lt {da : Nat} {ws xs : List Nat} {x : Int} {i b : Nat} (h : Stands da ws xs x i b) : b < 16 := Nat.lt_of_lt_of_le h.2.1 (S.blk_le _)
/-- By reckoning. -/
theorem stands_of {da : Nat} {ws xs : List Nat} {r : Nat} (hi : r / 1024 < ws.length) (hl : S.lns (S.cls (used ws xs (r / 1024))) * 64 ≠ 0) (hm : (r % 1024) % (S.lns (S.cls (used ws xs (r / 1024))) * 64) = 0) :
    Stands da ws xs ((da + r : Nat) : Int) (r / 1024) ((r % 1024) / (S.lns (S.cls (used ws xs (r / 1024))) * 64)) := by
  have hc := S.cls_le (used ws xs (r / 1024))
  refine ⟨hi, ?_, ?_⟩
  · generalize S.cls (used ws xs (r / 1024)) = c at *
    obtain rfl | rfl | rfl : c = 0 ∨ c = 1 ∨ c = 2 := by omega
    · exact absurd rfl hl
    · show _ < 16
      have e : S.lns ((1 : Nat) : Int) * 64 = 64 := rfl
      rw [e]; omega
    · show _ < 4
      have e : S.lns ((2 : Nat) : Int) * 64 = 256 := rfl
      rw [e]; omega
  · unfold P.off
    generalize S.cls (used ws xs (r / 1024)) = c at *
    obtain rfl | rfl | rfl : c = 0 ∨ c = 1 ∨ c = 2 := by omega
    · exact absurd rfl hl
    · have e : S.lns ((1 : Nat) : Int) = 1 := rfl
      rw [e] at hm ⊢
      omega
    · have e : S.lns ((2 : Nat) : Int) = 4 := rfl
      rw [e] at hm ⊢
      omega
theorem stands_inv {da : Nat} {ws xs : List Nat} {x : Int} {i b : Nat} (h : Stands da ws xs x i b) : ∃ r, x = ((da + r : Nat) : Int) ∧ r / 1024 = i ∧ S.lns (S.cls (used ws xs i)) * 64 ≠ 0 ∧ (r % 1024) % (S.lns (S.cls (used ws xs i)) * 64) = 0 := by
  obtain ⟨h1, h2, h3⟩ := h
  refine ⟨1024 * i + 64 * b * S.lns (S.cls (used ws xs i)), by rw [h3]; unfold P.off; omega, ?_⟩
  rcases P.lns_blk h2 with ⟨_, h4, h5⟩ | ⟨_, h4, h5⟩ <;> rw [h5] <;> omega
/-- What find leaves: the slab and the block, or a slab that has nothing. -/
def FindPost (w : World) (y : Lay) (da : Nat) (ws xs : List Nat) (x : Int) (e : Ending) (w' : World) : Prop :=
  (∃ i b, Stands da ws xs x i b ∧ e = .returned (.tuple #[sptr y.S i, .int .i64 (b : Int)]) ∧ ∃ m, w' = w.drewN m) ∨
  ((∀ i b, ¬ Stands da ws xs x i b) ∧ ∃ g, e = .returned (.tuple #[.pointer (some ⟨g, 0, none⟩), .int .i64 0]) ∧ StkAt w' g 0 0 0 ∧ w.heap.size ≤ g ∧ Below w.heap.size w w')
section

variable {w : World} {y : Lay} {sh : V.Sh} {ws xs : List Nat} {a : Addr} {da : Nat}

theorem zero_stk (w : World) : StkAt (w.alloc (.cells #[.int .i64 0, .int .u64 0, .int .u64 0] 93 (0, 0))) w.heap.size 0 0 0 := heap_alloc_new w _
theorem FindPost.none {x : Int} (m : Nat) (h : ∀ i b, ¬ Stands da ws xs x i b) : FindPost w y da ws xs x (.returned (.tuple #[.pointer (some ⟨w.heap.size, 0, none⟩), .int .i64 0])) ((w.drewN m).alloc (.cells #[.int .i64 0, .int .u64 0, .int .u64 0] 93 (0, 0))) :=
  .inr ⟨h, w.heap.size, rfl, zero_stk _, Nat.le_refl _, (below_drewN' (Below.refl _ _) m).alloc (Nat.le_refl _) _⟩
set_option maxHeartbeats 1000000 in
set_option maxRecDepth 100000 in
theorem po_find (h : PoAt w y (.pointer (some a)) sh ws xs) (hs : ShOk sh da) (hg : Good7 ws xs) (x : Int) (hx : I64 x) :
    Calls Tryz.prog 43 #[.pointer (some ⟨y.P, 0, none⟩), .int .i64 x] w (FindPost w y da ws xs x) := by
  have HM := Lib.hid (po_made h)
  have h4 := h.c4
  rw [hs.data] at h4
  have h5 := h.c5
  have hd := hs.dmost
  obtain ⟨A, cap, hsv, hc1, hc2, hcell⟩ := h.sl
  rw [hsv] at h5
  obtain ⟨hx1, hx2⟩ := hx
  by_cases hlo : x < (da : Int)
  · have HP : Hid (FindPost w y da ws xs x (.returned (.tuple #[.pointer (some ⟨w.heap.size, 0, none⟩), .int .i64 0])) (w.alloc (.cells #[.int .i64 0, .int .u64 0, .int .u64 0] 93 (0, 0)))) := FindPost.none 0 (fun i b hst => by
      obtain ⟨r, e, _⟩ := stands_inv hst; omega)
    clear h hs hg hcell hsv h5
    generalize y.P = p at *
    go_enter Tryz.func43, Tryz.ntmps43
    go_wp2_with fail
    refine HM.out.mono ?_
    rintro e w1 ⟨rfl, rfl⟩
    go_wp2
    go_ret2
    exact HP.out
  · obtain ⟨r, hr⟩ : ∃ r : Nat, x = ((da + r : Nat) : Int) := ⟨(x - da).toNat, by omega⟩
    have e1 : x - (da : Int) = (r : Int) := by omega
    obtain ⟨k, hk⟩ : ∃ k, r / 1024 = k := ⟨_, rfl⟩
    obtain ⟨q, hq⟩ : ∃ q, r % 1024 = q := ⟨_, rfl⟩
    have e2 : (r : Int) / 1024 = (k : Int) := by omega
    have e3 : (r : Int) % 1024 = (q : Int) := by omega
    have hr9 : (r : Int) ≤ 9223372036854775807 := by omega
    have hq9 : q < 1024 := by omega
    have hk9 : (k : Int) ≤ 9223372036854775807 := by omega
    by_cases hkn : k < ws.length
    · obtain ⟨g, rfl, hck⟩ := hcell k hkn
      have hst := h.stock k hkn
      have ht := hg.w64 hkn
      have hu := hg.x64 hkn
      have HB : Hid (∀ m, Calls Tryz.prog 78 #[.pointer (some ⟨y.S k, 0, none⟩)] (w.drewN m) fun e w' => e = .returned (.int .i64 ((S.lns (S.cls (used ws xs k) : Nat) * 64 : Nat) : Int)) ∧ ∃ j, w' = (w.drewN m).drewN j) := fun m => st_bytes (hst.drewN m) ht hu
      have hm63 := hg.most
      have hle : S.lns (S.cls (used ws xs k) : Nat) * 64 ≤ 256 := by have := lns_le (S.cls (used ws xs k) : Nat); omega
      by_cases hz : S.lns (S.cls (used ws xs k) : Nat) * 64 = 0
      · have HP : Hid (∀ m, FindPost w y da ws xs x (.returned (.tuple #[.pointer (some ⟨w.heap.size, 0, none⟩), .int .i64 0])) ((w.drewN m).alloc (.cells #[.int .i64 0, .int .u64 0, .int .u64 0] 93 (0, 0)))) := fun m => FindPost.none m (fun i b hst => by
          obtain ⟨r', e, e4, e5, _⟩ := stands_inv hst
          have : i = k := by omega
          rw [this] at e5; exact e5 hz)
        rw [hz] at HB
        unfold sptr at hck
        clear h hs hg hcell hsv hst ht hu hz hle hk hq hr
        generalize y.P = p at *
        generalize y.S k = sk at *
        generalize ws.length = n at *
        go_enter Tryz.func43, Tryz.ntmps43
        go_wp2_with fail
        refine HM.out.mono ?_
        rintro e w1 ⟨rfl, rfl⟩
        go_wp2_with fail
        go_quiet (fail)
        go_wp2_with fail
        refine (HB.out _).mono ?_
        rintro e w2 ⟨rfl, m, rfl⟩
        go_wp2
        go_ret2
        first | exact HP.out _ | (rw [World.drewN_drewN]; exact HP.out _)
      · obtain ⟨z, hzz⟩ : ∃ z, S.lns (S.cls (used ws xs k) : Nat) * 64 = z := ⟨_, rfl⟩
        rw [hzz] at HB hle hz
        have hz0 : (z : Int) ≠ 0 := by omega
        obtain ⟨t, ht9⟩ : ∃ t, q % z = t := ⟨_, rfl⟩
        obtain ⟨b, hb9⟩ : ∃ b, q / z = b := ⟨_, rfl⟩
        have e4 : (q : Int) % (z : Int) = (t : Int) := by rw [← ht9]; rfl
        have e5 : (q : Int) / (z : Int) = (b : Int) := by rw [← hb9]; rfl
        have hbq : b ≤ 1024 := by rw [← hb9]; exact Nat.le_trans (Nat.div_le_self _ _) (by omega)
        have htq : t ≤ 1024 := by rw [← ht9]; exact Nat.le_trans (Nat.mod_le _ _) (by omega)
        by_cases ht0 : t = 0
        · have HP : Hid (∀ m, FindPost w y da ws xs x (.returned (.tuple #[.pointer (some ⟨y.S k, 0, none⟩), .int .i64 (b : Int)])) (w.drewN m)) := fun m => .inl ⟨k, b, by
            have h9 := stands_of (da := da) (ws := ws) (xs := xs) (r := r) (by rw [hk]; exact hkn) (by rw [hk, hzz]; exact hz) (by rw [hk, hq, hzz, ht9]; exact ht0)
            rw [← hr, hk, hq, hzz, hb9] at h9
            exact h9, rfl, m, rfl⟩
          subst ht0
          unfold sptr at hck
          clear h hs hg hcell hsv hst ht hu hzz ht9 hb9 hk hq hr
          generalize y.P = p at *
          generalize y.S k = sk at *
          generalize ws.length = n at *
          go_enter Tryz.func43, Tryz.ntmps43
          go_wp2_with fail
          refine HM.out.mono ?_
          rintro e w1 ⟨rfl, rfl⟩
          go_wp2_with fail
          go_quiet (fail)
          go_wp2_with fail
          refine (HB.out _).mono ?_
          rintro e w2 ⟨rfl, m, rfl⟩
          go_wp2_with fail
          go_quiet (fail)
          go_wp2
          go_ret2
          first | exact HP.out _ | (rw [World.drewN_drewN]; exact HP.out _)
        · have HP : Hid (∀ m, FindPost w y da ws xs x (.returned (.tuple #[.pointer (some ⟨w.heap.size, 0, none⟩), .int .i64 0])) ((w.drewN m).alloc (.cells #[.int .i64 0, .int .u64 0, .int .u64 0] 93 (0, 0)))) := fun m => FindPost.none m (fun i b hst => by
            obtain ⟨r', e, e4, _, e6⟩ := stands_inv hst
            have h7 : i = k := by omega
            have h8 : r' = r := by omega
            rw [h7, h8, hzz, hq, ht9] at e6
            exact ht0 e6)
          have htb : ((t : Int) != 0) = true := by simp; omega
          unfold sptr at hck
          clear h hs hg hcell hsv hst ht hu hzz ht9 hb9 hk hq hr
          generalize y.P = p at *
          generalize y.S k = sk at *
          generalize ws.length = n at *
          go_enter Tryz.func43, Tryz.ntmps43
          go_wp2_with fail
          refine HM.out.mono ?_
          rintro e w1 ⟨rfl, rfl⟩
          go_wp2_with fail
          go_quiet (fail)
          go_wp2_with fail
          refine (HB.out _).mono ?_
          rintro e w2 ⟨rfl, m, rfl⟩
          go_wp2
          go_ret2
          first | exact HP.out _ | (rw [World.drewN_drewN]; exact HP.out _)
    · have HP : Hid (∀ m, FindPost w y da ws xs x (.returned (.tuple #[.pointer (some ⟨w.heap.size, 0, none⟩), .int .i64 0])) ((w.drewN m).alloc (.cells #[.int .i64 0, .int .u64 0, .int .u64 0] 93 (0, 0)))) := fun m => FindPost.none m (fun i b hst => by
        obtain ⟨r', e, e4, _, _⟩ := stands_inv hst
        have := hst.1; omega)
      have hm63 := hg.most
      clear h hs hg hcell hsv hk hq hr
      generalize y.P = p at *
      generalize ws.length = n at *
      go_enter Tryz.func43, Tryz.ntmps43
      go_wp2_with fail
      refine HM.out.mono ?_
      rintro e w1 ⟨rfl, rfl⟩
      go_wp2_with fail
      go_quiet (fail)
      go_wp2
      go_ret2
      first | exact HP.out _ | (rw [World.drewN_drewN]; exact HP.out _)
end

end Go.Proofs.YtaceogpdjbikiaaGreatDoor
