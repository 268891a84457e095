
/- PoolApart: the map of the sizes, and that of the places that were met. -/
import Derived.Test.YtaceogpdjbikiaaDoorPoApM
import Derived.Test.YtaceogpdjbikiaaDoorPoAcT
import Derived.Maps.OwnSet
import Derived.Maps.RangeWalk
namespace Go.Proofs.YtaceogpdjbikiaaDoor

open Go.RowKit Go.Maps

theorem zeroI (w : World) : (zeroValue 3).run Tryd.prog w = .ok (.int .i64 0) w := by kernel_rfl
theorem keyX {x : Int} (hx : I64 x) : keyOf Tryd.prog 3 (.int .i64 x) = some (.int .i64 x) := keyOf_int_mk Tryd.underlying3 (by
  unfold I64 at hx
  simp [Lit.wf, IntKind.min, IntKind.max, IntKind.signed, IntKind.bits]; omega)
/-- A map from places to numbers. -/
abbrev MapI (w : World) (b n : Nat) (D : DataW Unit) : Prop := w.ownsMap Tryd.prog 3 (plainElem (H := Unit) Tryd.prog 3) b n D
theorem MapI.look {w : World} {b n : Nat} {D : DataW Unit} (h : MapI w b n D) {x c : Int} (hx : I64 x) (hc : D.atKey (.int .i64 x) (.lit (.int .i64 0)) = .lit (.int .i64 c)) :
    (Instr.lookup 29 (.map (some b)) (.int .i64 x) false).run Tryd.prog w = .ok (.int .i64 c) w := by
  obtain ⟨c', hrun, hat, _⟩ := World.ownsMap.lookup_int h lawI Tryd.underlying29 Tryd.underlying3 (zeroI w) (keyX hx)
  rw [hc] at hat
  simp only [DataW.lit.injEq, Lit.int.injEq, true_and] at hat
  rw [hrun, ← hat]
theorem MapI.keep {w w' : World} {b n : Nat} {D : DataW Unit} (h : MapI w b n D) (hb : w'.heap[b]? = w.heap[b]?) : MapI w' b n D := by
  obtain ⟨es, clock, h1, h2⟩ := h
  exact ⟨es, clock, hb.trans h1, h2⟩
/-- The map reads as the sizes. -/
def SzIs (D : DataW Unit) (ws xs : List Nat) : Prop := ∀ (x : Int) (zd : DataW Unit), D.atKey (.int .i64 x) zd = if sz ws xs x = 0 then zd else .lit (.int .i64 (sz ws xs x))
theorem key_ne {x y : Int} (h : y ≠ x) : (Lit.int .i64 y) ≠ (Lit.int .i64 x) := fun e => h (by cases e; rfl)
section

variable {D : DataW Unit} {ws xs ws' xs' : List Nat} {x : Int}

theorem SzIs.zeros (s : Nat) : SzIs (.map []) (List.replicate s 0) (List.replicate s 0) := by
  intro x zd
  have h0 : sz (List.replicate s 0) (List.replicate s 0) x = 0 := by
    unfold sz
    refine szL_none (fun i b h => ?_)
    have hl := h.1
    rw [both_len, List.length_replicate] at hl
    have h1 := h.2.1
    rw [both_get (by rw [List.length_replicate]; exact hl)] at h1
    have e : used (List.replicate s 0) (List.replicate s 0) i = 0 := by
      unfold used
      rw [List.getD_eq_getElem?_getD, List.getElem?_replicate]; split <;> rfl
    rw [e, show S.tkn 0 = 0 from rfl, Nat.zero_testBit] at h1; cases h1
  rw [if_pos h0]; rfl
theorem SzIs.zero_at (h : SzIs D ws xs) : D.atKey (.int .i64 x) (.lit (.int .i64 0)) = .lit (.int .i64 (sz ws xs x)) := by
  rw [h x]
  split
  · rename_i e; rw [e]
  · rfl
theorem SzIs.put {v : Int} (h : SzIs D ws xs) (hD : IsMap D) (hv : sz ws' xs' x = v) (hv0 : v ≠ 0) (ho : ∀ y, y ≠ x → sz ws' xs' y = sz ws xs y) : SzIs (D.put (.int .i64 x) (.lit (.int .i64 v))) ws' xs' := by
  intro y zd
  by_cases e : y = x
  · subst e
    rw [atKey_put_same hD (by simp [WideAt.IsKeyLit]), hv, if_neg hv0]
  · rw [atKey_put_other (key_ne e), h y, ho y e]
theorem SzIs.del (h : SzIs D ws xs) (hv : sz ws' xs' x = 0) (ho : ∀ y, y ≠ x → sz ws' xs' y = sz ws xs y) : SzIs (D.del (.int .i64 x)) ws' xs' := by
  intro y zd
  by_cases e : y = x
  · subst e
    rw [atKey_del_same, hv, if_pos rfl]
  · rw [atKey_del_other (key_ne e), h y, ho y e]
theorem SzIs.like (h : SzIs D ws xs) (ho : ∀ y, sz ws' xs' y = sz ws xs y) : SzIs D ws' xs' := fun y zd => by rw [h y, ho y]
/-- An entry of it is a block. -/
theorem SzIs.entry {c : Int} (h : SzIs D ws xs) (hat : ∀ zd, D.atKey (.int .i64 x) zd = .lit (.int .i64 c)) : sz ws xs x = c ∧ c ≠ 0 := by
  by_cases e : sz ws xs x = 0
  · have h1 := hat (.lit (.int .i64 0))
    have h2 := hat (.lit (.int .i64 1))
    rw [h x, if_pos e] at h1 h2
    simp only [DataW.lit.injEq, Lit.int.injEq, true_and] at h1 h2
    omega
  · have h1 := hat (.lit (.int .i64 0))
    rw [h x, if_neg e] at h1
    simp only [DataW.lit.injEq, Lit.int.injEq, true_and] at h1
    exact ⟨h1, fun e2 => e (by rw [h1]; exact e2)⟩
/-- What is still to come has met nothing. -/
def Todo (ws xs : List Nat) (left : Lit → Bool) (D : DataW Unit) : Prop := ∀ y : Int, left (.int .i64 y) = true → ∀ b, y ≤ b → b < y + sz ws xs y → D.atKey (.int .i64 b) (.lit (.int .i64 0)) = .lit (.int .i64 0)
theorem Todo.start (left : Lit → Bool) : Todo ws xs left (.map []) := fun _ _ _ _ _ => rfl
theorem strikes {left : Lit → Bool} {y : Int} (h : (left (.int .i64 y) && !(Lit.int .i64 y).sameKey (.int .i64 x)) = true) : left (.int .i64 y) = true ∧ y ≠ x := by
  simp only [Bool.and_eq_true, Bool.not_eq_true'] at h
  refine ⟨h.1, fun e => ?_⟩
  subst e
  rw [WideAt.sameKey_self (by simp [WideAt.IsKeyLit])] at h
  cases h.2
theorem Todo.strike {left : Lit → Bool} (h : Todo ws xs left D) : Todo ws xs (fun z => left z && !z.sameKey (.int .i64 x)) D := fun y hy b h1 h2 => h y (strikes hy).1 b h1 h2
theorem Todo.put {left : Lit → Bool} {b v : Int} (h : Todo ws xs (fun z => left z && !z.sameKey (.int .i64 x)) D) (hx : sz ws xs x ≠ 0) (h1 : x ≤ b) (h2 : b < x + sz ws xs x) : Todo ws xs (fun z => left z && !z.sameKey (.int .i64 x)) (D.put (.int .i64 b) (.lit (.int .i64 v))) := by
  intro y hy c hc1 hc2
  have hyx := (strikes hy).2
  have hsy : sz ws xs y ≠ 0 := fun e => by rw [e] at hc2; omega
  have hne : c ≠ b := by
    intro e
    subst e
    rcases sz_apart hsy hx hyx with h3 | h3 <;> omega
  rw [atKey_put_other (key_ne hne)]
  exact h y hy c hc1 hc2
/-- The rest of a block that is being met. -/
def Rest (D : DataW Unit) (b e : Int) : Prop := ∀ c, b ≤ c → c < e → D.atKey (.int .i64 c) (.lit (.int .i64 0)) = .lit (.int .i64 0)
theorem Rest.put {b e v : Int} (h : Rest D b e) (b' : Int) (hb : b < b') : Rest (D.put (.int .i64 b) (.lit (.int .i64 v))) b' e := by
  intro c h1 h2
  rw [atKey_put_other (key_ne (by omega))]
  exact h c (by omega) h2
end

/-- A size's form. -/
theorem sz_form {ws xs : List Nat} {x : Int} {s : Nat} (hw : ws.length = s) (h : sz ws xs x ≠ 0) : ∃ X K m : Nat, x = (X : Int) ∧ sz ws xs x = (K : Int) ∧ K = 64 * m ∧ 1 ≤ m ∧ m ≤ 4 ∧ 192 ≤ X ∧ X + K ≤ 192 + 1024 * s ∧ X % 64 = 0 := by
  obtain ⟨X, e1, h1, h2, h3⟩ := sz_within hw h
  rcases sz_size h with e | e
  · exact ⟨X, 64, 1, e1, e, rfl, by decide, by decide, h1, by rw [e] at h2; omega, h3⟩
  · exact ⟨X, 256, 4, e1, e, rfl, by decide, by decide, h1, by rw [e] at h2; omega, h3⟩
end Go.Proofs.YtaceogpdjbikiaaDoor
