/- Plain mathematics of layer 3 for NvmActs: a line as the list of its contents, the oldest first. -/
import Derived.Test.YtmamcliidlmghaaNvB
namespace Go.Proofs.Ytmamcliidlmghaa.V
open Go.Proofs.Ytmamcliidlmghaa

/-- What a line was since it was last settled, and what it is. -/
def pasts (l : Ln) : List (List Int) := (List.range (l.over.length + 1)).map fun p => (l.back p).now
theorem pasts_length (l : Ln) : (pasts l).length = l.over.length + 1 := by simp [pasts]
theorem pasts_get (l : Ln) (p : Nat) (hp : p ≤ l.over.length) : (pasts l)[p]? = some (undo l.now (l.over.drop p)) := by
  unfold pasts
  rw [List.getElem?_map, List.getElem?_range (by omega)]; rfl
theorem pasts_last (l : Ln) : (pasts l)[(pasts l).length - 1]? = some l.now := by
  rw [pasts_length, Nat.add_sub_cancel, pasts_get l _ (Nat.le_refl _), List.drop_length]; rfl
theorem pasts_ext {l : Ln} {L : List (List Int)} (hl : L.length = l.over.length + 1) (h : ∀ p, p ≤ l.over.length → L[p]? = some (undo l.now (l.over.drop p))) : pasts l = L := by
  apply List.ext_getElem?
  intro p
  by_cases hp : p ≤ l.over.length
  · rw [pasts_get l p hp, h p hp]
  · rw [List.getElem?_eq_none (by rw [pasts_length]; omega), List.getElem?_eq_none (by omega)]
theorem pasts_store_same (l : Ln) (a n : Nat) (e : l.get a = n) : pasts (l.store a n) = pasts l := by unfold Ln.store; rw [if_pos e]
theorem pasts_store (l : Ln) (hl : l.Good) (a n : Nat) (ha : a + 8 ≤ 64) (e : l.get a ≠ n) : pasts (l.store a n) = pasts l ++ [M.pv l.now a n 8] := by
  have h1 : l.store a n = { now := M.pv l.now a n 8, over := l.over ++ [(a, l.get a)], mark := l.mark } := by unfold Ln.store; rw [if_neg e]
  rw [h1]
  refine pasts_ext (by simp [pasts_length]) (fun p hp => ?_)
  simp only [List.length_append, List.length_singleton] at hp
  by_cases hq : p = l.over.length + 1
  · subst hq
    rw [List.getElem?_append_right (by rw [pasts_length]; exact Nat.le_refl _), pasts_length, Nat.sub_self, List.drop_of_length_le (by simp)]
    rfl
  · rw [List.getElem?_append_left (by rw [pasts_length]; omega), pasts_get l p (by omega)]
    show _ = some (undo (M.pv l.now a n 8) ((l.over ++ [(a, l.get a)]).drop p))
    rw [List.drop_append_of_le_length (by omega), undo_snoc]
    show _ = some (undo (M.pv (M.pv l.now a n 8) a (l.get a) 8) _)
    rw [Ln.get_eq, pv_back hl.byte a n (by rw [hl.len]; exact ha)]
theorem pasts_flush (l : Ln) : pasts l.flush = pasts l := rfl
theorem pasts_settle (l : Ln) (hl : l.Good) : pasts l.settle = (pasts l).drop l.mark := by
  have hm := hl.mark
  have hlen : l.settle.over.length = l.over.length - l.mark := by simp [Ln.settle]
  refine pasts_ext (by rw [List.length_drop, pasts_length, hlen]; omega) (fun p hp => ?_)
  rw [hlen] at hp
  rw [List.getElem?_drop, pasts_get l _ (by omega)]
  show _ = some (undo l.now ((l.over.drop l.mark).drop p))
  rw [List.drop_drop]
theorem pasts_back (l : Ln) (k : Nat) : pasts (l.back k) = [(l.back k).now] := rfl
/-- The reference's line: its contents and its mark; a mark at the first content tells what none does. -/
def Tells (l : Ln) (L : List (List Int)) (mark : Int) : Prop := L = pasts l ∧ (mark = (l.mark : Int) ∨ mark = -1 ∧ l.mark = 0)
theorem Tells.store_same {l : Ln} {L : List (List Int)} {mark : Int} (h : Tells l L mark) (a n : Nat) (e : l.get a = n) : Tells (l.store a n) L mark := by
  have h1 : l.store a n = l := by unfold Ln.store; rw [if_pos e]
  rw [h1]; exact h
theorem Tells.store {l : Ln} {L : List (List Int)} {mark : Int} (h : Tells l L mark) (hl : l.Good) (a n : Nat) (ha : a + 8 ≤ 64) (e : l.get a ≠ n) : Tells (l.store a n) (L ++ [M.pv l.now a n 8]) mark := by
  refine ⟨by rw [pasts_store l hl a n ha e, h.1], ?_⟩
  have h1 : (l.store a n).mark = l.mark := by unfold Ln.store; rw [if_neg e]
  rw [h1]; exact h.2
theorem Tells.flush {l : Ln} {L : List (List Int)} {mark : Int} (h : Tells l L mark) : Tells l.flush L ((L.length : Int) - 1) :=
  ⟨h.1, .inl (by rw [h.1, pasts_length]; show _ = ((l.over.length : Nat) : Int); omega)⟩
theorem Tells.fence {l : Ln} {L : List (List Int)} {mark : Int} (h : Tells l L mark) (hl : l.Good) : Tells l.settle (if 0 ≤ mark then L.drop mark.toNat else L) (-1) := by
  refine ⟨?_, .inr ⟨rfl, rfl⟩⟩
  rw [pasts_settle l hl, h.1]
  rcases h.2 with e | ⟨e, e0⟩
  · rw [if_pos (by omega), e, Int.toNat_natCast]
  · rw [if_neg (by omega), e0, List.drop_zero]
theorem Tells.crash {l : Ln} {L : List (List Int)} {mark : Int} (h : Tells l L mark) (k : Nat) (hk : k ≤ l.over.length) : ∃ b, L[k]? = some b ∧ Tells (l.back k) [b] (-1) :=
  ⟨(l.back k).now, by rw [h.1, pasts_get l k hk]; rfl, rfl, .inr ⟨rfl, rfl⟩⟩
theorem Tells.now {l : Ln} {L : List (List Int)} {mark : Int} (h : Tells l L mark) : L[L.length - 1]? = some l.now := by rw [h.1]; exact pasts_last l
theorem Tells.may {l : Ln} {L : List (List Int)} {mark : Int} (h : Tells l L mark) : L.length = l.over.length + 1 := by rw [h.1]; exact pasts_length l
end Go.Proofs.Ytmamcliidlmghaa.V
