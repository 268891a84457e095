
/- Layer 4: the contracts for a device of the call's own; Put of nothing; the statements' own 'alive'. -/
import Derived.Test.YtmelmiookkeoaaaDoorSuD

namespace Go.Proofs.YtmelmiookkeoaaaDoor

open Go.RowKit

section

variable {w0 wr : World} {d : V.Dv} {p : Option Addr}


theorem in_putAll (h : DevIn w0 (.pointer p) d wr) (off : Int) (hoff : I64 off) (A : Option Addr) (len cap : Nat) (l : List Nat) (hl : IsWords wr (.slice A len cap) l) (hs : d.steps ≤ 10000000) :
    Calls Tryd.prog 43 #[.pointer p, .int .i64 off, .slice A len cap] wr fun e w' => e = .returned (.int .i64 (d.putAll off l).2) ∧ DevIn w0 (.pointer p) (d.putAll off l).1 w' := by
  obtain ⟨F, h1, h2, h3⟩ := h
  exact (su_putAll h1 off hoff A len cap l hl hs).mono fun e w' ⟨a, b⟩ => ⟨a, DevIn.step h2 h3 b⟩
theorem in_clear (h : DevIn w0 (.pointer p) d wr) (off lines : Int) (hoff : I64 off) (hlines : I64 lines) (hs : d.steps ≤ 10000000) :
    Calls Tryd.prog 42 #[.pointer p, .int .i64 off, .int .i64 lines] wr fun e w' => e = .returned (.int .i64 (d.clear off lines).2) ∧ DevIn w0 (.pointer p) (d.clear off lines).1 w' := by
  obtain ⟨F, h1, h2, h3⟩ := h
  exact (su_clear h1 off lines hoff hlines hs).mono fun e w' ⟨a, b⟩ => ⟨a, DevIn.step h2 h3 b⟩
theorem in_get (h : DevIn w0 (.pointer p) d wr) (off : Int) (hoff : I64 off) (k : Nat) (hk : (k : Int) ≤ 9223372036854775807) (hr : d.room off k = 0) (hleft : d.left ≠ 0) :
    Calls Tryd.prog 47 #[.pointer p, .int .i64 off, .int .i64 (k : Int)] wr fun e w' => ∃ v, e = .returned (.tuple #[v, .int .i64 0]) ∧ NewWords wr (d.words off k) v w' ∧ DevIn w0 (.pointer p) d w' := by
  have h' := h
  obtain ⟨F, h1, h2, h3⟩ := h
  refine (su_get h1 off hoff k hk hr hleft).mono ?_
  rintro e w' ⟨v, he, hn⟩
  exact ⟨v, he, hn, h'.newer (by obtain ⟨_, _, _, _, hb, _⟩ := hn; exact hb)⟩
end

/-! ### Put of no device -/
theorem nil_store1 {w : World} (a b c : Nat) (off n : Int) (ha : w.heap[a]? = some (.cells #[.pointer none] 38 (0, 0))) (hb : w.heap[b]? = some (.cells #[.int .i64 off] 3 (0, 0))) (hc : w.heap[c]? = some (.cells #[.int .u64 n] 40 (0, 0))) :
    Calls Tryd.prog 62 #[.pointer (some ⟨a, 0, none⟩), .pointer (some ⟨b, 0, none⟩), .pointer (some ⟨c, 0, none⟩)] w fun e w' => e = .returned (.int .i64 1) ∧ w = w' := by
  have ca := cell_of_one ha
  have cb := cell_of_one hb
  have cc := cell_of_one hc
  have HS := Lib.hid (no_store (w := w) (v := .pointer none) (.inl rfl) off n)
  clear ha hb hc
  go_enter Tryd.func62, Tryd.ntmps62
  go_wp2_with fail
  refine HS.out.mono ?_
  rintro e w1 ⟨rfl, rfl⟩
  go_wp2
  go_ret
  exact ⟨rfl, rfl⟩
set_option maxRecDepth 100000 in
theorem nil_inOrder {w : World} (g cap : Nat) (off n : Int) (a b c : Nat) (hg : w.cell? ⟨g, 0, none⟩ = some (.func (.func 62) #[] #[.pointer (some ⟨a, 0, none⟩), .pointer (some ⟨b, 0, none⟩), .pointer (some ⟨c, 0, none⟩)])) (ha : w.heap[a]? = some (.cells #[.pointer none] 38 (0, 0))) (hb : w.heap[b]? = some (.cells #[.int .i64 off] 3 (0, 0))) (hc : w.heap[c]? = some (.cells #[.int .u64 n] 40 (0, 0))) :
    Calls Tryd.prog 57 #[.slice (some ⟨g, 0, none⟩) 3 cap] w fun e w' => e = .returned (.int .i64 1) ∧ w = w' := by
  have HS := Lib.hid (nil_store1 a b c off n ha hb hc)
  clear ha hb hc
  go_enter Tryd.func57, Tryd.ntmps57
  go_wp2_with fail
  go_loopw [4, 5, 8] (fun _ _ x wr => x = .int .i64 ((0 : Nat) : Int) ∧ wr = w) (fun _ _ x _ => 3 - (intOf x).toNat)
  case atStart => exact ⟨rfl, rfl⟩
  case round =>
    obtain ⟨rfl, rfl⟩ := hrel
    go_wp2_with fail
    refine HS.out.mono ?_
    rintro e w1 ⟨rfl, rfl⟩
    go_wp2
    go_ret
    exact ⟨rfl, rfl⟩

/-! ### alive -/
def B0 : V.Dv := V.newDv 4
def B1 : V.Dv := (B0.put 8 5).1
def B2 : V.Dv := (B1.putAll 16 [1, 2]).1
def B3 : V.Dv := B2.crash [1]
def B4 : V.Dv := (B3.clear 0 1).1
theorem b_put : (B0.put 8 5).2 = 0 ∧ B0.steps ≤ 10000000 ∧ B1.steps = 3 := by decide +kernel
theorem b_all : (B1.putAll 16 [1, 2]).2 = 0 ∧ B2.steps = 7 := by decide +kernel
theorem b_get : B3.room 8 (3 : Nat) = 0 ∧ B3.left ≠ 0 ∧ B3.words 8 3 = [5, 1, 2] ∧ B3.steps = 7 := by decide +kernel
theorem b_clear : (B3.clear 0 1).2 = 0 ∧ B4.steps ≤ 10000000 ∧ (B4.clear 8 1).2 = 2 := by decide +kernel
end Go.Proofs.YtmelmiookkeoaaaDoor
