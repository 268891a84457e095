
/- Layer 4: the steps as function values; the contracts of place, store and flush. -/
import Derived.Test.YtmelmiookkeoaaaDoorNvDh

import Derived.Test.YtmelmiookkeoaaaDoorSuM

namespace Go.Proofs.YtmelmiookkeoaaaDoor

open Go.RowKit

section

variable {w : World} {v : Value} {d : V.Dv} {F : List Nat}

set_option maxRecDepth 100000 in
theorem su_place (h : Dev w v d F) (off many : Int) (hoff : I64 off) (hmany : I64 many) :
    Calls Tryd.prog 54 #[v, .int .i64 off, .int .i64 many] w fun e w' => e = .returned (.int .i64 (d.room off many)) ∧ w = w' := by
  have HS := Lib.hid (dev_size h)
  have hm := h.good.most
  have h1 := h.good.some
  have HR : Hid (d.room off many = if 0 ≤ off ∧ off % 8 = 0 ∧ 0 ≤ many ∧ off + 8 * many ≤ 64 * (d.lines.length : Int) then 0 else 4) := rfl
  have hoff' : -9223372036854775808 ≤ off ∧ off ≤ 9223372036854775807 := hoff
  have hmany' : -9223372036854775808 ≤ many ∧ many ≤ 9223372036854775807 := hmany
  clear h hoff hmany
  generalize d.room off many = res at *
  generalize d.lines.length = n at *
  have hne : (((64 * n : Nat) : Int) == 0) = false := beq_eq_false_iff_ne.2 (by omega)
  rw [show 64 * (n : Int) = ((64 * n : Nat) : Int) by omega] at HR
  have hs8 : (64 * n) % 8 = 0 := by omega
  have hsb : 64 * n ≤ 65536 := by omega
  clear hm h1
  generalize 64 * n = s at *
  by_cases h0 : 0 ≤ off
  · have hw1 : IntKind.i64.wrap ((s : Int) - off) = (s : Int) - off := IntWalk.i64_in _ (by omega)
    obtain ⟨r, hr⟩ : ∃ r, r = ((s : Int) - off).tdiv 8 := ⟨_, rfl⟩
    have hrb : -1152921504606846976 ≤ r ∧ r ≤ 8192 := by
      rw [hr]
      by_cases hq : off ≤ (s : Int)
      · rw [Int.tdiv_eq_ediv_of_nonneg (by omega)]; omega
      · have e : ((s : Int) - off).tdiv 8 = -((off - (s : Int)) / 8) := by
          rw [show (s : Int) - off = -(off - (s : Int)) by omega, Int.neg_tdiv, Int.tdiv_eq_ediv_of_nonneg (by omega)]
        rw [e]; omega
    have hw2 : ((s : Int) - off).tdiv 8 = r := hr.symm
    by_cases h8 : off % 8 = 0
    · have hrv : r = ((s : Int) - off) / 8 := by
        rw [hr]
        by_cases hq : off ≤ (s : Int)
        · rw [Int.tdiv_eq_ediv_of_nonneg (by omega)]
        · rw [show (s : Int) - off = -(off - (s : Int)) by omega, Int.neg_tdiv, Int.tdiv_eq_ediv_of_nonneg (by omega)]
          omega
      have hb8 : ((off % 8) != 0) = false := by simpa using h8
      by_cases hm0 : 0 ≤ many
      · by_cases hmr : many ≤ r
        · have HV : Hid (res = 0) := by show _ = _; rw [HR.out, if_pos (by omega)]
          clear HR hr hrv h8 hs8
          go_enter Tryd.func54, Tryd.ntmps54
          go_wp2_with fail
          refine HS.out.mono ?_
          rintro e w' ⟨rfl, rfl⟩
          go_wp2
          go_ret
          exact ⟨by rw [HV.out]; rfl, rfl⟩
        · have HV : Hid (res = 4) := by show _ = _; rw [HR.out, if_neg (by omega)]
          clear HR hr hrv h8 hs8
          go_enter Tryd.func54, Tryd.ntmps54
          go_wp2_with fail
          refine HS.out.mono ?_
          rintro e w' ⟨rfl, rfl⟩
          go_wp2
          go_ret
          exact ⟨by rw [HV.out]; rfl, rfl⟩
      · have HV : Hid (res = 4) := by show _ = _; rw [HR.out, if_neg (by omega)]
        clear HR hr hrv h8 hs8
        go_enter Tryd.func54, Tryd.ntmps54
        go_wp2_with fail
        refine HS.out.mono ?_
        rintro e w' ⟨rfl, rfl⟩
        go_wp2
        go_ret
        exact ⟨by rw [HV.out]; rfl, rfl⟩
    · have HV : Hid (res = 4) := by show _ = _; rw [HR.out, if_neg (by omega)]
      have hb8 : ((off % 8) != 0) = true := by simpa using h8
      clear HR hr h8 hs8
      go_enter Tryd.func54, Tryd.ntmps54
      go_wp2_with fail
      refine HS.out.mono ?_
      rintro e w' ⟨rfl, rfl⟩
      go_wp2
      go_ret
      exact ⟨by rw [HV.out]; rfl, rfl⟩
  · have HV : Hid (res = 4) := by show _ = _; rw [HR.out, if_neg (by omega)]
    obtain ⟨r, hr⟩ : ∃ r, r = IntKind.i64.wrap ((IntKind.i64.wrap ((s : Int) - off)).tdiv 8) := ⟨_, rfl⟩
    have hw2 : IntKind.i64.wrap ((IntKind.i64.wrap ((s : Int) - off)).tdiv 8) = r := hr.symm
    clear HR hr hs8
    go_enter Tryd.func54, Tryd.ntmps54
    go_wp2_with fail
    refine HS.out.mono ?_
    rintro e w' ⟨rfl, rfl⟩
    go_wp2
    go_ret
    exact ⟨by rw [HV.out]; rfl, rfl⟩
end

/-- A block of one cell, apart from a device. -/
def One (w : World) (F : List Nat) (b : Nat) (t : TypeId) (u : Value) : Prop := w.heap[b]? = some (.cells #[u] t (0, 0)) ∧ b ∉ F
/-- A function value is a step on the device v, whose blocks are F. -/
def StepV (w : World) (v : Value) (F : List Nat) (u : Value) : V.St → Prop
  | .store off n => ∃ a b c, u = .func (.func 62) #[] #[.pointer (some ⟨a, 0, none⟩), .pointer (some ⟨b, 0, none⟩), .pointer (some ⟨c, 0, none⟩)] ∧ One w F a 38 v ∧ One w F b 3 (.int .i64 off) ∧ One w F c 40 (.int .u64 (n : Int))
  | .flush off => ∃ a b, u = .func (.func 63) #[] #[.pointer (some ⟨a, 0, none⟩), .pointer (some ⟨b, 0, none⟩)] ∧ One w F a 38 v ∧ One w F b 3 (.int .i64 off)
  | .fence => u = .func (.func 58) #[v] #[]
theorem One.lt {w : World} {F : List Nat} {b : Nat} {t : TypeId} {u : Value} (h : One w F b t u) : b < w.heap.size := (Array.getElem?_eq_some_iff.1 h.1).1
/-- What touches nothing but F, and takes new blocks. -/
theorem One.step {w w' : World} {F F' G : List Nat} {b : Nat} {t : TypeId} {u : Value} (h : One w F b t u) (ho : Only G w w') (hG : b ∉ G) (hF : ∀ k ∈ F', k ∈ F ∨ w.heap.size ≤ k) : One w' F' b t u :=
  ⟨(ho.block b h.lt hG).trans h.1, fun hf => by rcases hF b hf with e | e; exact h.2 e; have := h.lt; omega⟩
theorem StepV.step {w w' : World} {v u : Value} {F F' : List Nat} {s : V.St} (h : StepV w v F u s) (ho : Only F w w') (hF : ∀ k ∈ F', k ∈ F ∨ w.heap.size ≤ k) : StepV w' v F' u s := by
  cases s with
  | store off n =>
    obtain ⟨a, b, c, h1, h2, h3, h4⟩ := h
    exact ⟨a, b, c, h1, h2.step ho h2.2 hF, h3.step ho h3.2 hF, h4.step ho h4.2 hF⟩
  | flush off =>
    obtain ⟨a, b, h1, h2, h3⟩ := h
    exact ⟨a, b, h1, h2.step ho h2.2 hF, h3.step ho h3.2 hF⟩
  | fence => exact h
/-- What touches no block but one of another type. -/
theorem One.other {w w' : World} {F : List Nat} {b g : Nat} {t : TypeId} {u : Value} (h : One w F b t u) (ho : Only [g] w w') (hg : ∀ cs fr, w.heap[g]? = some (.cells cs t fr) → False) : One w' F b t u :=
  ⟨(ho.block b h.lt (fun hm => by obtain rfl := List.mem_singleton.1 hm; exact hg _ _ h.1)).trans h.1, h.2⟩
theorem StepV.below {w w' : World} {v u : Value} {F : List Nat} {s : V.St} (h : StepV w v F u s) (hb : Below w.heap.size w w') : StepV w' v F u s := h.step (Only.of_below hb) (fun _ hk => .inl hk)

section

variable {w : World} {v : Value} {d : V.Dv} {F : List Nat}

theorem su_store (p : Option Addr) (F : List Nat) (off : Int) (n : Nat) (hF : ∀ k ∈ F, k < w.heap.size) :
    Calls Tryd.prog 55 #[.pointer p, .int .i64 off, .int .u64 (n : Int)] w fun e w' => ∃ f c, e = .returned (.func f #[] c) ∧ StepV w' (.pointer p) F (.func f #[] c) (.store off n) ∧ Below w.heap.size w w' := by
  have HA : Hid (∀ a b c : Obj, Below w.heap.size w (((w.alloc a).alloc b).alloc c)) := fun a b c => ((((Below.refl _ _).alloc (Nat.le_refl _) a).alloc (by simp) b).alloc (by simp; omega) c)
  have HB : Hid (∀ a b c : Obj, (((w.alloc a).alloc b).alloc c).heap[w.heap.size]? = some a ∧ (((w.alloc a).alloc b).alloc c).heap[w.heap.size + 1]? = some b ∧ (((w.alloc a).alloc b).alloc c).heap[w.heap.size + 1 + 1]? = some c) := by
    intro a b c
    refine ⟨?_, ?_, ?_⟩
    · rw [Below.heap_alloc _ _ _ (by simp; omega), Below.heap_alloc _ _ _ (by simp), heap_alloc_new]
    · rw [Below.heap_alloc _ _ _ (by simp), show w.heap.size + 1 = (w.alloc a).heap.size by simp, heap_alloc_new]
    · rw [show w.heap.size + 1 + 1 = ((w.alloc a).alloc b).heap.size by simp, heap_alloc_new]
  go_enter Tryd.func55, Tryd.ntmps55
  go_wp2
  go_ret
  obtain ⟨h1, h2, h3⟩ := HB.out (.cells #[.pointer p] 38) (.cells #[.int .i64 off] 3) (.cells #[.int .u64 (n : Int)] 40)
  exact ⟨_, _, rfl, ⟨_, _, _, rfl, ⟨h1, fun h => by have := hF _ h; omega⟩, ⟨h2, fun h => by have := hF _ h; omega⟩, ⟨h3, fun h => by have := hF _ h; omega⟩⟩, HA.out _ _ _⟩
theorem su_flush (p : Option Addr) (F : List Nat) (off : Int) (hF : ∀ k ∈ F, k < w.heap.size) :
    Calls Tryd.prog 56 #[.pointer p, .int .i64 off] w fun e w' => ∃ f c, e = .returned (.func f #[] c) ∧ StepV w' (.pointer p) F (.func f #[] c) (.flush off) ∧ Below w.heap.size w w' := by
  have HA : Hid (∀ a b : Obj, Below w.heap.size w ((w.alloc a).alloc b)) := fun a b => (((Below.refl _ _).alloc (Nat.le_refl _) a).alloc (by simp) b)
  have HB : Hid (∀ a b : Obj, ((w.alloc a).alloc b).heap[w.heap.size]? = some a ∧ ((w.alloc a).alloc b).heap[w.heap.size + 1]? = some b) := by
    intro a b
    refine ⟨?_, ?_⟩
    · rw [Below.heap_alloc _ _ _ (by simp), heap_alloc_new]
    · rw [show w.heap.size + 1 = (w.alloc a).heap.size by simp, heap_alloc_new]
  go_enter Tryd.func56, Tryd.ntmps56
  go_wp2
  go_ret
  obtain ⟨h1, h2⟩ := HB.out (.cells #[.pointer p] 38) (.cells #[.int .i64 off] 3)
  exact ⟨_, _, rfl, ⟨_, _, rfl, ⟨h1, fun h => by have := hF _ h; omega⟩, ⟨h2, fun h => by have := hF _ h; omega⟩⟩, HA.out _ _⟩
/-- A step that stores, called. -/
theorem su_store1 {d : V.Dv} {p : Option Addr} (h : Dev w (.pointer p) d F) (a b c : Nat) (off : Int) (n : Nat) (ha : One w F a 38 (.pointer p)) (hb : One w F b 3 (.int .i64 off)) (hc : One w F c 40 (.int .u64 (n : Int))) (hoff : I64 off) (hn : n < 2 ^ 64) (hs : d.steps ≤ 1000000000) :
    Calls Tryd.prog 62 #[.pointer (some ⟨a, 0, none⟩), .pointer (some ⟨b, 0, none⟩), .pointer (some ⟨c, 0, none⟩)] w fun e w' => e = .returned (.int .i64 (d.err off 8)) ∧ DevStep w (.pointer p) (d.store off n) F w' := by
  have ca := cell_of_one ha.1
  have cb := cell_of_one hb.1
  have cc := cell_of_one hc.1
  have HS := Lib.hid (dev_store h off hoff n hn hs)
  clear h ha hb hc
  go_enter Tryd.func62, Tryd.ntmps62
  go_wp2_with fail
  refine HS.out.mono ?_
  rintro e w1 ⟨rfl, h1⟩
  have H1 := Lib.hid h1
  clear h1
  go_wp2
  go_ret
  exact ⟨rfl, H1.out⟩
theorem su_flush1 {d : V.Dv} {p : Option Addr} (h : Dev w (.pointer p) d F) (a b : Nat) (off : Int) (ha : One w F a 38 (.pointer p)) (hb : One w F b 3 (.int .i64 off)) (hoff : I64 off) (hs : d.steps ≤ 1000000000) :
    Calls Tryd.prog 63 #[.pointer (some ⟨a, 0, none⟩), .pointer (some ⟨b, 0, none⟩)] w fun e w' => e = .returned (.int .i64 (d.err off 1)) ∧ DevStep w (.pointer p) (d.flush off) F w' := by
  have ca := cell_of_one ha.1
  have cb := cell_of_one hb.1
  have HS := Lib.hid (dev_flush h off hoff hs)
  clear h ha hb
  go_enter Tryd.func63, Tryd.ntmps63
  go_wp2_with fail
  refine HS.out.mono ?_
  rintro e w1 ⟨rfl, h1⟩
  have H1 := Lib.hid h1
  clear h1
  go_wp2
  go_ret
  exact ⟨rfl, H1.out⟩
end

end Go.Proofs.YtmelmiookkeoaaaDoor
