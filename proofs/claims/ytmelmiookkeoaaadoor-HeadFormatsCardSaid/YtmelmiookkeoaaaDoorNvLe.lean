
/- The iterator slices.Backward over what stores wrote over: its contract. -/
import Derived.Test.YtmelmiookkeoaaaDoorNvLd

import Derived.RangeFuncNested

import Derived.RangeFuncBound

import Derived.RangeFuncCalls

import Derived.RangeFuncLeaves

import Derived.Shelf.Abstract

import Derived.Shelf.RegionOpen

import Derived.WalkKit

import Derived.OwnWalkIn

import Derived.TacticsInMore

import Derived.LoopNIn

import Derived.LoopIn

namespace Go.Proofs.YtmelmiookkeoaaaDoor

open Go.RowKit Go.Shelf
attribute [local go_sem] Oper.semAt_some

/-- The blocks of S lie as they lay. -/
def KeepB (S : List Nat) (W W' : World) : Prop := ∀ k ∈ S, W'.heap[k]? = W.heap[k]?
theorem KeepB.refl (S : List Nat) (W : World) : KeepB S W W := fun _ _ => rfl
theorem KeepB.trans {S : List Nat} {A B C : World} (h : KeepB S A B) (k : KeepB S B C) : KeepB S A C := fun j hj => (k j hj).trans (h j hj)
theorem KeepB.cell {S : List Nat} {W W' : World} (h : KeepB S W W') {b o : Nat} {v : Value} (hb : b ∈ S) (hc : W.cell? ⟨b, o, none⟩ = some v) : W'.cell? ⟨b, o, none⟩ = some v :=
  (World.cell?_of_block (w := W) (a := ⟨b, o, none⟩) (h b hb)).trans hc

/-- A change that may be: a place in a line, and a word. -/
abbrev Ch := { c : Nat × Nat // c.1 % 8 = 0 ∧ c.1 + 8 ≤ 64 ∧ c.2 < 2 ^ 64 }
def ch0 : Ch := ⟨(0, 0), by decide⟩
/-- A slice reads as changes. -/
def Chs (w : World) (A : Option Addr) (cs : List Ch) : Prop :=
  cs = [] ∨ ∃ g o, A = some ⟨g, o, none⟩ ∧ ∀ k c, cs[k]? = some c → w.cell? ⟨g, o + k * 2, none⟩ = some (.int .i64 (c.1.1 : Int)) ∧ w.cell? ⟨g, o + k * 2 + 1, none⟩ = some (.int .u64 (c.1.2 : Int))
theorem Chs.keep {S : List Nat} {w w' : World} {A : Option Addr} {cs : List Ch} (h : Chs w A cs) (hk : KeepB S w w') (hS : ∀ a, A = some a → a.block ∈ S) : Chs w' A cs := by
  rcases h with rfl | ⟨g, o, rfl, hc⟩
  · exact .inl rfl
  · exact .inr ⟨g, o, rfl, fun k c hk' => ⟨hk.cell (hS _ rfl) (hc k c hk').1, hk.cell (hS _ rfl) (hc k c hk').2⟩⟩

/-- What comes, round by round: the last one first. -/
def revs (cs : List Ch) (k : Nat) : List (Nat × Ch) := (List.range k).map fun j => (cs.length - 1 - j, cs.getD (cs.length - 1 - j) ch0)
theorem revs_succ (cs : List Ch) (k : Nat) : revs cs (k + 1) = revs cs k ++ [(cs.length - 1 - k, cs.getD (cs.length - 1 - k) ch0)] := by simp [revs, List.range_succ]
theorem revs_length (cs : List Ch) (k : Nat) : (revs cs k).length = k := by simp [revs]

set_option maxRecDepth 100000 in
set_option maxHeartbeats 2000000 in
theorem backward1_in (F : Fence) (n : Nat) (h56 : F.fn 66) (hro : F.round = none) (hn : 1 ≤ n) (l Bs : Nat) (A : Option Addr) (cap : Nat) (cs : List Ch) (S : List Nat)
    (hB : Bs ∈ S) (hS : ∀ a, A = some a → a.block ∈ S) (hlen : cs.length ≤ 1000000000) (J Jx : List (Nat × Ch) → World → Prop)
    (hY : ∀ pre x W, J pre W → pre.length < cs.length → YieldAt F (n - 1) Tryd.prog l #[.int .i64 (x.1 : Int), .agg #[.int .i64 (x.2.1.1 : Int), .int .u64 (x.2.1.2 : Int)]] W fun e W' =>
      (e = .returned (.bool true) ∧ J (pre ++ [x]) W' ∧ KeepB S W W') ∨ (e = .returned (.bool false) ∧ Jx (pre ++ [x]) W'))
    (W : World) (hBs : W.cell? ⟨Bs, 0, none⟩ = some (.slice A cs.length cap)) (hC : Chs W A cs) (h0 : J [] W) :
    CallsIn F n Tryd.prog 66 #[.func (.yield l) #[] #[], .pointer (some ⟨Bs, 0, none⟩)] W fun e W' => (∃ v, e = .returned v) ∧
      ((∃ ys, ys = revs cs cs.length ∧ J ys W') ∨ (∃ pre, True ∧ Jx pre W')) := by
  have HC := Lib.hid hC; clear hC
  have HR : Hid (∀ k, revs cs (k + 1) = revs cs k ++ [(cs.length - 1 - k, cs.getD (cs.length - 1 - k) ch0)]) := revs_succ cs
  have HG : Hid (∀ k, k < cs.length → cs[k]? = some (cs.getD k ch0)) := fun k hk => by rw [List.getD_eq_getElem?_getD, List.getElem?_eq_getElem hk]; rfl
  have HRL := Lib.hid (revs_length cs)
  refine callsIn_of_wp Tryd.func66 rfl h56 ?_ hro
  simp only [Tryd.ntmps66, List.size_toArray, List.length_cons, List.length_nil, Nat.reduceAdd, Nat.reduceSub, Array.replicate_succ, Array.replicate_zero, List.push_toArray, List.append_toArray, List.nil_append, List.cons_append]
  gi_wp2
  gi_loopw [3] (fun i wr => ∃ r : Nat, r ≤ cs.length ∧ i = .int .i64 ((r : Int) - 1) ∧ J (revs cs (cs.length - r)) wr ∧ KeepB S W wr)
    (fun i _ => (intOf i + 1).toNat)
  case atStart => exact ⟨cs.length, Nat.le_refl _, rfl, by rw [Nat.sub_self]; exact h0, KeepB.refl _ _⟩
  case round =>
    obtain ⟨r, hr, rfl, hJs, hk⟩ := hrel
    cases r with
    | zero =>
      rw [Nat.sub_zero] at hJs
      gi_wp2
      go_end0
      exact ⟨⟨_, rfl⟩, .inl ⟨_, rfl, hJs⟩⟩
    | succ t =>
      have e1 : (((t + 1 : Nat) : Int) - 1) = (t : Int) := by omega
      rw [e1]
      clear e1
      have HX := Lib.hid (HR.out (cs.length - (t + 1)))
      have HT : Hid (cs.length - 1 - (cs.length - (t + 1)) = t) := by show _ = _; omega
      have HT2 : Hid (cs.length - (t + 1) + 1 = cs.length - t) := by show _ = _; omega
      rw [HT.out, HT2.out] at HX
      have hcc := HG.out t (by omega)
      rcases HC.out.keep hk hS with h | ⟨g, o, rfl, hc⟩
      · rw [h] at hr; simp at hr
      obtain ⟨hc1, hc2⟩ := hc t _ hcc
      have hbs := hk.cell hB hBs
      have hK := Lib.hid hk
      obtain ⟨fn, tmps, assign, body, hy, hR⟩ := hY _ (t, cs.getD t ch0) wr hJs (by rw [HRL.out]; omega)
      dsimp only at hy
      clear hcc hc hk
      generalize cs.getD t ch0 = c at *
      gi_wp2
      refine hR.mono ?_
      rintro e W3 (⟨rfl, hJ3, hk3⟩ | ⟨rfl, hJx3⟩)
      · have HK3 := Lib.hid hk3
        clear hk3
        gi_wp2
        go_roundw
        case rel => exact ⟨t, by omega, rfl, by rw [HX.out]; exact hJ3, hK.out.trans HK3.out⟩
        case measure => simp [intOf]
      · gi_wp2
        refine bodyPost_ret (results_none rfl _ _ _) rfl ?_
        exact ⟨⟨_, rfl⟩, .inr ⟨_, trivial, hJx3⟩⟩

set_option maxHeartbeats 1000000 in
theorem backward_in (F : Fence) (n : Nat) (h53 : F.fn 59) (hro : F.round = none) (a : Option Addr) (len cap : Nat) (w : World) :
    CallsIn F n Tryd.prog 59 #[.slice a len cap] w fun e w' => e = .returned (.func (.func 66) #[] #[.pointer (some ⟨w.heap.size, 0, none⟩)]) ∧ w' = w.alloc (.cells #[.slice a len cap] 75) := by
  refine callsIn_of_wp Tryd.func59 rfl h53 ?_ hro
  simp only [Tryd.ntmps59, List.size_toArray, List.length_cons, List.length_nil, Nat.reduceAdd, Nat.reduceSub, Array.replicate_succ, Array.replicate_zero, List.push_toArray, List.append_toArray, List.nil_append, List.cons_append]
  gi_wp2
  go_ret
  exact ⟨rfl, rfl⟩

theorem backward_stops (F : Fence) (n : Nat) (h56 : F.fn 66) (hro : F.round = none) (hn : 1 ≤ n) (Bs : Nat) (A : Option Addr) (cap : Nat) (cs : List Ch) (S : List Nat)
    (hB : Bs ∈ S) (hS : ∀ a, A = some a → a.block ∈ S) (hlen : cs.length ≤ 1000000000) (w : World) (hlt : ∀ k ∈ S, k < w.heap.size) (hBs : w.cell? ⟨Bs, 0, none⟩ = some (.slice A cs.length cap)) (hC : Chs w A cs) :
    SeqStopsK F n Tryd.prog 66 #[.pointer (some ⟨Bs, 0, none⟩)] (fun x : Nat × Ch => #[Value.int .i64 (x.1 : Int), Value.agg #[.int .i64 (x.2.1.1 : Int), .int .u64 (x.2.1.2 : Int)]]) (KeepB S) (fun ys => ys = revs cs cs.length) (fun _ => True) cs.length w :=
  fun l J Jx W hW _ _ hY h0 => by
    have hk : KeepB S w W := fun k hk => hW.block k (hlt k hk)
    exact backward1_in F n h56 hro hn l Bs A cap cs S hB hS hlen J Jx hY W (hk.cell hB hBs) (hC.keep hk hS) h0
end Go.Proofs.YtmelmiookkeoaaaDoor
