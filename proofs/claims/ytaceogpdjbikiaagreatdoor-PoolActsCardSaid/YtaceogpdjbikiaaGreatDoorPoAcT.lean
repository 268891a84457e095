
/- Layer 7: the calls of a pool beside a row of places and blocks that stand apart; what is written apart from it. -/
import Derived.Test.YtaceogpdjbikiaaGreatDoorPoTd
namespace Go.Proofs.YtaceogpdjbikiaaGreatDoor

open Go.RowKit

section

variable {w0 w w' : World} {pv : Value} {a : Addr} {p : Option Addr} {d : V.Dv} {sh : V.Sh} {ws xs X : List Nat} {tv : Value} {l : List Int} {N s k : Nat}

/-- A block that stands apart is written. -/
theorem TPool.turned {z : Nat} (h : TPool w0 pv p d sh ws xs X tv l w) (hz : z ∈ X) (hlo : w0.heap.size ≤ z) (hg : w.grownBy w' (some z)) : TPool w0 pv p d sh ws xs X tv l w' := by
  have honly : Only [z] w w' := (Only.refl [z] w).grown hg (fun k e => .inl (by cases e; exact List.mem_singleton_self _))
  have hxl := h.pool.xlt
  refine ⟨h.pool.wrote honly (fun k hk => .inl (List.mem_append_right _ (by rw [List.mem_singleton.1 hk]; exact hz))) (fun k hk => by rw [List.mem_singleton.1 hk]; exact hlo) (fun k hk => .inl hk) (fun k hk => Nat.lt_of_lt_of_le (hxl k hk) honly.size), owns_keep h.row (fun k hk => hg.block k (hxl k (List.mem_append_left _ hk)) (fun e => ?_)), h.fits, h.apart⟩
  cases e
  exact h.apart _ hz hk
theorem t_reserve7 (h : TPool w0 pv (some a) d sh ws xs X tv l w) (hs : ShOk sh 192) (hT : Tab7 w0) (c : Int) : Calls Tryz.prog 10 #[pv, .int .i64 c] w fun e w' => e = .returned (.tuple #[.int .i64 (rsv 192 ws xs c).2.1, .int .i64 (rsv 192 ws xs c).2.2]) ∧ TPool w0 pv (some a) d sh ws (rsv 192 ws xs c).1 X tv l w' ∧ KeepB (ownL tv ++ X) w w' := by
  refine (k_reserve h.pool hs hT c).mono ?_
  rintro e w' ⟨he, hp, hk⟩
  exact ⟨he, h.call hp hk, hk⟩
theorem t_take7 (h : TPool w0 pv (some a) d sh ws xs X tv l w) (hs : ShOk sh 192) (hst : d.steps ≤ 10000000) (x : Int) (hx : I64 x) : Calls Tryz.prog 14 #[pv, .int .i64 x] w fun e w' => e = .returned (.int .i64 (takeR d sh 192 ws xs x).2.2.2) ∧ TPool w0 pv (some a) (takeR d sh 192 ws xs x).1 sh (takeR d sh 192 ws xs x).2.1 (takeR d sh 192 ws xs x).2.2.1 X tv l w' ∧ KeepB (ownL tv ++ X) w w' := by
  refine (po_take h.pool hs x hx hst).mono ?_
  rintro e w' ⟨he, hp, hk⟩
  exact ⟨he, h.call hp hk, hk⟩
theorem t_drop7 (h : TPool w0 pv (some a) d sh ws xs X tv l w) (hs : ShOk sh 192) (hst : d.steps ≤ 10000000) (x : Int) (hx : I64 x) : Calls Tryz.prog 12 #[pv, .int .i64 x] w fun e w' => e = .returned (.int .i64 (dropR d sh 192 ws xs x).2.2.2) ∧ TPool w0 pv (some a) (dropR d sh 192 ws xs x).1 sh (dropR d sh 192 ws xs x).2.1 (dropR d sh 192 ws xs x).2.2.1 X tv l w' ∧ KeepB (ownL tv ++ X) w w' := by
  refine (po_drop h.pool hs x hx hst).mono ?_
  rintro e w' ⟨he, hp, hk⟩
  exact ⟨he, h.call hp hk, hk⟩
theorem rsv_err12 {c : Int} (hc : c = 1 ∨ c = 2) : (rsv 192 ws xs c).2.2 = 0 ∨ (rsv 192 ws xs c).2.2 = 6 := by
  unfold rsv
  rw [if_pos hc]
  split
  · exact .inl rfl
  · exact .inr rfl
theorem rsv_i64 (h : Good7 ws xs) (c : Int) (he : (rsv 192 ws xs c).2.2 = 0) : I64 (rsv 192 ws xs c).2.1 := by
  obtain ⟨i, b, hf⟩ := rsv_found h c he
  have hg := rsv_good h 192 c
  exact find_i64 hf (by decide) (by have h1 := hg.len; have h2 := hg.most; omega)
end

end Go.Proofs.YtaceogpdjbikiaaGreatDoor
