
/- PoolDurable: the calls behind the acts, with what was told and what All answered kept. -/
import Derived.Test.YtaceogpdjbikiaaGreatDoorPoAo
import Derived.Test.YtaceogpdjbikiaaGreatDoorPoTd
import Derived.Test.YtaceogpdjbikiaaGreatDoorPoDuN
namespace Go.Proofs.YtaceogpdjbikiaaGreatDoor

open Go.RowKit

/-- A row of places that the call made. -/
def RowI (w0 : World) (v : Value) (l : List Int) (w : World) : Prop := w.ownsRow w0.heap.size 3 1 v l.length (l.map (Value.int .i64))
section

variable {w0 w w' : World} {pv : Value} {a : Addr} {d : V.Dv} {sh : V.Sh} {ws xs X : List Nat} {tv : Value} {l : List Int} {N s k : Nat}

theorem owns_weaken {B B' e n : Nat} {v : Value} {vs : List Value} (h : w.ownsRow B e 1 v n vs) (hb : B' ≤ B) : w.ownsRow B' e 1 v n vs := by
  refine ⟨h.1, ?_⟩
  rcases h.2 with h' | ⟨g, cap, cur, h1, h2, h3⟩
  · exact .inl h'
  · exact .inr ⟨g, cap, cur, h1, Nat.le_trans hb h2, h3⟩
theorem t_all (h : TPool w0 pv (some a) d sh ws xs X tv l w) (hs : ShOk sh 192) : Calls Tryz.prog 19 #[pv] w fun e w' => ∃ v, e = .returned v ∧ TPool w0 pv (some a) d sh ws xs (ownL v ++ X) tv l w' ∧ RowI w0 v (P.all 192 ws ws.length) w' ∧ KeepB (ownL tv ++ X) w w' := by
  have hp := h.pool
  obtain ⟨y, rfl, h2, h3, h4, h5, h6, h7⟩ := hp
  refine (po_all_own h2 hs h4).mono ?_
  rintro e w' ⟨v, he, ho, hb⟩
  refine ⟨v, he, h.newer hb (fun k hk => ?_), owns_weaken ho h.pool.below0.size, fun k hk => hb.block k (h.pool.xlt k hk)⟩
  rcases List.mem_append.1 hk with e | e
  · exact .inr ⟨owns_block ho k (mem_ownL.1 e), (ho.lt k (mem_ownL.1 e)).2⟩
  · exact .inl e

/-- What the last call leaves. -/
def LaPost (w0 : World) (pv : Value) (a : Addr) (N s : Nat) (ws : List Nat) (sh : V.Sh) (X : List Nat) (tv : Value) (l : List Int) (x : Int) (ps : List Int) (w : World) (e : Ending) (w' : World) : Prop :=
  ∃ (d' : V.Dv) (ws' xs' : List Nat) (er : Int), e = .returned (.int .i64 er) ∧ TPool w0 pv (some a) d' sh ws' xs' X tv l w' ∧ KeepB (ownL tv ++ X) w w' ∧ Last N s ws x ps (d', ws', xs', er)
theorem t_last_take {i : Nat} (h : TPool w0 pv (some a) (d.stop i) sh ws xs X tv l w) (hst : St7 N s d ws xs k) (hs : ShOk sh 192) (h19 : 19 ≤ N) (hN : s = V.slabs N) (hsh : sh.table = 128) (hk : k ≤ 1000) (hi : i ≤ 255) (ps : List Int) (x : Int) (hx : I64 x) :
    Calls Tryz.prog 14 #[pv, .int .i64 x] w (LaPost w0 pv a N s ws sh X tv l x ps w) := by
  refine (po_take h.pool hs x hx (by rw [V.stop_steps]; have := hst.steps; omega)).mono ?_
  have hl := last_says hst h19 hN hsh x i hi ps hk true
  unfold lastR at hl
  rw [if_pos rfl] at hl
  rintro e w' ⟨he, hp, hkk⟩
  exact ⟨_, _, _, _, he, h.call hp hkk, hkk, hl⟩
theorem t_last_drop {i : Nat} (h : TPool w0 pv (some a) (d.stop i) sh ws xs X tv l w) (hst : St7 N s d ws xs k) (hs : ShOk sh 192) (h19 : 19 ≤ N) (hN : s = V.slabs N) (hsh : sh.table = 128) (hk : k ≤ 1000) (hi : i ≤ 255) (ps : List Int) (x : Int) (hx : I64 x) :
    Calls Tryz.prog 12 #[pv, .int .i64 x] w (LaPost w0 pv a N s ws sh X tv l x ps w) := by
  refine (po_drop h.pool hs x hx (by rw [V.stop_steps]; have := hst.steps; omega)).mono ?_
  have hl := last_says hst h19 hN hsh x i hi ps hk false
  unfold lastR at hl
  rw [if_neg (by decide)] at hl
  rintro e w' ⟨he, hp, hkk⟩
  exact ⟨_, _, _, _, he, h.call hp hkk, hkk, hl⟩
theorem t_crash (h : TPool w0 pv (some a) d sh ws xs X tv l w) (A : Option Addr) (len cap : Nat) (zs : List Int) (hp : IsBytes w0 (.slice A len cap) zs) (hA : zs ≠ [] → ∀ b, A = some b → b.block < w0.heap.size) (hs : d.steps ≤ 1000000000) :
    Calls Tryz.prog 22 #[.pointer (some a), .slice A len cap] w fun e w' => e = .returned (.tuple #[]) ∧ TPool w0 pv (some a) (d.crash zs) sh ws xs X tv l w' ∧ KeepB (ownL tv ++ X) w w' := by
  refine (k_crash7 h.pool A len cap zs hp hA hs).mono ?_
  rintro e w' ⟨he, hp, hk⟩
  exact ⟨he, h.call hp hk, hk⟩
/-- The pool that is opened behind the crash. -/
theorem t_open (h : TPool w0 pv (some a) d sh ws xs X tv l w) (hT : TabT w0) (hg : 0 < w0.heap.size) (hleft : d.left ≠ 0) (hop : d.opens.2 = 0) (hlen : d.lines.length = N) (har : allRight (tableOf d) = true) :
    Calls Tryz.prog 23 #[.pointer (some a)] w fun e w' => ∃ (q2 : Nat) (K2 : List Nat), e = .returned (.tuple #[.pointer (some ⟨q2, 0, none⟩), .int .i64 0]) ∧ PoolR (.pointer (some ⟨q2, 0, none⟩)) (some a) (V.Sh.at N) (tableOf d) (List.replicate (V.slabs N) 0) K2 w' ∧ Below w.heap.size w w' := by
  refine (k_open h.pool hleft hT hg).mono ?_
  rintro e w' ⟨K, hr, hb, ⟨_, _, q2, he, hq⟩ | ⟨hno, _⟩⟩
  · rw [hlen] at hq
    obtain ⟨K2, hq2⟩ := hq.reads
    exact ⟨q2, K2, he, hq2, hb⟩
  · rcases hno with h | h
    · exact absurd hop h
    · rw [har] at h; cases h
end

end Go.Proofs.YtaceogpdjbikiaaGreatDoor
