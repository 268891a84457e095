
/- A device of the call's own: the contracts in one form; the statements' own 'alive' and 'heavy' and 'does'. -/
import Derived.Test.YtmelmiookkeoaaaDoorNvDg

namespace Go.Proofs.YtmelmiookkeoaaaDoor

open Go.RowKit

/-- A device in blocks that the call itself made; what was there ahead of the call is as it was. -/
def DevIn (w0 : World) (v : Value) (d : V.Dv) (wr : World) : Prop := ∃ F, Dev wr v d F ∧ (∀ k ∈ F, w0.heap.size ≤ k) ∧ Below w0.heap.size w0 wr
section

variable {w0 wr : World} {v : Value} {d : V.Dv}

theorem DevIn.below (h : DevIn w0 v d wr) : Below w0.heap.size w0 wr := by obtain ⟨F, h1, h2, h3⟩ := h; exact h3
theorem DevIn.good (h : DevIn w0 v d wr) : d.Good := by obtain ⟨F, h1, h2, h3⟩ := h; exact h1.good
theorem DevIn.drewN (h : DevIn w0 v d wr) (n : Nat) : DevIn w0 v d (wr.drewN n) := by obtain ⟨F, h1, h2, h3⟩ := h; exact ⟨F, h1.drewN n, h2, below_drewN' h3 n⟩
theorem DevIn.step {F : List Nat} {d' : V.Dv} {w1 : World} (h2 : ∀ k ∈ F, w0.heap.size ≤ k) (h3 : Below w0.heap.size w0 wr) (hs : DevStep wr v d' F w1) : DevIn w0 v d' w1 := by
  obtain ⟨F', k1, k2, k3⟩ := hs
  refine ⟨F', k1, fun k hk => ?_, h3.trans (k2.below h3.size h2)⟩
  rcases k3 k hk with e | e
  · exact h2 k e
  · exact Nat.le_trans h3.size e
/-- What makes memory alone keeps it. -/
theorem DevIn.newer {w1 : World} (h : DevIn w0 v d wr) (hb : Below wr.heap.size wr w1) : DevIn w0 v d w1 := by
  obtain ⟨F, h1, h2, h3⟩ := h
  exact ⟨F, h1.only (Only.of_below (F := []) hb) (fun k hk => by simp at hk), h2, h3.trans (hb.mono h3.size)⟩
theorem DevIn.alloc (h : DevIn w0 v d wr) (o : Obj) : DevIn w0 v d (wr.alloc o) := h.newer ((Below.refl _ _).alloc (Nat.le_refl _) o)
theorem in_load (h : DevIn w0 v d wr) (off : Int) (hoff : I64 off) :
    Calls Tryd.prog 25 #[v, .int .i64 off] wr fun e w' => e = .returned (.tuple #[.int .u64 (d.load off : Nat), .int .i64 (d.err off 8)]) ∧ ∃ m, w' = wr.drewN m := by
  obtain ⟨F, h1, h2, h3⟩ := h; exact dev_load h1 off hoff
theorem in_store (h : DevIn w0 v d wr) (off : Int) (hoff : I64 off) (n : Nat) (hn : n < 2 ^ 64) (hs : d.steps ≤ 1000000000) :
    Calls Tryd.prog 18 #[v, .int .i64 off, .int .u64 (n : Int)] wr fun e w' => e = .returned (.int .i64 (d.err off 8)) ∧ DevIn w0 v (d.store off n) w' := by
  obtain ⟨F, h1, h2, h3⟩ := h
  exact (dev_store h1 off hoff n hn hs).mono fun e w' ⟨a, b⟩ => ⟨a, DevIn.step h2 h3 b⟩
theorem in_flush (h : DevIn w0 v d wr) (off : Int) (hoff : I64 off) (hs : d.steps ≤ 1000000000) :
    Calls Tryd.prog 64 #[v, .int .i64 off] wr fun e w' => e = .returned (.int .i64 (d.err off 1)) ∧ DevIn w0 v (d.flush off) w' := by
  obtain ⟨F, h1, h2, h3⟩ := h
  exact (dev_flush h1 off hoff hs).mono fun e w' ⟨a, b⟩ => ⟨a, DevIn.step h2 h3 b⟩
theorem in_fence (h : DevIn w0 v d wr) (hs : d.steps ≤ 1000000000) :
    Calls Tryd.prog 58 #[v] wr fun e w' => e = .returned (.int .i64 d.state) ∧ DevIn w0 v d.fence w' := by
  obtain ⟨F, h1, h2, h3⟩ := h
  exact (dev_fence h1 hs).mono fun e w' ⟨a, b⟩ => ⟨a, DevIn.step h2 h3 b⟩
theorem in_stop (h : DevIn w0 v d wr) (k : Int) (hk : -1000000000 ≤ k ∧ k ≤ 1000000000) :
    Calls Tryd.prog 28 #[v, .int .i64 k] wr fun e w' => e = .returned (.tuple #[]) ∧ DevIn w0 v (d.stop k) w' := by
  obtain ⟨F, h1, h2, h3⟩ := h
  exact (dev_stop h1 k hk).mono fun e w' ⟨a, b⟩ => ⟨a, DevIn.step h2 h3 b⟩
/-- Picks that were there ahead of the call. -/
theorem in_crash (h : DevIn w0 v d wr) (A : Option Addr) (len cap : Nat) (zs : List Int) (hp : IsBytes w0 (.slice A len cap) zs) (hA : zs ≠ [] → ∀ a, A = some a → a.block < w0.heap.size) (hs : d.steps ≤ 1000000000) :
    Calls Tryd.prog 22 #[v, .slice A len cap] wr fun e w' => e = .returned (.tuple #[]) ∧ DevIn w0 v (d.crash zs) w' := by
  obtain ⟨F, h1, h2, h3⟩ := h
  exact (dev_crash h1 A len cap zs (hp.below h3) (fun hz a e hf => by have := hA hz a e; have := h2 _ hf; omega) hs).mono fun e w' ⟨a, b⟩ => ⟨a, DevIn.step h2 h3 b⟩

theorem in_steps (h : DevIn w0 v d wr) : Calls Tryd.prog 27 #[v] wr fun e w' => e = .returned (.int .i64 (d.steps : Int)) ∧ wr = w' := by
  obtain ⟨F, h1, h2, h3⟩ := h; exact dev_steps h1
theorem in_size (h : DevIn w0 v d wr) : Calls Tryd.prog 40 #[v] wr fun e w' => e = .returned (.int .i64 (64 * d.lines.length : Nat)) ∧ wr = w' := by
  obtain ⟨F, h1, h2, h3⟩ := h; exact dev_size h1
theorem in_image (h : DevIn w0 v d wr) : Calls Tryd.prog 20 #[v] wr (fun e w' => NewBytes wr d.image e w' ∧ DevIn w0 v d w') := by
  have h' := h
  obtain ⟨F, h1, h2, h3⟩ := h
  exact (dev_image h1).mono fun e w' hn => ⟨hn, h'.newer (by obtain ⟨_, _, _, _, hb⟩ := hn; exact hb)⟩
end

theorem in_new (n : Nat) (h1 : 1 ≤ n) (h2 : n ≤ 1024) (w0 wr : World) (hb : Below w0.heap.size w0 wr) : Calls Tryd.prog 17 #[.int .i64 (n : Int)] wr fun e w' => ∃ D, e = .returned (.pointer (some ⟨D, 0, none⟩)) ∧ DevIn w0 (.pointer (some ⟨D, 0, none⟩)) (V.newDv n) w' := by
  refine (dev_new n h1 h2 wr).mono ?_
  rintro e w' ⟨v, F, rfl, hd, hb1, hF⟩
  have hd' := hd
  obtain ⟨D, L, ps, rfl, _⟩ := hd'
  exact ⟨D, rfl, F, hd, fun k hk => Nat.le_trans hb.size (hF k hk), hb.trans (hb1.mono hb.size)⟩

/-! ### A device of the call's own, beside blocks that its calls don't touch -/
theorem DevStep.newer {w w1 w2 : World} {v : Value} {d' : V.Dv} {F : List Nat} (hb : Below w.heap.size w w1) (hs : DevStep w1 v d' F w2) : DevStep w v d' F w2 := by
  obtain ⟨F', k1, k2, k3⟩ := hs
  refine ⟨F', k1, (Only.of_below hb).trans' k2, fun k hk => ?_⟩
  rcases k3 k hk with e | e
  · exact .inl e
  · exact .inr (Nat.le_trans hb.size e)
def DevK (w0 : World) (v : Value) (d : V.Dv) (K : List Nat) (wr : World) : Prop := ∃ F, Dev wr v d F ∧ (∀ k ∈ F, w0.heap.size ≤ k) ∧ Below w0.heap.size w0 wr ∧ ∀ k ∈ K, k ∉ F ∧ k < wr.heap.size
section

variable {w0 wr : World} {v : Value} {d d' : V.Dv} {K : List Nat}

theorem DevK.devIn (h : DevK w0 v d K wr) : DevIn w0 v d wr := by obtain ⟨F, h1, h2, h3, _⟩ := h; exact ⟨F, h1, h2, h3⟩
theorem DevIn.devK (h : DevIn w0 v d wr) : DevK w0 v d [] wr := by obtain ⟨F, h1, h2, h3⟩ := h; exact ⟨F, h1, h2, h3, fun k hk => by cases hk⟩
theorem DevK.drewN (h : DevK w0 v d K wr) (n : Nat) : DevK w0 v d K (wr.drewN n) := by obtain ⟨F, h1, h2, h3, h4⟩ := h; exact ⟨F, h1.drewN n, h2, below_drewN' h3 n, h4⟩
/-- A block that is new is kept from then on. -/
theorem DevK.newer {w1 : World} {K' : List Nat} (h : DevK w0 v d K wr) (hb : Below wr.heap.size wr w1) (hK : ∀ k ∈ K', k ∈ K ∨ (wr.heap.size ≤ k ∧ k < w1.heap.size)) : DevK w0 v d K' w1 := by
  obtain ⟨F, h1, h2, h3, h4⟩ := h
  refine ⟨F, h1.only (Only.of_below (F := []) hb) (fun k hk => by simp at hk), h2, h3.trans (hb.mono h3.size), fun k hk => ?_⟩
  rcases hK k hk with e | ⟨e1, e2⟩
  · exact ⟨(h4 k e).1, Nat.lt_of_lt_of_le (h4 k e).2 hb.size⟩
  · exact ⟨fun hf => by have := h1.lt k hf; omega, e2⟩
theorem DevK.run (h : DevK w0 v d K wr) {f : FuncId} {args : Array Value} {R : Ending → Prop} (hc : ∀ F, Dev wr v d F → Calls Tryd.prog f args wr fun e w' => R e ∧ DevStep wr v d' F w') :
    Calls Tryd.prog f args wr fun e w' => R e ∧ DevK w0 v d' K w' ∧ KeepB K wr w' := by
  obtain ⟨F, h1, h2, h3, h4⟩ := h
  refine (hc F h1).mono ?_
  rintro e w' ⟨hR, F', k1, k2, k3⟩
  refine ⟨hR, ⟨F', k1, fun k hk => ?_, h3.trans (k2.below h3.size h2), fun k hk => ⟨fun hf => ?_, Nat.lt_of_lt_of_le (h4 k hk).2 k2.size⟩⟩, fun k hk => k2.block k (h4 k hk).2 (h4 k hk).1⟩
  · rcases k3 k hk with e | e
    · exact h2 k e
    · exact Nat.le_trans h3.size e
  · rcases k3 k hf with e | e
    · exact (h4 k hk).1 e
    · have := (h4 k hk).2; omega
theorem keepB_below {S : List Nat} {W W' : World} (h : Below W.heap.size W W') (hS : ∀ k ∈ S, k < W.heap.size) : KeepB S W W' := fun k hk => h.block k (hS k hk)
theorem IsInts.keep {kk : IntKind} {w w' : World} {S : List Nat} {b o len cap : Nat} {zs : List Int} (h : IsInts kk w (.slice (some ⟨b, o, none⟩) len cap) zs) (hk : KeepB S w w') (hb : b ∈ S) : IsInts kk w' (.slice (some ⟨b, o, none⟩) len cap) zs := by
  obtain ⟨a, c, e, h2, h3, h4, h5⟩ := h
  simp only [Value.slice.injEq] at e
  obtain ⟨rfl, rfl, rfl⟩ := e
  refine ⟨_, cap, rfl, h2, h3, ?_, h5⟩
  rcases h4 with rfl | ⟨b', o', e, hc⟩
  · exact .inl rfl
  · simp only [Option.some.injEq, Addr.mk.injEq, and_true] at e
    obtain ⟨rfl, rfl⟩ := e
    exact .inr ⟨b, o, rfl, fun i hi => hk.cell hb (hc i hi)⟩
end

/-! ### alive -/
def A0 : V.Dv := V.newDv 2
def A1 : V.Dv := A0.store 8 5
def A2 : V.Dv := A1.crash []
def A3 : V.Dv := A2.store 8 6
def A4 : V.Dv := A3.flush 8
def A5 : V.Dv := A4.fence
def A6 : V.Dv := A5.crash [3]
theorem a_err0 : A0.err 8 8 = 0 := by decide +kernel
theorem a_may : A1.may 0 = 2 := by decide +kernel
theorem a_load1 : A1.load 8 = 5 ∧ A1.err 8 8 = 0 := by decide +kernel
theorem a_load2 : A2.load 8 = 0 ∧ A2.err 8 8 = 0 := by decide +kernel
theorem a_err3 : A3.err 8 1 = 0 ∧ A4.state = 0 := by decide +kernel
theorem a_load6 : A6.load 8 = 6 ∧ A6.err 8 8 = 0 ∧ A6.lines.length = 2 ∧ A6.steps = 4 ∧ A6.image.length = 128 ∧ A6.err 4 8 = 4 := by decide +kernel
theorem a_steps : A0.steps = 0 ∧ A1.steps = 1 ∧ A2.steps = 1 ∧ A3.steps = 2 ∧ A4.steps = 3 ∧ A5.steps = 4 := by decide +kernel
end Go.Proofs.YtmelmiookkeoaaaDoor
