/- NvmActs: a device and the reference's, side by side. -/
import Derived.Test.YtmamcliidlmghaaOfN
import Derived.Test.YtmamcliidlmghaaOfR
import Derived.Test.YtmamcliidlmghaaRfH
import Derived.Test.YtmamcliidlmghaaNvAl
import Derived.Test.YtmamcliidlmghaaNvOp
namespace Go.Proofs.Ytmamcliidlmghaa
open Go.RowKit

theorem done_near (d : V.Dv) (ls : List V.Ln) (k : Int) : (V.Dv.done { lines := ls, left := k, steps := d.steps }).steps = d.steps + 1 := rfl
theorem near_store (d : V.Dv) (off : Int) (n : Nat) : (d.store off n).steps ≤ d.steps + 1 ∧ (d.store off n).lines.length = d.lines.length := by
  unfold V.Dv.store; split
  · exact ⟨Nat.le_refl _, by simp [V.Dv.line, V.Dv.done]⟩
  · exact ⟨by omega, rfl⟩
theorem near_flush (d : V.Dv) (off : Int) : (d.flush off).steps ≤ d.steps + 1 ∧ (d.flush off).lines.length = d.lines.length := by
  unfold V.Dv.flush; split
  · exact ⟨Nat.le_refl _, by simp [V.Dv.line, V.Dv.done]⟩
  · exact ⟨by omega, rfl⟩
theorem near_fence (d : V.Dv) : d.fence.steps ≤ d.steps + 1 ∧ d.fence.lines.length = d.lines.length := by
  unfold V.Dv.fence; split
  · exact ⟨by omega, rfl⟩
  · exact ⟨Nat.le_refl _, by simp [V.Dv.settle, V.Dv.done]⟩
theorem near_stop (d : V.Dv) (k : Int) : (d.stop k).steps ≤ d.steps + 1 ∧ (d.stop k).lines.length = d.lines.length := by
  unfold V.Dv.stop; split <;> exact ⟨by simp, rfl⟩
theorem crashL_len : ∀ (ls : List V.Ln) (ps : List Int), (V.crashL ls ps).length = ls.length
  | [], _ => rfl
  | l :: ls, ps => by
    unfold V.crashL
    split
    · simp [crashL_len ls ps]
    · cases ps with
      | nil => simp [crashL_len ls []]
      | cons p ps => simp [crashL_len ls ps]
theorem near_crash (d : V.Dv) (ps : List Int) : (d.crash ps).steps ≤ d.steps + 1 ∧ (d.crash ps).lines.length = d.lines.length :=
  ⟨by show d.steps ≤ _; omega, crashL_len _ _⟩

/-- A device that reads as dD, beside a value in block B that is the reference's for dR; what is in K stays. -/
def Pair (w0 : World) (B : Nat) (vD : Value) (K : List (Nat × Obj)) (x0 x1 x2 x3 : Value) (dD dR : V.Dv) (wr : World) : Prop :=
  ∃ F, Dev wr vD dD F ∧ (∀ k ∈ F, w0.heap.size ≤ k) ∧ B ∉ F ∧ w0.heap.size ≤ B ∧ wr.heap[B]? = some (.cells #[x0, x1, x2, x3] 31 (0, 0)) ∧
    RefAt wr (B :: F) (.agg #[x0, x1, x2, x3]) dR ∧ Below w0.heap.size w0 wr ∧ ∀ p ∈ K, p.1 ∉ F ∧ p.1 ≠ B ∧ wr.heap[p.1]? = some p.2
section
variable {w0 wr : World} {B : Nat} {vD x0 x1 x2 x3 : Value} {K : List (Nat × Obj)} {dD dR d d' : V.Dv}
theorem Pair.shape (h : Pair w0 B vD K x0 x1 x2 x3 dD dR wr) : ∃ C n cap dn lf, x0 = .slice (some ⟨C, 0, none⟩) n cap ∧ x1 = .bool dn ∧ x2 = .int .i64 lf ∧ x3 = .int .i64 (dR.steps : Int) := by
  obtain ⟨F, _, _, _, _, _, ⟨C, cap, cs, dn, lf, e, _⟩, _⟩ := h
  simp only [Value.agg.injEq, Array.mk.injEq, List.cons.injEq, and_true] at e
  exact ⟨C, _, cap, dn, lf, e.1, e.2.1, e.2.2.1, e.2.2.2⟩
theorem Pair.bel (h : Pair w0 B vD K x0 x1 x2 x3 dD dR wr) : Below w0.heap.size w0 wr := by obtain ⟨F, _, _, _, _, _, _, h, _⟩ := h; exact h
theorem Pair.box (h : Pair w0 B vD K x0 x1 x2 x3 dD dR wr) : wr.heap[B]? = some (.cells #[x0, x1, x2, x3] 31 (0, 0)) := by obtain ⟨F, _, _, _, _, h, _⟩ := h; exact h
theorem Pair.kept (h : Pair w0 B vD K x0 x1 x2 x3 dD dR wr) {p : Nat × Obj} (hp : p ∈ K) : wr.heap[p.1]? = some p.2 := by obtain ⟨F, _, _, _, _, _, _, _, h⟩ := h; exact (h p hp).2.2
theorem Pair.good (h : Pair w0 B vD K x0 x1 x2 x3 dD dR wr) : dD.Good := by obtain ⟨F, h, _⟩ := h; exact h.good
theorem Pair.less (h : Pair w0 B vD K x0 x1 x2 x3 dD dR wr) : Pair w0 B vD [] x0 x1 x2 x3 dD dR wr := by
  obtain ⟨F, h1, h2, h3, h4, h5, h6, h7, _⟩ := h
  exact ⟨F, h1, h2, h3, h4, h5, h6, h7, fun p hp => by cases hp⟩
theorem Pair.newer {w' : World} (h : Pair w0 B vD K x0 x1 x2 x3 dD dR wr) (hb : Below wr.heap.size wr w') : Pair w0 B vD K x0 x1 x2 x3 dD dR w' := by
  obtain ⟨F, h1, h2, h3, h4, h5, h6, h7, h8⟩ := h
  refine ⟨F, h1.only (Only.of_below (F := []) hb) (fun k hk => by cases hk), h2, h3, h4, (hb.block B (Array.getElem?_eq_some_iff.1 h5).1).trans h5, h6.below hb, h7.trans (hb.mono h7.size), fun p hp => ?_⟩
  obtain ⟨k1, k2, k3⟩ := h8 p hp
  exact ⟨k1, k2, (hb.block _ (Array.getElem?_eq_some_iff.1 k3).1).trans k3⟩
theorem Pair.drewN (h : Pair w0 B vD K x0 x1 x2 x3 dD dR wr) (n : Nat) : Pair w0 B vD K x0 x1 x2 x3 dD dR (wr.drewN n) := h.newer (below_drewN' (Below.refl _ _) n)
/-- A block more that is kept. -/
theorem Pair.keep (h : Pair w0 B vD K x0 x1 x2 x3 dD dR wr) (o : Obj) : Pair w0 B vD ((wr.heap.size, o) :: K) x0 x1 x2 x3 dD dR (wr.alloc o) := by
  have hB := (Array.getElem?_eq_some_iff.1 h.box).1
  have hb : Below wr.heap.size wr (wr.alloc o) := (Below.refl _ _).alloc (Nat.le_refl _) o
  have hl : ∀ F, Dev wr vD dD F → wr.heap.size ∉ F := fun F hd hf => by have := hd.lt _ hf; omega
  obtain ⟨F, h1, h2, h3, h4, h5, h6, h7, h8⟩ := h
  obtain ⟨F', g⟩ : ∃ F', F' = F := ⟨F, rfl⟩
  refine ⟨F, h1.only (Only.of_below (F := []) hb) (fun k hk => by cases hk), h2, h3, h4, (hb.block B hB).trans h5, h6.below hb, h7.trans (hb.mono h7.size), fun p hp => ?_⟩
  rcases List.mem_cons.1 hp with rfl | hp
  · exact ⟨hl F h1, by show wr.heap.size ≠ B; omega, heap_alloc_new wr o⟩
  · obtain ⟨k1, k2, k3⟩ := h8 p hp
    exact ⟨k1, k2, (hb.block _ (Array.getElem?_eq_some_iff.1 k3).1).trans k3⟩
theorem Pair.start {w4 : World} {F : List Nat} (h1 : Dev w4 vD d F) (h2 : ∀ k ∈ F, w0.heap.size ≤ k) (hr : RefAt w4 F (.agg #[x0, x1, x2, x3]) d) (hb : Below w0.heap.size w0 w4) :
    Pair w0 w4.heap.size vD [] x0 x1 x2 x3 d d (w4.alloc (.cells #[x0, x1, x2, x3] 31)) := by
  have hb1 : Below w4.heap.size w4 (w4.alloc (.cells #[x0, x1, x2, x3] 31)) := (Below.refl _ _).alloc (Nat.le_refl _) _
  refine ⟨F, h1.only (Only.of_below (F := []) hb1) (fun k hk => by cases hk), h2, fun hf => by have := h1.lt _ hf; omega, hb.size, heap_alloc_new w4 _, hr.step (Only.of_below hb1) (fun k hk => ?_), hb.trans (hb1.mono hb.size), fun p hp => by cases hp⟩
  rcases List.mem_cons.1 hk with e | hk
  · exact .inr (by omega)
  · exact .inl hk
theorem Pair.cells (h : Pair w0 B vD K x0 x1 x2 x3 dD dR wr) : wr.cell? ⟨B, 0, none⟩ = some x0 ∧ wr.cell? ⟨B, 1, none⟩ = some x1 ∧ wr.cell? ⟨B, 2, none⟩ = some x2 ∧ wr.cell? ⟨B, 3, none⟩ = some x3 := (four h.box).1
/-- The copy of an act, read. -/
theorem Pair.act {A : Nat} {y0 y1 y2 y3 : Value} {t : TypeId} (h : Pair w0 B vD [(A, .cells #[y0, y1, y2, y3] t (0, 0))] x0 x1 x2 x3 dD dR wr) : wr.cell? ⟨A, 0, none⟩ = some y0 ∧ wr.cell? ⟨A, 1, none⟩ = some y1 ∧ wr.cell? ⟨A, 2, none⟩ = some y2 ∧ wr.cell? ⟨A, 3, none⟩ = some y3 :=
  (four (h.kept (List.mem_singleton.2 rfl))).1
/-- A call on the device. -/
theorem Pair.dev {f : FuncId} {args : Array Value} {R : Ending → Prop} (h : Pair w0 B vD K x0 x1 x2 x3 dD dR wr) (hc : ∀ F, Dev wr vD dD F → (∀ k ∈ F, w0.heap.size ≤ k) → Calls Try.prog f args wr fun e w' => R e ∧ DevStep wr vD d' F w') :
    Calls Try.prog f args wr fun e w' => R e ∧ Pair w0 B vD K x0 x1 x2 x3 d' dR w' := by
  obtain ⟨F, h1, h2, h3, h4, h5, h6, h7, h8⟩ := h
  refine (hc F h1 h2).mono ?_
  rintro e w' ⟨hr, F', g1, g2, g3⟩
  have hB := (Array.getElem?_eq_some_iff.1 h5).1
  have hs := h7.size
  refine ⟨hr, F', g1, fun k hk => ?_, fun hf => ?_, h4, (g2.block B hB h3).trans h5, h6.step (g2.mono (fun k hk => by simp [hk])) (fun k hk => ?_), h7.trans (g2.below hs h2), fun p hp => ?_⟩
  · rcases g3 k hk with e | e
    · exact h2 k e
    · omega
  · rcases g3 B hf with e | e
    · exact h3 e
    · omega
  · rcases List.mem_cons.1 hk with e | hk
    · exact .inl (by simp [e])
    · rcases g3 k hk with e | e
      · exact .inl (by simp [e])
      · exact .inr e
  · obtain ⟨k1, k2, k3⟩ := h8 p hp
    have hk := (Array.getElem?_eq_some_iff.1 k3).1
    refine ⟨fun hf => ?_, k2, (g2.block _ hk k1).trans k3⟩
    rcases g3 _ hf with e | e
    · exact k1 e
    · omega
theorem Pair.asks {f : FuncId} {args : Array Value} {Q : Ending → World → Prop} (h : Pair w0 B vD K x0 x1 x2 x3 dD dR wr) (hc : ∀ F, Dev wr vD dD F → Calls Try.prog f args wr Q) : Calls Try.prog f args wr Q := by
  obtain ⟨F, h1, _⟩ := h; exact hc F h1
/-- What the reference's call leaves that hands a device back, and what the store of it leaves. -/
def Stored (w0 : World) (B : Nat) (vD : Value) (K : List (Nat × Obj)) (d' : V.Dv) (m : Value) (w' : World) : Prop :=
  ∃ C n cap dn lf, m = .agg #[.slice (some ⟨C, 0, none⟩) n cap, .bool dn, .int .i64 lf, .int .i64 (d'.steps : Int)] ∧ Below w0.heap.size w0 w' ∧ (∃ x0 x1 x2 x3, w'.heap[B]? = some (.cells #[x0, x1, x2, x3] 31 (0, 0))) ∧
    ∃ W, W = ((((w'.setCell ⟨B, 0, none⟩ (.slice (some ⟨C, 0, none⟩) n cap)).setCell ⟨B, 1, none⟩ (.bool dn)).setCell ⟨B, 2, none⟩ (.int .i64 lf)).setCell ⟨B, 3, none⟩ (.int .i64 (d'.steps : Int))) ∧ Pair w0 B vD K (.slice (some ⟨C, 0, none⟩) n cap) (.bool dn) (.int .i64 lf) (.int .i64 (d'.steps : Int)) d' d' W
theorem Pair.stored {w' : World} {m : Value} {F : List Nat} (h1 : Dev wr vD d' F) (h2 : ∀ k ∈ F, w0.heap.size ≤ k) (h3 : B ∉ F) (h4 : w0.heap.size ≤ B) (h5 : wr.heap[B]? = some (.cells #[x0, x1, x2, x3] 31 (0, 0)))
    (h7 : Below w0.heap.size w0 wr) (h8 : ∀ p ∈ K, p.1 ∉ F ∧ p.1 ≠ B ∧ wr.heap[p.1]? = some p.2) (hr : RefAt w' (B :: F) m d') (hb : Below wr.heap.size wr w') : Stored w0 B vD K d' m w' := by
  have hr' := hr
  obtain ⟨C, cap, cs, dn, lf, rfl, _⟩ := hr'
  have hB := (Array.getElem?_eq_some_iff.1 h5).1
  have h5' := (hb.block B hB).trans h5
  have h7' := h7.trans (hb.mono h7.size)
  have h1' : Dev w' vD d' F := h1.only (Only.of_below (F := []) hb) (fun k hk => by cases hk)
  refine ⟨C, _, cap, dn, lf, rfl, h7', ⟨_, _, _, _, h5'⟩, _, rfl, F, ?_, h2, h3, h4, sets_same h5' _ _ _ _, hr.sets' (by simp) (fun k hk => hk) _ _ _ _, sets_below h7' h4 _ _ _ _, fun p hp => ?_⟩
  · have k1 : ∀ (W : World) i v, Only [B] W (W.setCell ⟨B, i, none⟩ v) := fun W i v => Only.setCell W ⟨B, i, none⟩ v
    exact h1'.only ((((k1 _ _ _).trans' (k1 _ _ _)).trans' (k1 _ _ _)).trans' (k1 _ _ _)) (fun k hk => by rw [List.mem_singleton.1 hk]; exact h3)
  · obtain ⟨k1, k2, k3⟩ := h8 p hp
    exact ⟨k1, k2, (sets_other _ _ _ k2 _ _ _ _).trans ((hb.block _ (Array.getElem?_eq_some_iff.1 k3).1).trans k3)⟩
theorem Pair.refE {f : FuncId} {args : Array Value} {er : Int} (h : Pair w0 B vD K x0 x1 x2 x3 d' dR wr) (hc : ∀ F, RefAt wr F (.agg #[x0, x1, x2, x3]) dR → (∀ k ∈ F, k < wr.heap.size) → Calls Try.prog f args wr (RetRefE wr F d' er)) :
    Calls Try.prog f args wr fun e w' => ∃ m, e = .returned (.tuple #[m, .int .i64 er]) ∧ Stored w0 B vD K d' m w' := by
  obtain ⟨F, h1, h2, h3, h4, h5, h6, h7, h8⟩ := h
  refine (hc _ h6 (fun k hk => ?_)).mono ?_
  · rcases List.mem_cons.1 hk with e | hk
    · rw [e]; exact (Array.getElem?_eq_some_iff.1 h5).1
    · exact h1.lt k hk
  · rintro e w' ⟨m, rfl, hr, hb⟩
    exact ⟨m, rfl, Pair.stored h1 h2 h3 h4 h5 h7 h8 hr hb⟩
theorem Pair.ref {f : FuncId} {args : Array Value} (h : Pair w0 B vD K x0 x1 x2 x3 d' dR wr) (hc : ∀ F, RefAt wr F (.agg #[x0, x1, x2, x3]) dR → (∀ k ∈ F, k < wr.heap.size) → Calls Try.prog f args wr (RetRef wr F d')) :
    Calls Try.prog f args wr fun e w' => ∃ m, e = .returned m ∧ Stored w0 B vD K d' m w' := by
  obtain ⟨F, h1, h2, h3, h4, h5, h6, h7, h8⟩ := h
  refine (hc _ h6 (fun k hk => ?_)).mono ?_
  · rcases List.mem_cons.1 hk with e | hk
    · rw [e]; exact (Array.getElem?_eq_some_iff.1 h5).1
    · exact h1.lt k hk
  · rintro e w' ⟨m, rfl, hr, hb⟩
    exact ⟨m, rfl, Pair.stored h1 h2 h3 h4 h5 h7 h8 hr hb⟩
/-- A call of the reference that hands no device back. -/
theorem Pair.says {f : FuncId} {args : Array Value} {R : Ending → Prop} (h : Pair w0 B vD K x0 x1 x2 x3 dD dR wr) (hc : ∀ F, RefAt wr F (.agg #[x0, x1, x2, x3]) dR → Calls Try.prog f args wr fun e w' => R e ∧ Below wr.heap.size wr w') :
    Calls Try.prog f args wr fun e w' => R e ∧ Pair w0 B vD K x0 x1 x2 x3 dD dR w' := by
  have h' := h
  obtain ⟨F, _, _, _, _, _, h6, _⟩ := h
  exact (hc _ h6).mono fun e w' ⟨a, b⟩ => ⟨a, h'.newer b⟩
end
end Go.Proofs.Ytmamcliidlmghaa
