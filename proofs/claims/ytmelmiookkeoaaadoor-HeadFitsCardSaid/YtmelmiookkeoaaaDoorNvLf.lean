
/- Contract of a line's back: the words that stores wrote over are put back, from a number on; one content alone is left. -/
import Derived.Test.YtmelmiookkeoaaaDoorNvLe

import Derived.BigRegion

namespace Go.Proofs.YtmelmiookkeoaaaDoor

open Go.RowKit Go.Shelf
attribute [local go_sem] Oper.semAt_some

/-- Words put one by one. -/
def redo (b : List Int) (xs : List (Nat × Ch)) : List Int := xs.foldl (fun b x => M.pv b x.2.1.1 x.2.1.2 8) b
theorem redo_snoc (b : List Int) (xs : List (Nat × Ch)) (x : Nat × Ch) : redo b (xs ++ [x]) = M.pv (redo b xs) x.2.1.1 x.2.1.2 8 := by simp [redo]
theorem redo_length (b : List Int) (xs : List (Nat × Ch)) : (redo b xs).length = b.length := by
  induction xs generalizing b with
  | nil => rfl
  | cons x xs ih => rw [redo, List.foldl_cons, ← redo, ih, M.pv_length]
theorem redo_revs (b : List Int) (cs : List Ch) (k : Nat) (hk : k ≤ cs.length) : redo b (revs cs k) = V.undo b ((cs.map (·.1)).drop (cs.length - k)) := by
  induction k with
  | zero => rw [Nat.sub_zero, List.drop_of_length_le (by simp)]; rfl
  | succ k ih =>
    rw [revs_succ, redo_snoc, ih (by omega)]
    have hlt : cs.length - (k + 1) < (cs.map (·.1)).length := by rw [List.length_map]; omega
    rw [List.drop_eq_getElem_cons hlt, V.undo_cons, show cs.length - (k + 1) + 1 = cs.length - k by omega]
    have e : cs.length - 1 - k = cs.length - (k + 1) := by omega
    simp only [e, List.getElem_map, List.getD_eq_getElem?_getD]
    rw [List.getElem?_eq_getElem (by simpa using hlt)]
    rfl
theorem lift_ch : ∀ (l : List (Nat × Nat)), (∀ c ∈ l, c.1 % 8 = 0 ∧ c.1 + 8 ≤ 64 ∧ c.2 < 2 ^ 64) → ∃ l' : List Ch, l'.map (·.1) = l
  | [], _ => ⟨[], rfl⟩
  | c :: l, h => by
    obtain ⟨l', rfl⟩ := lift_ch l (fun c hc => h c (List.mem_cons_of_mem _ hc))
    exact ⟨⟨c, h c (by simp)⟩ :: l', rfl⟩
theorem chs_of_own {w : World} {g len cap : Nat} {xs : List (Nat × Nat)} (h : w.ownsRow 0 85 2 (.slice (some ⟨g, 0, none⟩) len cap) len (overCells xs)) (k : Nat) (cs : List Ch) (hcs : cs.map (·.1) = xs.drop k) :
    Chs w (some ⟨g, k * 2, none⟩) cs := by
  refine .inr ⟨g, k * 2, rfl, fun j c hj => ?_⟩
  have h1 : (xs.drop k)[j]? = some c.1 := by rw [← hcs, List.getElem?_map, hj]; rfl
  rw [List.getElem?_drop] at h1
  obtain ⟨h2, h3⟩ := overCells_get xs (k + j) c.1 h1
  have hc := h.cells (g := g) rfl
  have h4 := hc _ _ h2
  have h5 := hc _ _ h3
  rw [Addr.add_lit] at h4 h5
  rw [show 0 + (k + j) * 2 = k * 2 + j * 2 by omega] at h4
  rw [show 0 + ((k + j) * 2 + 1) = k * 2 + j * 2 + 1 by omega] at h5
  exact ⟨h4, h5⟩
theorem keepB_putObj {S : List Nat} {n : Nat} (hS : ∀ k ∈ S, k < n) (W : World) (l : Nat) (o' : Obj) (hl : n ≤ l) : KeepB S W (W.putObj l o') := fun k hk =>
  World.putObj_heap_other (fun e => by have := hS k hk; omega)

/-- What a round of the loop in back keeps: the line with words put back, the receiver's box, all other blocks. -/
structure BackI (w : World) (L : Nat) (pre post : List Value) (l : V.Ln) (v : Value) (B : Nat) (xs : List (Nat × Ch)) (W : World) : Prop where
  line : LineAt W L pre post ⟨redo l.now xs, l.over, l.mark⟩ v
  box : Boxed W B 67 (.pointer (some ⟨L, pre.length, none⟩))
  only : Only [L] w W
  big : w.heap.size + 2 ≤ W.heap.size
theorem backI_own (w : World) (L : Nat) (pre post : List Value) (l : V.Ln) (v : Value) (B B0 : Nat) (hB0 : w.heap.size ≤ B0) : OwnFrom B0 (BackI w L pre post l v B) := fun s X Y row hs hg hr => by
  have hne : ∀ k (o : Obj), X.heap[k]? = some o → o.isCells = true → some k ≠ row := fun k o hk ho e => by
    obtain ⟨o', ho', hc⟩ := (hr k e.symm).2
    rw [hk] at ho'; cases ho'; rw [ho] at hc; cases hc
  refine ⟨⟨(hg.block L hs.line.lt (hne L _ hs.line.row rfl)).trans hs.line.row, hs.line.good, ?_, hs.line.apart⟩, hs.box.kept hg (hne B _ hs.box rfl), hs.only.grown hg (fun k e => .inr (Nat.le_trans hB0 (hr k e).1)), Nat.le_trans hs.big hg.size⟩
  refine hs.line.own.kept hg ?_
  rcases hs.line.own.2 with ⟨rfl, _⟩ | ⟨g, cap, cur, e, _, hgb, _⟩
  · exact .inl rfl
  · subst e; exact .inr (hne g _ hgb rfl)
theorem BackI.alloc {w : World} {L : Nat} {pre post : List Value} {l : V.Ln} {v : Value} {B : Nat} {xs : List (Nat × Ch)} {W : World} (h : BackI w L pre post l v B xs W) (o : Obj) : BackI w L pre post l v B xs (W.alloc o) :=
  ⟨h.line.only (F := []) ((Only.refl _ W).alloc o) (by simp) (fun _ _ => by simp), h.box.alloc o, h.only.alloc o, by have := h.big; simp; omega⟩
theorem BackI.put {w : World} {L : Nat} {pre post : List Value} {l : V.Ln} {v : Value} {B : Nat} {xs : List (Nat × Ch)} {x : Nat × Ch} {W W' : World} (h : BackI w L pre post l v B xs W) (hB : B ≠ L)
    (hl : LineAt W' L pre post ⟨M.pv (redo l.now xs) x.2.1.1 x.2.1.2 8, l.over, l.mark⟩ v) (ho : Only [L] W W') : BackI w L pre post l v B (xs ++ [x]) W' :=
  ⟨by rw [redo_snoc]; exact hl, (ho.block B h.box.lt (by simpa using hB)).trans h.box, h.only.trans' ho, Nat.le_trans h.big ho.size⟩
theorem keepsFrom_only {L B : Nat} {W W' : World} (h : Only [L] W W') (hL : ∃ o : Obj, W.heap[L]? = some o ∧ o.isCells = true) : KeepsFrom B W W' :=
  ⟨h.size, fun k o _ hk ho => (h.block k (Array.getElem?_eq_some_iff.1 hk).1 (by
    intro e
    obtain rfl := List.mem_singleton.1 e
    obtain ⟨o', ho', hc⟩ := hL
    rw [hk] at ho'; cases ho'; rw [ho] at hc; cases hc)).trans hk⟩

set_option maxRecDepth 100000 in
set_option maxHeartbeats 4000000 in
theorem ln_back_some (w : World) (L : Nat) (pre post : List Value) (l : V.Ln) (g c k : Nat) (h : LineAt w L pre post l (.slice (some ⟨g, 0, none⟩) l.over.length c)) (hk : k ≤ l.over.length) (hlc : l.over.length ≤ c) (hcm : c ≤ maxLen) (hlen : l.over.length ≤ 1000000000) :
    Calls Tryd.prog 46 #[.pointer (some ⟨L, pre.length, none⟩), .int .i64 (k : Int)] w (LnPost w L pre post (.slice (some ⟨g, 0, none⟩) l.over.length c) (l.back k)) := by
  obtain ⟨cs, hcs⟩ := lift_ch (l.over.drop k) (fun c hc => h.good.over c (List.mem_of_mem_drop hc))
  have hcl : cs.length = l.over.length - k := by have := congrArg List.length hcs; simpa using this
  have hgw : g < w.heap.size := by
    rcases h.own.2 with ⟨e, _⟩ | ⟨g', _, _, e, _, hg, _⟩
    · simp at e
    · simp at e; rw [e.1]; exact (Array.getElem?_eq_some_iff.1 hg).1
  have hgL : g ≠ L := fun e => h.apart (by rw [e]; rfl)
  obtain ⟨A, hA, HCh, HAg⟩ : ∃ A : Option Addr, (if c = k then some (⟨g, 0, none⟩ : Addr) else some ⟨g, k * 2, none⟩) = A ∧ Hid (Chs w A cs) ∧ Hid (∀ a, A = some a → a.block = g) := by
    by_cases hck : c = k
    · refine ⟨some ⟨g, 0, none⟩, by simp [hck], .inl ?_, fun a e => by cases e; rfl⟩
      exact List.eq_nil_of_length_eq_zero (by omega)
    · exact ⟨some ⟨g, k * 2, none⟩, by simp [hck], chs_of_own h.own k cs hcs, fun a e => by cases e; rfl⟩
  have hover := h.over
  have HFR := Lib.hid (fun j => h.free j)
  have hlt := h.lt
  have hkc : k ≤ c := by omega
  have HL := Lib.hid h
  have HCS := Lib.hid hcs
  have HCL := Lib.hid hcl
  have HPUT := Lib.hid (fun (W : World) (l' : V.Ln) (v : Value) (x : Ch) (h : LineAt W L pre post l' v) => ln_put W L pre post l' v x.1.1 x.1.2 h x.2.1 x.2.2.1 x.2.2.2)
  have hcm2 := hcm
  clear hcm
  unfold maxLen at hcm2
  clear h hcs hcl
  generalize hol : pre.length = o at *
  have HOL := Lib.hid hol
  clear hol
  refine (callsIn_wide (n := 6)).1 ?_
  refine callsIn_of_wp_marks Tryd.func46 rfl trivial ?_ rfl
  simp only [Tryd.ntmps46, List.size_toArray, List.length_cons, List.length_nil, Nat.reduceAdd, Nat.reduceSub, Array.replicate_succ, Array.replicate_zero, List.push_toArray, List.append_toArray, List.nil_append, List.cons_append]
  have hbox := Boxed.new w 67 (.pointer (some ⟨L, o, none⟩))
  have hbc := hbox.cell
  gi_wp2_with (refine ⟨trivial, ?_⟩; gi_at_call 59; refine (backward_in Fence.wide _ trivial rfl _ _ _ _).mono ?_; rintro e w' ⟨rfl, rfl⟩)
  have bN := Boxed.new (w.alloc (.cells #[.pointer (some ⟨L, o, none⟩)] 67)) 75 (.slice A (l.over.length - k) (c - k))
  have bB := hbox.alloc (.cells #[.slice A (l.over.length - k) (c - k)] 75)
  rw [World.size_alloc] at bN
  have hO0 : Only [L] w ((w.alloc (.cells #[.pointer (some ⟨L, o, none⟩)] 67)).alloc (.cells #[.slice A (l.over.length - k) (c - k)] 75)) := ((Only.refl [L] w).alloc _).alloc _
  have hOe : Only [] w ((w.alloc (.cells #[.pointer (some ⟨L, o, none⟩)] 67)).alloc (.cells #[.slice A (l.over.length - k) (c - k)] 75)) := ((Only.refl [] w).alloc _).alloc _
  have hB0 : Below w.heap.size w ((w.alloc (.cells #[.pointer (some ⟨L, o, none⟩)] 67)).alloc (.cells #[.slice A (l.over.length - k) (c - k)] 75)) := ((Below.refl _ w).alloc (Nat.le_refl _) _).alloc (by simp) _
  have hsz : ((w.alloc (.cells #[.pointer (some ⟨L, o, none⟩)] 67)).alloc (.cells #[.slice A (l.over.length - k) (c - k)] 75)).heap.size = w.heap.size + 2 := by simp
  obtain ⟨W0, hW0⟩ : ∃ W0, (w.alloc (.cells #[.pointer (some ⟨L, o, none⟩)] 67)).alloc (.cells #[.slice A (l.over.length - k) (c - k)] 75) = W0 := ⟨_, rfl⟩
  rw [hW0] at bN bB hO0 hOe hB0 hsz ⊢
  clear hW0 hbox hbc
  have hkS : ∀ k ∈ [w.heap.size + 1, g], k < W0.heap.size := by
    intro k hk
    simp at hk
    omega
  have hCh0 : Chs W0 A cs := HCh.out.keep (S := [g]) (fun k hk => hB0.block k (by simp at hk; omega)) (fun a e => by rw [HAg.out a e]; simp)
  have hbN := bN.cell
  rw [← HCL.out] at hbN
  have hI0 : BackI w L pre post l (.slice (some ⟨g, 0, none⟩) l.over.length c) w.heap.size [] W0 := ⟨HL.out.only hOe (by simp) (fun _ _ => by simp), by rw [HOL.out]; exact bB, hO0, by omega⟩
  refine wpIn_rangeFunc_ownH rfl (by omega) (gf := 66) (lb := #[.pointer (some ⟨w.heap.size + 1, 0, none⟩)]) rfl trivial (enters_of Tryd.func66 (by kernel_rfl) rfl)
    (backward_stops Fence.wide _ trivial rfl (by omega) (w.heap.size + 1) A (c - k) cs [w.heap.size + 1, g] (by simp) (fun a e => by rw [HAg.out a e]; simp) (by rw [HCL.out]; omega) W0 hkS hbN hCh0) KeepB.trans (fun W l' o1 o' hl _ _ _ => keepB_putObj hkS W l' o' hl) (Below.refl _ _) (fun _ => rfl)
    (BackI w L pre post l (.slice (some ⟨g, 0, none⟩) l.over.length c) w.heap.size)
    (fun _ _ _ => False)
    (backI_own w L pre post l _ _ W0.heap.size (by omega))
    (fun _ _ _ _ _ hs _ _ => hs)
    hI0
    (fun x a' W => ∃ Bx, w.heap.size + 1 < Bx ∧ W.heap[Bx]? = some (.cells #[.int .i64 (x.2.1.1 : Int), .int .u64 (x.2.1.2 : Int)] 85 (0, 0)) ∧ a' = { tmps := #[.pointer (some ⟨L, o, none⟩), .int .i64 (k : Int), .pointer (some ⟨w.heap.size, 0, none⟩), undef, undef, .pointer (some ⟨Bx, 0, none⟩), .pointer (some ⟨L, o, none⟩), .pointer (some ⟨L, o, none⟩), .pointer (some ⟨L, o + 64, none⟩), .slice (some ⟨g, 0, none⟩) l.over.length c, .int .i64 (k : Int), .slice A (l.over.length - k) (c - k), .func (.func 66) #[] #[.pointer (some ⟨w.heap.size + 1, 0, none⟩)], .int .i64 (x.1 : Int), .agg #[.int .i64 (x.2.1.1 : Int), .int .u64 (x.2.1.2 : Int)], undef, undef, undef, undef, undef, undef, undef, undef, undef, undef, undef, undef], defers := [] })
    (fun x a' _ X Y row hs hg hr => by
      obtain ⟨Bx, h1, h2, h3⟩ := hs
      exact ⟨Bx, h1, (hg.block Bx (Array.getElem?_eq_some_iff.1 h2).1 (fun e => by obtain ⟨o', ho', hc⟩ := (hr Bx e.symm).2; rw [h2] at ho'; cases ho'; cases hc)).trans h2, h3⟩)
    ?assign ?body ?done ?stop
  case assign =>
    rintro l1 pre1 x W K hi hK
    gi_wp2
    have hbig := hi.big
    exact hK _ _ ((KeepsOthers.alloc _ _).from _) (fun k hk => Below.heap_alloc W _ k (by have := hkS k hk; omega)) (hi.alloc _) ⟨W.heap.size, by omega, heap_alloc_new W _, rfl⟩
  case body =>
    rintro l1 pre1 x a' W hl ⟨r, hr⟩ hi ⟨Bx, hBx, bX, rfl⟩ hlt1
    have cB := hi.box.cell
    rw [HOL.out] at cB
    have c0 : W.cell? ⟨Bx, 0, none⟩ = some (.int .i64 (x.2.1.1 : Int)) := cell_of_row W Bx 0 _ _ _ bX
    have c1 : W.cell? ⟨Bx, 1, none⟩ = some (.int .u64 (x.2.1.2 : Int)) := cell_of_row W Bx 1 _ _ _ bX
    have HI := Lib.hid hi
    clear bX hr hi
    gi_wp2_with (refine ⟨trivial, ?_⟩; gi_at_call 53; refine (CallsIn.inRound l1 (callsIn_wide.2 (HPUT.out _ _ _ x.2 HI.out.line))).mono ?_; rintro e w' ⟨rfl, h1, h2⟩; have H1 := Lib.hid h1; have H2 := Lib.hid h2; clear h1 h2)
    have hlW := HI.out.line.lt
    have hbig := HI.out.big
    exact ⟨keepsFrom_only H2.out ⟨_, HI.out.line.row, rfl⟩, fun k hk => H2.out.block k (by simp at hk; omega) (by simp at hk ⊢; omega), HI.out.put (by omega) H1.out H2.out⟩
  case done =>
    rintro D ys W hD rfl hi hK
    gi_wp2
    have cB := hi.box.cell
    have cO := hi.line.over
    have cM := hi.line.mark
    have fO := hi.line.free (pre.length + 64)
    have fM := hi.line.free (pre.length + 65)
    rw [HOL.out] at cB cO cM fO fM
    have hne : ¬ w.heap.size = L := by omega
    have hne2 : ¬ L = w.heap.size := by omega
    have HI := Lib.hid hi
    have HK := Lib.hid hK
    clear hi hK
    gi_region
    have HF : Hid (LineAt ((W.setCell ⟨L, o + 64, none⟩ (.slice none 0 0)).setCell ⟨L, o + 65, none⟩ (.int .i64 0)) L pre post (l.back k) (.slice none 0 0) ∧ Only [L] W ((W.setCell ⟨L, o + 64, none⟩ (.slice none 0 0)).setCell ⟨L, o + 65, none⟩ (.int .i64 0))) := by
      have h := LineAt.withBoth (o := []) (m := 0) (v' := .slice none 0 0) HI.out.line.row ⟨HI.out.line.good.len, HI.out.line.good.byte, fun _ hc => by simp at hc, Nat.le_refl _⟩ (World.ownsRow_nil W 0 _ 2) (by simp [Value.ownBlock])
      rw [HOL.out] at h
      have e : l.back k = ⟨redo l.now (revs cs cs.length), [], 0⟩ := by
        rw [redo_revs _ _ _ (Nat.le_refl _), Nat.sub_self, List.drop_zero, HCS.out]
        rfl
      rw [e]
      exact h
    have hDL : D ≠ L := fun e => by
      have h1 := HK.out
      rw [e, HI.out.line.row] at h1
      cases h1
    have hK' : (((W.setCell ⟨L, o + 64, none⟩ (.slice none 0 0)).setCell ⟨L, o + 65, none⟩ (.int .i64 0)).drew).heap[D]? = some (.deferred (some [])) := by
      refine (Below.heap_setCell _ _ _ _ hDL).trans ((Below.heap_setCell _ _ _ _ hDL).trans HK.out)
    refine ⟨by simp, .inl ⟨_, _, rfl, run_takeDeferred hK', ?_⟩⟩
    have hg := grownBy_putObj' (((W.setCell ⟨L, o + 64, none⟩ (.slice none 0 0)).setCell ⟨L, o + 65, none⟩ (.int .i64 0)).drew) D (.deferred none)
    refine ⟨.tuple #[], by simp [results, Tryd.f46, go_sem], rfl, .slice none 0 0, ?_, ?_, ?_⟩
    · exact (show LineAt (((W.setCell ⟨L, o + 64, none⟩ (.slice none 0 0)).setCell ⟨L, o + 65, none⟩ (.int .i64 0)).drew) L pre post (l.back k) (.slice none 0 0) from HF.out.1.drewN 1).only (F := [D]) ((Only.refl [D] _).grown hg (fun k e => .inl (by cases e; simp))) (by simpa using fun e => hDL e.symm) (fun g hg => by simp [Value.ownBlock] at hg)
    · exact (((HI.out.only.trans' HF.out.2).drew.mono (by simp)).grown hg (fun k e => .inr (by cases e; omega)))
    · intro k hk
      simp [ownL, Value.ownBlock] at hk
  case stop =>
    rintro D c' pre1 W _ _ h _
    exact h.elim

set_option maxRecDepth 100000 in
set_option maxHeartbeats 4000000 in
theorem ln_back_none (w : World) (L : Nat) (pre post : List Value) (l : V.Ln) (h : LineAt w L pre post l (.slice none 0 0)) (h0 : l.over = []) :
    Calls Tryd.prog 46 #[.pointer (some ⟨L, pre.length, none⟩), .int .i64 0] w (LnPost w L pre post (.slice none 0 0) (l.back 0)) := by
  have HCS : Hid (([] : List Ch).map (·.1) = l.over.drop 0) := by show _ = _; rw [h0]; rfl
  have hover := h.over
  have HFR := Lib.hid (fun j => h.free j)
  have hlt := h.lt
  have HL := Lib.hid h
  have HPUT := Lib.hid (fun (W : World) (l' : V.Ln) (v : Value) (x : Ch) (h : LineAt W L pre post l' v) => ln_put W L pre post l' v x.1.1 x.1.2 h x.2.1 x.2.2.1 x.2.2.2)
  clear h h0
  generalize hol : pre.length = o at *
  have HOL := Lib.hid hol
  clear hol
  refine (callsIn_wide (n := 6)).1 ?_
  refine callsIn_of_wp_marks Tryd.func46 rfl trivial ?_ rfl
  simp only [Tryd.ntmps46, List.size_toArray, List.length_cons, List.length_nil, Nat.reduceAdd, Nat.reduceSub, Array.replicate_succ, Array.replicate_zero, List.push_toArray, List.append_toArray, List.nil_append, List.cons_append]
  have hbox := Boxed.new w 67 (.pointer (some ⟨L, o, none⟩))
  have hbc := hbox.cell
  gi_wp2_with (refine ⟨trivial, ?_⟩; gi_at_call 59; refine (backward_in Fence.wide _ trivial rfl _ _ _ _).mono ?_; rintro e w' ⟨rfl, rfl⟩)
  have bN := Boxed.new (w.alloc (.cells #[.pointer (some ⟨L, o, none⟩)] 67)) 75 (.slice none 0 0)
  have bB := hbox.alloc (.cells #[.slice none 0 0] 75)
  rw [World.size_alloc] at bN
  have hO0 : Only [L] w ((w.alloc (.cells #[.pointer (some ⟨L, o, none⟩)] 67)).alloc (.cells #[.slice none 0 0] 75)) := ((Only.refl [L] w).alloc _).alloc _
  have hOe : Only [] w ((w.alloc (.cells #[.pointer (some ⟨L, o, none⟩)] 67)).alloc (.cells #[.slice none 0 0] 75)) := ((Only.refl [] w).alloc _).alloc _
  have hB0 : Below w.heap.size w ((w.alloc (.cells #[.pointer (some ⟨L, o, none⟩)] 67)).alloc (.cells #[.slice none 0 0] 75)) := ((Below.refl _ w).alloc (Nat.le_refl _) _).alloc (by simp) _
  have hsz : ((w.alloc (.cells #[.pointer (some ⟨L, o, none⟩)] 67)).alloc (.cells #[.slice none 0 0] 75)).heap.size = w.heap.size + 2 := by simp
  obtain ⟨W0, hW0⟩ : ∃ W0, (w.alloc (.cells #[.pointer (some ⟨L, o, none⟩)] 67)).alloc (.cells #[.slice none 0 0] 75) = W0 := ⟨_, rfl⟩
  rw [hW0] at bN bB hO0 hOe hB0 hsz ⊢
  clear hW0 hbox hbc
  have hkS : ∀ k ∈ [w.heap.size + 1], k < W0.heap.size := by
    intro k hk
    simp at hk
    omega
  have hCh0 : Chs W0 none ([] : List Ch) := .inl rfl
  have hbN := bN.cell
  have hI0 : BackI w L pre post l (.slice none 0 0) w.heap.size [] W0 := ⟨HL.out.only hOe (by simp) (fun _ _ => by simp), by rw [HOL.out]; exact bB, hO0, by omega⟩
  refine wpIn_rangeFunc_ownH rfl (by omega) (gf := 66) (lb := #[.pointer (some ⟨w.heap.size + 1, 0, none⟩)]) rfl trivial (enters_of Tryd.func66 (by kernel_rfl) rfl)
    (backward_stops Fence.wide _ trivial rfl (by omega) (w.heap.size + 1) none 0 [] [w.heap.size + 1] (by simp) (fun a e => by cases e) (by simp) W0 hkS hbN hCh0) KeepB.trans (fun W l' o1 o' hl _ _ _ => keepB_putObj hkS W l' o' hl) (Below.refl _ _) (fun _ => rfl)
    (BackI w L pre post l (.slice none 0 0) w.heap.size)
    (fun _ _ _ => False)
    (backI_own w L pre post l _ _ W0.heap.size (by omega))
    (fun _ _ _ _ _ hs _ _ => hs)
    hI0
    (fun x a' W => ∃ Bx, w.heap.size + 1 < Bx ∧ W.heap[Bx]? = some (.cells #[.int .i64 (x.2.1.1 : Int), .int .u64 (x.2.1.2 : Int)] 85 (0, 0)) ∧ a' = { tmps := #[.pointer (some ⟨L, o, none⟩), .int .i64 0, .pointer (some ⟨w.heap.size, 0, none⟩), undef, undef, .pointer (some ⟨Bx, 0, none⟩), .pointer (some ⟨L, o, none⟩), .pointer (some ⟨L, o, none⟩), .pointer (some ⟨L, o + 64, none⟩), .slice none 0 0, .int .i64 0, .slice none 0 0, .func (.func 66) #[] #[.pointer (some ⟨w.heap.size + 1, 0, none⟩)], .int .i64 (x.1 : Int), .agg #[.int .i64 (x.2.1.1 : Int), .int .u64 (x.2.1.2 : Int)], undef, undef, undef, undef, undef, undef, undef, undef, undef, undef, undef, undef], defers := [] })
    (fun x a' _ X Y row hs hg hr => by
      obtain ⟨Bx, h1, h2, h3⟩ := hs
      exact ⟨Bx, h1, (hg.block Bx (Array.getElem?_eq_some_iff.1 h2).1 (fun e => by obtain ⟨o', ho', hc⟩ := (hr Bx e.symm).2; rw [h2] at ho'; cases ho'; cases hc)).trans h2, h3⟩)
    ?assign ?body ?done ?stop
  case assign =>
    rintro l1 pre1 x W K hi hK
    gi_wp2
    have hbig := hi.big
    exact hK _ _ ((KeepsOthers.alloc _ _).from _) (fun k hk => Below.heap_alloc W _ k (by have := hkS k hk; omega)) (hi.alloc _) ⟨W.heap.size, by omega, heap_alloc_new W _, rfl⟩
  case body =>
    rintro l1 pre1 x a' W hl ⟨r, hr⟩ hi ⟨Bx, hBx, bX, rfl⟩ hlt1
    have cB := hi.box.cell
    rw [HOL.out] at cB
    have c0 : W.cell? ⟨Bx, 0, none⟩ = some (.int .i64 (x.2.1.1 : Int)) := cell_of_row W Bx 0 _ _ _ bX
    have c1 : W.cell? ⟨Bx, 1, none⟩ = some (.int .u64 (x.2.1.2 : Int)) := cell_of_row W Bx 1 _ _ _ bX
    have HI := Lib.hid hi
    clear bX hr hi
    gi_wp2_with (refine ⟨trivial, ?_⟩; gi_at_call 53; refine (CallsIn.inRound l1 (callsIn_wide.2 (HPUT.out _ _ _ x.2 HI.out.line))).mono ?_; rintro e w' ⟨rfl, h1, h2⟩; have H1 := Lib.hid h1; have H2 := Lib.hid h2; clear h1 h2)
    have hlW := HI.out.line.lt
    have hbig := HI.out.big
    exact ⟨keepsFrom_only H2.out ⟨_, HI.out.line.row, rfl⟩, fun k hk => H2.out.block k (by simp at hk; omega) (by simp at hk ⊢; omega), HI.out.put (by omega) H1.out H2.out⟩
  case done =>
    rintro D ys W hD rfl hi hK
    gi_wp2
    have cB := hi.box.cell
    have cO := hi.line.over
    have cM := hi.line.mark
    have fO := hi.line.free (pre.length + 64)
    have fM := hi.line.free (pre.length + 65)
    rw [HOL.out] at cB cO cM fO fM
    have hne : ¬ w.heap.size = L := by omega
    have hne2 : ¬ L = w.heap.size := by omega
    have HI := Lib.hid hi
    have HK := Lib.hid hK
    clear hi hK
    gi_region
    have HF : Hid (LineAt ((W.setCell ⟨L, o + 64, none⟩ (.slice none 0 0)).setCell ⟨L, o + 65, none⟩ (.int .i64 0)) L pre post (l.back 0) (.slice none 0 0) ∧ Only [L] W ((W.setCell ⟨L, o + 64, none⟩ (.slice none 0 0)).setCell ⟨L, o + 65, none⟩ (.int .i64 0))) := by
      have h := LineAt.withBoth (o := []) (m := 0) (v' := .slice none 0 0) HI.out.line.row ⟨HI.out.line.good.len, HI.out.line.good.byte, fun _ hc => by simp at hc, Nat.le_refl _⟩ (World.ownsRow_nil W 0 _ 2) (by simp [Value.ownBlock])
      rw [HOL.out] at h
      have e : l.back 0 = ⟨redo l.now (revs [] 0), [], 0⟩ := by
        rw [V.Ln.back, ← HCS.out]
        rfl
      rw [e]
      exact h
    have hDL : D ≠ L := fun e => by
      have h1 := HK.out
      rw [e, HI.out.line.row] at h1
      cases h1
    have hK' : (((W.setCell ⟨L, o + 64, none⟩ (.slice none 0 0)).setCell ⟨L, o + 65, none⟩ (.int .i64 0)).drew).heap[D]? = some (.deferred (some [])) := by
      refine (Below.heap_setCell _ _ _ _ hDL).trans ((Below.heap_setCell _ _ _ _ hDL).trans HK.out)
    refine ⟨by simp, .inl ⟨_, _, rfl, run_takeDeferred hK', ?_⟩⟩
    have hg := grownBy_putObj' (((W.setCell ⟨L, o + 64, none⟩ (.slice none 0 0)).setCell ⟨L, o + 65, none⟩ (.int .i64 0)).drew) D (.deferred none)
    refine ⟨.tuple #[], by simp [results, Tryd.f46, go_sem], rfl, .slice none 0 0, ?_, ?_, ?_⟩
    · exact (show LineAt (((W.setCell ⟨L, o + 64, none⟩ (.slice none 0 0)).setCell ⟨L, o + 65, none⟩ (.int .i64 0)).drew) L pre post (l.back 0) (.slice none 0 0) from HF.out.1.drewN 1).only (F := [D]) ((Only.refl [D] _).grown hg (fun k e => .inl (by cases e; simp))) (by simpa using fun e => hDL e.symm) (fun g hg => by simp [Value.ownBlock] at hg)
    · exact (((HI.out.only.trans' HF.out.2).drew.mono (by simp)).grown hg (fun k e => .inr (by cases e; omega)))
    · intro k hk
      simp [ownL, Value.ownBlock] at hk
  case stop =>
    rintro D c' pre1 W _ _ h _
    exact h.elim

/-- A line's back. -/
theorem ln_back (w : World) (L : Nat) (pre post : List Value) (l : V.Ln) (v : Value) (k : Nat) (h : LineAt w L pre post l v) (hk : k ≤ l.over.length) (hlen : l.over.length ≤ 1000000000) :
    Calls Tryd.prog 46 #[.pointer (some ⟨L, pre.length, none⟩), .int .i64 (k : Int)] w (LnPost w L pre post v (l.back k)) := by
  have ho := h.own
  rcases ho.2 with ⟨rfl, h0⟩ | ⟨g, cap, cur, rfl, _, _, h1, h2, _⟩
  · have e : l.over = [] := List.eq_nil_of_length_eq_zero h0
    obtain rfl : k = 0 := by omega
    exact ln_back_none w L pre post l h e
  · exact ln_back_some w L pre post l g cap k h hk h1 h2 hlen
end Go.Proofs.YtmelmiookkeoaaaDoor
