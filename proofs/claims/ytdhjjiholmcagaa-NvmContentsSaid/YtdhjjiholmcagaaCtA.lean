/- Sets of what lines were: a map from strings for each line. -/
import Derived.Test.YtdhjjiholmcagaaCtM
import Derived.Test.YtdhjjiholmcagaaDurA
namespace Go.Proofs.Ytdhjjiholmcagaa
open Go.RowKit Go.Maps

theorem lawS : Keyed Try.prog 9 := string_keyed Try.underlying9
/-- The key that bytes make. -/
def keyL (zs : List Int) : Lit := .string (strOfNums zs).data.toList
theorem keyOf_bytes {zs : List Int} (h : zs.length ≤ 64) : keyOf Try.prog 9 (.string (strOfNums zs)) = some (keyL zs) :=
  WideMaps.keyOf_string_mk Try.underlying9 (by rw [strOfNums_size]; unfold maxLen; omega)
/-- Block b is a map in which all that S says is true. -/
def HasM (w : World) (b n : Nat) (S : List Int → Prop) : Prop :=
  ∃ D : DataW Unit, w.ownsMap Try.prog 9 (plainElem Try.prog 4) b n D ∧ ∀ zs, S zs → D.atKey (keyL zs) (.lit (.bool false)) = .lit (.bool true)
theorem HasM.at {w w' : World} {b n : Nat} {S : List Int → Prop} (h : HasM w b n S) (hb : w'.heap[b]? = w.heap[b]?) : HasM w' b n S := by
  obtain ⟨D, ⟨es, clock, h1, h2⟩, h3⟩ := h
  exact ⟨D, ⟨es, clock, hb.trans h1, h2⟩, h3⟩
theorem HasM.lt {w : World} {b n : Nat} {S : List Int → Prop} (h : HasM w b n S) : b < w.heap.size := by obtain ⟨D, h1, _⟩ := h; exact h1.lt
theorem HasM.drewN {w : World} {b n : Nat} {S : List Int → Prop} (h : HasM w b n S) (m : Nat) : HasM (w.drewN m) b n S := h.at rfl
theorem HasM.mono {w : World} {b n n' : Nat} {S S' : List Int → Prop} (h : HasM w b n S) (hn : n ≤ n') (hS : ∀ zs, S' zs → S zs) : HasM w b n' S' := by
  obtain ⟨D, h1, h3⟩ := h; exact ⟨D, h1.mono hn, fun zs hz => h3 zs (hS zs hz)⟩
theorem HasM.put {w' : World} {b n : Nat} {S : List Int → Prop} {D : DataW Unit} (hD : IsMap D) (h3 : ∀ zs, S zs → D.atKey (keyL zs) (.lit (.bool false)) = .lit (.bool true)) (xs : List Int)
    (h : w'.ownsMap Try.prog 9 (plainElem Try.prog 4) b n (D.put (keyL xs) (.lit (.bool true)))) : HasM w' b n (fun zs => S zs ∨ zs = xs) := by
  refine ⟨_, h, fun zs hz => ?_⟩
  by_cases e : keyL zs = keyL xs
  · rw [e, atKey_put_same hD (by simp [WideAt.IsKeyLit, keyL])]
  · rw [atKey_put_other e]
    rcases hz with hz | hz
    · exact h3 zs hz
    · exact absurd (by rw [hz]) e
theorem HasM.look {w : World} {b n : Nat} {S : List Int → Prop} (h : HasM w b n S) (zs : List Int) (hz : S zs) (hl : zs.length ≤ 64) :
    (Instr.lookup 62 (.map (some b)) (.string (strOfNums zs)) false).run Try.prog w = .ok (.bool true) w := by
  obtain ⟨D, h1, h3⟩ := h
  obtain ⟨v, ps, hrun, hv⟩ := h1.lookup lawS Try.underlying62 (zeroB w) (plainElem_bool Try.underlying4 false) (keyOf_bytes hl)
  rw [h3 zs hz] at hv
  rw [hrun]
  unfold plainElem at hv
  rw [Try.underlying4] at hv
  cases v <;> simp at hv
  rw [hv.1]
/-- An entry of a map's literal: as an assignment. -/
theorem wpList_insert_own {H : Type} {P : Program} (w : World) {ops : Array Oper} {rest : List Oper} {o : Oper} {a : Go.Act} {Q : Exit → Go.Act → World → Prop}
    (hg : o.guard = none) (m x v : Operand) (t : TypeId) (hop : o.op = Op.insert t m x v)
    (k e : TypeId) (K : Keyed P k) (ht : P.underlying t = some (.map k e)) (R : Value → Option (DataW H × List MemPlace)) (b n : Nat) (D : DataW H)
    (hm : a.eval m = .map (some b)) (hown : w.ownsMap P k R b n D) (hn : n < maxLen) (key val : Value) (kl : Lit) (hx : a.eval x = key) (hv : a.eval v = val) (hkey : keyOf P k key = some kl)
    (d : DataW H) (ps : List MemPlace) (hval : R val = some (d, ps))
    (hK : ∀ w', w'.ownsMap P k R b (n + 1) (D.put kl d) → w.grownBy w' (some b) → wpList P ops Q rest (a.put o.dst undef) w') :
    wpList P ops Q (o :: rest) a w := by
  refine wpList_plain hg fun K' hK' => ?_
  obtain ⟨w', hrun, r1, r2⟩ := hown.update K ht hn hkey hval
  unfold Oper.wp
  simp [execOp, hop, hm, hx, hv, hrun, Result.andThen]
  exact hK' _ _ (hK w' r1 r2)
/-- The maps stand in an array of their own, one for each line. -/
structure MapsAt (w : World) (Hb : Nat) (ms : List Nat) (n : Nat → Nat) (S : Nat → List Int → Prop) : Prop where
  row : w.heap[Hb]? = some (.cells (ms.map fun b => Value.map (some b)).toArray 63 (0, 0))
  len : ms.length = 8
  nodup : ms.Nodup
  apart : Hb ∉ ms
  has : ∀ k, k < 8 → HasM w (ms.getD k 0) (n k) (S k)
theorem MapsAt.keep {w w' : World} {Hb : Nat} {ms : List Nat} {n : Nat → Nat} {S : Nat → List Int → Prop} (h : MapsAt w Hb ms n S) (hk : KeepB (Hb :: ms) w w') : MapsAt w' Hb ms n S :=
  ⟨(hk Hb (List.mem_cons_self ..)).trans h.row, h.len, h.nodup, h.apart, fun k hk8 => (h.has k hk8).at (hk _ (List.mem_cons_of_mem _ (by
    rw [List.getD_eq_getElem?_getD, List.getElem?_eq_getElem (by rw [h.len]; exact hk8)]; exact List.getElem_mem _)))⟩
theorem MapsAt.below {w w' : World} {Hb : Nat} {ms : List Nat} {n : Nat → Nat} {S : Nat → List Int → Prop} (h : MapsAt w Hb ms n S) (hb : Below w.heap.size w w') : MapsAt w' Hb ms n S :=
  h.keep (fun b hm => by
    rcases List.mem_cons.1 hm with e | e
    · subst e; exact hb.block _ (Array.getElem?_eq_some_iff.1 h.row).1
    · obtain ⟨k, hk, e2⟩ := List.getElem_of_mem e
      refine hb.block _ ?_
      have h1 := (h.has k (by rw [← h.len]; exact hk)).lt
      rw [List.getD_eq_getElem?_getD, List.getElem?_eq_getElem hk] at h1
      rw [← e2]; exact h1)
theorem MapsAt.drewN {w : World} {Hb : Nat} {ms : List Nat} {n : Nat → Nat} {S : Nat → List Int → Prop} (h : MapsAt w Hb ms n S) (m : Nat) : MapsAt (w.drewN m) Hb ms n S := h.keep (fun _ _ => rfl)
theorem MapsAt.cell {w : World} {Hb : Nat} {ms : List Nat} {n : Nat → Nat} {S : Nat → List Int → Prop} (h : MapsAt w Hb ms n S) (k : Nat) (hk : k < 8) : w.cell? ⟨Hb, k, none⟩ = some (Value.map (some (ms.getD k 0))) := by
  rw [cell_of_row w Hb k _ _ _ h.row]
  simp [List.getD_eq_getElem?_getD, List.getElem?_eq_getElem (show k < ms.length by rw [h.len]; exact hk)]
theorem MapsAt.mem {w : World} {Hb : Nat} {ms : List Nat} {n : Nat → Nat} {S : Nat → List Int → Prop} (h : MapsAt w Hb ms n S) (k : Nat) (hk : k < 8) : ms.getD k 0 ∈ ms := by
  rw [List.getD_eq_getElem?_getD, List.getElem?_eq_getElem (by rw [h.len]; exact hk)]; exact List.getElem_mem _
theorem MapsAt.mono {w : World} {Hb : Nat} {ms : List Nat} {n n' : Nat → Nat} {S S' : Nat → List Int → Prop} (h : MapsAt w Hb ms n S) (hn : ∀ k, k < 8 → n k ≤ n' k) (hS : ∀ k, k < 8 → ∀ zs, S' k zs → S k zs) : MapsAt w Hb ms n' S' :=
  ⟨h.row, h.len, h.nodup, h.apart, fun k hk => (h.has k hk).mono (hn k hk) (hS k hk)⟩
/-- One of them is written. -/
theorem MapsAt.wrote {w w' : World} {Hb : Nat} {ms : List Nat} {n n' : Nat → Nat} {S S' : Nat → List Int → Prop} (h : MapsAt w Hb ms n S) (i : Nat) (hi : i < 8) (hg : w.grownBy w' (some (ms.getD i 0)))
    (hnew : HasM w' (ms.getD i 0) (n' i) (S' i)) (hn : ∀ k, k < 8 → k ≠ i → n k ≤ n' k) (hS : ∀ k, k < 8 → k ≠ i → ∀ zs, S' k zs → S k zs) : MapsAt w' Hb ms n' S' := by
  have hbl := (Array.getElem?_eq_some_iff.1 h.row).1
  have hmi := h.mem i hi
  refine ⟨(hg.block Hb hbl (fun e => h.apart (by cases e; exact hmi))).trans h.row, h.len, h.nodup, h.apart, fun k hk => ?_⟩
  by_cases e : k = i
  · subst e; exact hnew
  · refine ((h.has k hk).at (hg.block _ (h.has k hk).lt (fun e2 => e ?_))).mono (hn k hk e) (hS k hk e)
    have e3 : ms.getD k 0 = ms.getD i 0 := by injection e2
    rw [List.getD_eq_getElem?_getD, List.getD_eq_getElem?_getD, List.getElem?_eq_getElem (by rw [h.len]; exact hk), List.getElem?_eq_getElem (by rw [h.len]; exact hi)] at e3
    rcases Nat.lt_or_gt_of_ne e with hlt | hlt
    · exact absurd e3 (List.pairwise_iff_getElem.1 h.nodup k i (by rw [h.len]; exact hk) (by rw [h.len]; exact hi) hlt)
    · exact absurd e3.symm (List.pairwise_iff_getElem.1 h.nodup i k (by rw [h.len]; exact hi) (by rw [h.len]; exact hk) hlt)

/-- Bytes as a string, whole. -/
theorem conv_whole {w : World} {g n c : Nat} {zs : List Int} (h : IsBytes w (.slice (some ⟨g, 0, none⟩) n c) zs) :
    ∀ m dst, Try.prog.underlying dst = some .string → (convert 22 dst (.slice (some ⟨g, 0, none⟩) n c)).run Try.prog (w.drewN m) = .ok (.string (strOfNums zs)) (w.drewN m) := by
  intro m
  have hl := h.len'.1
  refine run_convert_bytes_arg (P := Try.prog) (w.drewN m) 22 5 Try.underlying22 Try.underlying5 g 0 n c zs hl (fun i hi => ?_)
  exact bytes_cell h i hi
theorem conv_at {w : World} {g n c : Nat} {zs : List Int} (h : IsBytes w (.slice (some ⟨g, 0, none⟩) n c) zs) :
    ∀ dst, Try.prog.underlying dst = some .string → (convert 22 dst (.slice (some ⟨g, 0, none⟩) n c)).run Try.prog w = .ok (.string (strOfNums zs)) w := conv_whole h 0
theorem DevK.only {w0 wr w' : World} {v : Value} {d : V.Dv} {K : List Nat} (h : DevK w0 v d K wr) (b : Nat) (hb : b ∈ K) (hlo : w0.heap.size ≤ b) (hg : Only [b] wr w') : DevK w0 v d K w' :=
  h.other b hb hlo ⟨hg.os, hg.tape, hg.output, hg.size, fun k hk hne => hg.block k hk (fun e => hne (by rw [List.mem_singleton.1 e]))⟩
/-- A crash with picks that stand in a block apart. -/
theorem DevK.crash2 {w0 wr : World} {v : Value} {d : V.Dv} {K : List Nat} (h : DevK w0 v d K wr) (pb pn pc : Nat) (pz : List Int) (hp : IsBytes wr (.slice (some ⟨pb, 0, none⟩) pn pc) pz) (hpb : pb ∈ K) (hs : d.steps ≤ 1000000000) :
    Calls Try.prog 23 #[v, .slice (some ⟨pb, 0, none⟩) pn pc] wr fun e w' => e = .returned (.tuple #[]) ∧ DevK w0 v (d.crash pz) K w' ∧ KeepB K wr w' := by
  obtain ⟨F, h1, h2, h3, h4⟩ := h
  refine (dev_crash h1 _ pn pc pz hp (fun hz a e hf => by cases e; exact (h4 pb hpb).1 hf) hs).mono ?_
  rintro e w' ⟨hR, F', k1, k2, k3⟩
  refine ⟨hR, ⟨F', k1, fun k hk => ?_, h3.trans (k2.below h3.size h2), fun k hk => ⟨fun hf => ?_, Nat.lt_of_lt_of_le (h4 k hk).2 k2.size⟩⟩, fun k hk => k2.block k (h4 k hk).2 (h4 k hk).1⟩
  · rcases k3 k hk with e | e
    · exact h2 k e
    · exact Nat.le_trans h3.size e
  · rcases k3 k hf with e | e
    · exact (h4 k hk).1 e
    · have := (h4 k hk).2; omega
/-- The array, some of the maps made. -/
structure MapsUp (w : World) (Hb : Nat) (ms : List Nat) (i : Nat) : Prop where
  row : w.heap[Hb]? = some (.cells (ms.map (fun b => Value.map (some b)) ++ List.replicate (8 - i) (Value.map none)).toArray 63 (0, 0))
  len : ms.length = i
  nodup : ms.Nodup
  apart : Hb ∉ ms
  has : ∀ k, k < i → HasM w (ms.getD k 0) 1 (fun zs => zs = List.replicate 64 0)
theorem MapsUp.lt {w : World} {Hb i : Nat} {ms : List Nat} (h : MapsUp w Hb ms i) : ∀ b ∈ Hb :: ms, b < w.heap.size := by
  intro b hm
  rcases List.mem_cons.1 hm with e | e
  · subst e; exact (Array.getElem?_eq_some_iff.1 h.row).1
  · obtain ⟨k, hk, e2⟩ := List.getElem_of_mem e
    have h1 := (h.has k (by rw [← h.len]; exact hk)).lt
    rw [List.getD_eq_getElem?_getD, List.getElem?_eq_getElem hk] at h1
    rw [← e2]; exact h1
theorem MapsUp.cell {w : World} {Hb i : Nat} {ms : List Nat} (h : MapsUp w Hb ms i) (hi : i < 8) : w.cell? ⟨Hb, i, none⟩ = some (Value.map none) := by
  rw [cell_of_row w Hb i _ _ _ h.row]
  simp only [List.getElem?_toArray]
  rw [List.getElem?_append_right (by simp [h.len]), List.length_map, h.len, Nat.sub_self, List.getElem?_replicate, if_pos (by omega)]
theorem MapsUp.free {w : World} {Hb i : Nat} {ms : List Nat} (h : MapsUp w Hb ms i) (j : Nat) : w.frozen? ⟨Hb, j, none⟩ = false := seg_free h.row j
theorem MapsUp.keep {w w' : World} {Hb i : Nat} {ms : List Nat} (h : MapsUp w Hb ms i) (hk : KeepB (Hb :: ms) w w') : MapsUp w' Hb ms i :=
  ⟨(hk Hb (List.mem_cons_self ..)).trans h.row, h.len, h.nodup, h.apart, fun k hk8 => (h.has k hk8).at (hk _ (List.mem_cons_of_mem _ (by
    rw [List.getD_eq_getElem?_getD, List.getElem?_eq_getElem (by rw [h.len]; exact hk8)]; exact List.getElem_mem _)))⟩
theorem MapsUp.step {w : World} {Hb i m : Nat} {ms : List Nat} (h : MapsUp w Hb ms i) (hi : i < 8) (hne : Hb ≠ m) (hm : m ∉ ms) (hnew : HasM w m 1 (fun zs => zs = List.replicate 64 0)) :
    MapsUp (w.setCell ⟨Hb, i, none⟩ (.map (some m))) Hb (ms ++ [m]) (i + 1) := by
  have hrow := h.row
  rw [show 8 - i = 1 + (7 - i) by omega, ← List.replicate_append_replicate, ← List.append_assoc] at hrow
  have hst := seg_stored hrow 0 (by simp) (.map (some m))
  have hon := Only.setCell w ⟨Hb, i, none⟩ (.map (some m))
  refine ⟨?_, by simp [h.len], ?_, ?_, fun k hk => ?_⟩
  · rw [List.length_map, h.len, Nat.add_zero] at hst
    rw [hst]
    simp [show 8 - (i + 1) = 7 - i by omega]
  · rw [List.nodup_append]
    refine ⟨h.nodup, by simp, fun a ha b hb e => ?_⟩
    obtain rfl := List.mem_singleton.1 hb
    exact hm (e ▸ ha)
  · intro hmem
    rcases List.mem_append.1 hmem with e | e
    · exact h.apart e
    · exact hne (List.mem_singleton.1 e)
  · by_cases e : k = i
    · subst e
      rw [List.getD_eq_getElem?_getD, List.getElem?_append_right (by rw [h.len]; exact Nat.le_refl _), h.len, Nat.sub_self]
      exact hnew.at (hon.block m hnew.lt (fun e => hne (List.mem_singleton.1 e).symm))
    · have hk' : k < i := by omega
      have h1 := h.has k hk'
      rw [List.getD_eq_getElem?_getD, List.getElem?_append_left (by rw [h.len]; exact hk'), ← List.getD_eq_getElem?_getD]
      refine h1.at (hon.block _ h1.lt (fun e => h.apart ?_))
      have e2 : ms.getD k 0 = Hb := List.mem_singleton.1 e
      rw [← e2, List.getD_eq_getElem?_getD, List.getElem?_eq_getElem (by rw [h.len]; exact hk')]; exact List.getElem_mem _
theorem was_zero (l : List Act) (k : Nat) (zs : List Int) (h : V.Was l k 0 zs) : zs = List.replicate 64 0 := by
  obtain ⟨i, hi, e⟩ := h
  obtain rfl : i = 0 := by omega
  have h0 : (V.all (V.newDv 8) (l.take 0)).at k = V.zeroLn := by
    show ((List.replicate 8 V.zeroLn)[k]?).getD V.zeroLn = V.zeroLn
    rw [List.getElem?_replicate]; split <;> rfl
  rw [e, h0]; rfl
theorem MapsUp.done {w : World} {Hb : Nat} {ms : List Nat} (h : MapsUp w Hb ms 8) (l : List Act) : MapsAt w Hb ms (fun _ => 1) (fun k => V.Was l k 0) :=
  ⟨by have := h.row; simpa using this, h.len, h.nodup, h.apart, fun k hk => (h.has k hk).mono (Nat.le_refl _) (was_zero l k)⟩
theorem MapsUp.start (w : World) : MapsUp (w.alloc (.cells (List.replicate 8 (Value.map none)).toArray 63)) w.heap.size [] 0 :=
  ⟨heap_alloc_new w _, rfl, List.nodup_nil, by simp, fun k hk => absurd hk (Nat.not_lt_zero _)⟩
theorem picks3 (wr : World) : IsBytes (wr.alloc (.cells #[.int .u8 9, .int .u8 8, .int .u8 7] 5)) (.slice (some ⟨wr.heap.size, 0, none⟩) 3 3) [9, 8, 7] := by
  refine ⟨_, 3, rfl, by decide, by unfold maxLen; decide, .inr ⟨wr.heap.size, 0, rfl, fun i hi => ?_⟩, by decide⟩
  rw [cell_of_row _ wr.heap.size (0 + i) _ _ _ (heap_alloc_new wr _)]
  have hi3 : i < 3 := hi
  obtain rfl | rfl | rfl : i = 0 ∨ i = 1 ∨ i = 2 := by omega
  all_goals rfl
end Go.Proofs.Ytdhjjiholmcagaa
