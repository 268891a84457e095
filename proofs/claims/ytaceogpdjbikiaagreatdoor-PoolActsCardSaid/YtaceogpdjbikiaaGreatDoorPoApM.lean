
/- Plain mathematics of layer 7: a pool of the program and the document's: the calls of one are those of the other; how great the block at a place is, and what the calls make of that. -/
import Derived.Test.YtaceogpdjbikiaaGreatDoorPoTd
namespace Go.Proofs.YtaceogpdjbikiaaGreatDoor

open Go.RowKit

section

variable {da : Nat} {ws xs ws' xs' : List Nat} {x : Int} {i b : Nat}

theorem both_same (hl : ws'.length = ws.length) (h : ∀ j, used ws' xs' j = used ws xs j) : both ws' xs' = both ws xs := by
  unfold both; rw [hl]; exact List.map_congr_left (fun j _ => h j)
theorem both_set {u : Nat} (hl : ws'.length = ws.length) (hi : used ws' xs' i = u) (hne : ∀ j, j ≠ i → used ws' xs' j = used ws xs j) : both ws' xs' = (both ws xs).set i u := by
  unfold both
  rw [hl]
  apply List.ext_getElem?
  intro j
  rw [List.getElem?_set, List.getElem?_map, List.getElem?_map, List.length_map, List.length_range]
  by_cases h : j < ws.length
  · rw [List.getElem?_range h]
    by_cases e : i = j
    · subst e
      rw [if_pos rfl, if_pos h]; simp [hi]
    · rw [if_neg e]; simp [hne j (fun e2 => e e2.symm)]
  · have h0 : (List.range ws.length)[j]? = none := List.getElem?_eq_none (by rw [List.length_range]; omega)
    rw [h0]
    by_cases e : i = j
    · subst e
      rw [if_pos rfl, if_neg h]; rfl
    · rw [if_neg e]; rfl
theorem findIs_b (h : Good7 ws xs) : P.FindIs da (both ws xs) x i b ↔ Stands da ws xs x i b ∧ ((S.tkn (ws.getD i 0)).testBit b || (S.tkn (xs.getD i 0)).testBit b) = true := by
  constructor
  · intro hf
    have hi : i < ws.length := by have := hf.1; rwa [both_len] at this
    have hb := hf.blk
    obtain ⟨_, h2, h3⟩ := hf
    rw [both_get hi] at hb h2 h3
    exact ⟨⟨hi, hb, h3⟩, by rw [← (h.pair i hi).bit]; exact h2⟩
  · rintro ⟨⟨h1, h2, h3⟩, h4⟩
    refine ⟨by rw [both_len]; exact h1, ?_, ?_⟩
    · rw [both_get h1]; show (S.tkn (ws.getD i 0 ||| xs.getD i 0)).testBit b = true
      rw [(h.pair i h1).bit]; exact h4
    · rw [both_get h1]; exact h3
theorem not_both (h : Good7 ws xs) {i' b' : Nat} (h1 : P.FindIs da ws x i b) (h2 : P.FindIs da xs x i' b') : False := by
  obtain ⟨s1, t1⟩ := (findIs_w h).1 h1
  obtain ⟨s2, t2⟩ := (findIs_x h).1 h2
  obtain ⟨rfl, rfl⟩ := s1.one s2
  exact (h.pair i s1.1).apart b t1 t2
theorem find_of_x (h : Good7 ws xs) (hf : P.FindIs da xs x i b) : P.FindIs da (both ws xs) x i b := by
  obtain ⟨s, t⟩ := (findIs_x h).1 hf
  exact (findIs_b h).2 ⟨s, by rw [t, Bool.or_true]⟩
theorem find_of_w (h : Good7 ws xs) (hf : P.FindIs da ws x i b) : P.FindIs da (both ws xs) x i b := by
  obtain ⟨s, t⟩ := (findIs_w h).1 hf
  exact (findIs_b h).2 ⟨s, by rw [t, Bool.true_or]⟩
theorem find_b_cases (h : Good7 ws xs) (hf : P.FindIs da (both ws xs) x i b) : P.FindIs da ws x i b ∨ P.FindIs da xs x i b := by
  obtain ⟨s, t⟩ := (findIs_b h).1 hf
  rcases Bool.or_eq_true_iff.1 t with t | t
  · exact .inl ((findIs_w h).2 ⟨s, t⟩)
  · exact .inr ((findIs_x h).2 ⟨s, t⟩)
/-- Reserve, as the document says. -/
theorem pl_reserve (h : Good7 ws xs) (c : Int) : P.Pl.reserve ⟨da, ws, both ws xs⟩ c = (⟨da, ws, both ws (rsv da ws xs c).1⟩, (rsv da ws xs c).2.1, (rsv da ws xs c).2.2) := by
  unfold P.Pl.reserve rsv
  by_cases hc : c = 1 ∨ c = 2
  · rw [if_pos hc, if_pos hc]
    dsimp only
    cases hp : P.pick c (both ws xs) with
    | none => rfl
    | some i =>
      obtain ⟨h1, h2⟩ := P.pick_some hp
      rw [both_len] at h1
      rw [both_get h1] at h2
      obtain ⟨b, b1, _, _, b4, _, b6⟩ := held_of h h1 hc h2
      dsimp only
      rw [both_get h1, b1, ← both_set (ws := ws) (xs := xs) rfl b4 b6]
  · rw [if_neg hc, if_neg hc]
/-- Take and Drop, on a device that is up. -/
theorem pl_take {d : V.Dv} {sh : V.Sh} (h : Good7 ws xs) (hput : ∀ i t, i < ws.length → t < 2 ^ 64 → (d.put (sh.table + 8 * (i : Int)) t).2 = 0) (x : Int) :
    P.Pl.take ⟨da, ws, both ws xs⟩ x = (⟨da, (takeR d sh da ws xs x).2.1, both (takeR d sh da ws xs x).2.1 (takeR d sh da ws xs x).2.2.1⟩, (takeR d sh da ws xs x).2.2.2) := by
  unfold P.Pl.take takeR
  dsimp only
  rcases P.find_cases da xs x with ⟨e, hno⟩ | ⟨i, b, e, hf⟩
  · rw [e]
    dsimp only
    rcases P.find_cases da (both ws xs) x with ⟨e2, _⟩ | ⟨i, b, e2, hb⟩
    · rw [e2]
    · rcases find_b_cases h hb with hw | hx
      · rw [e2, P.find_some hw]
      · exact absurd hx (hno i b)
  · have hb := find_of_x h hf
    rw [e, P.find_some hb, P.find_none (fun i' b' hw => not_both h hw hf)]
    dsimp only
    obtain ⟨hst, hbit⟩ := (findIs_x h).1 hf
    rw [if_pos (hput i _ hst.1 (S.tkW_lt (h.w64 hst.1) _ _)), both_get hst.1]
    dsimp only
    rw [both_same (by rw [List.length_set]) (taken_of h hst.1 hbit).2]
theorem set_same {l : List Nat} {v : Nat} (h : l.getD i 0 = v) : l.set i v = l := by rw [← h]; exact set_get l i
theorem pl_drop {d : V.Dv} {sh : V.Sh} (h : Good7 ws xs) (hput : ∀ i t, i < ws.length → t < 2 ^ 64 → (d.put (sh.table + 8 * (i : Int)) t).2 = 0) (x : Int) :
    P.Pl.drop ⟨da, ws, both ws xs⟩ x = (⟨da, (dropR d sh da ws xs x).2.1, both (dropR d sh da ws xs x).2.1 (dropR d sh da ws xs x).2.2.1⟩, (dropR d sh da ws xs x).2.2.2) := by
  unfold P.Pl.drop dropR
  dsimp only
  rcases P.find_cases da xs x with ⟨e, hno⟩ | ⟨i, b, e, hf⟩
  · rw [e]
    dsimp only
    rcases P.find_cases da ws x with ⟨e2, hno2⟩ | ⟨i, b, e2, hf⟩
    · rw [e2, P.find_none (fun i b hb => by
        rcases find_b_cases h hb with hw | hx
        · exact hno2 i b hw
        · exact hno i b hx)]
    · rw [e2, P.find_some (find_of_w h hf)]
      dsimp only
      obtain ⟨hst, hbit⟩ := (findIs_w h).1 hf
      have hp := h.pair i hst.1
      have hx : (S.tkn (xs.getD i 0)).testBit b = false := by
        cases hq : (S.tkn (xs.getD i 0)).testBit b with
        | false => rfl
        | true => exact (hp.apart b hbit hq).elim
      rw [if_pos (hput i _ hst.1 (S.drW_lt (h.w64 hst.1) _)), both_get hst.1]
      dsimp only
      have hd := (hp.drop (b := b)).2
      rw [S.drop_not (n := xs.getD i 0) (by rw [P.has_nat]; exact hx)] at hd
      have hix : i < xs.length := by rw [h.len]; exact hst.1
      rw [both_set (ws := ws) (xs := xs) (i := i) (u := S.drW (used ws xs i) (b : Int)) (by rw [List.length_set]) (by
        show (ws.set i _).getD i 0 ||| xs.getD i 0 = _
        rw [P.getD_set _ _ _ _ hst.1, if_pos rfl]; exact hd) (dropped_w h hst.1 hbit).2]
  · rw [e, P.find_some (find_of_x h hf)]
    dsimp only
    obtain ⟨hst, hbit⟩ := (findIs_x h).1 hf
    have hp := h.pair i hst.1
    have hix : i < xs.length := by rw [h.len]; exact hst.1
    have hw : (S.tkn (ws.getD i 0)).testBit b = false := by
      cases hq : (S.tkn (ws.getD i 0)).testBit b with
      | false => rfl
      | true => exact (hp.apart b hq hbit).elim
    have hd := (hp.drop (b := b)).2
    have hwd : S.drW (ws.getD i 0) (b : Int) = ws.getD i 0 := S.drop_not (by rw [P.has_nat]; exact hw)
    rw [hwd] at hd ⊢
    rw [set_get, both_get hst.1, both_set (ws := ws) (xs := xs) (i := i) (u := S.drW (used ws xs i) (b : Int)) rfl (by
      show ws.getD i 0 ||| (xs.set i _).getD i 0 = _
      rw [P.getD_set _ _ _ _ hix, if_pos rfl]; exact hd) (dropped_x h hst.1 hbit).2]
end

/-- How many bytes the block at a place has; 0: there is none. -/
noncomputable def szL (l : List Nat) (x : Int) : Int := match P.find 192 l x with | some (i, _) => 64 * (S.lns (S.cls (l.getD i 0)) : Int) | none => 0
section

variable {l : List Nat} {x y : Int} {i b : Nat}

theorem szL_some (h : P.FindIs 192 l x i b) : szL l x = 64 * (S.lns (S.cls (l.getD i 0)) : Int) := by unfold szL; rw [P.find_some h]
theorem szL_none (h : ∀ i b, ¬ P.FindIs 192 l x i b) : szL l x = 0 := by unfold szL; rw [P.find_none h]
theorem szL_pos (h : szL l x ≠ 0) : ∃ i b, P.FindIs 192 l x i b ∧ (szL l x = 64 ∨ szL l x = 256) := by
  rcases P.find_cases 192 l x with ⟨_, hno⟩ | ⟨i, b, _, hf⟩
  · exact absurd (szL_none hno) h
  · refine ⟨i, b, hf, ?_⟩
    rw [szL_some hf]
    rcases P.lns_blk hf.blk with ⟨_, _, e⟩ | ⟨_, _, e⟩ <;> rw [e] <;> omega
theorem szL_one (h : P.FindIs 192 l x i b) : szL l x = 64 ∨ szL l x = 256 := by
  rw [szL_some h]
  rcases P.lns_blk h.blk with ⟨_, _, e⟩ | ⟨_, _, e⟩ <;> rw [e] <;> omega
theorem szL_within (h : szL l x ≠ 0) : ∃ X : Nat, x = (X : Int) ∧ 192 ≤ X ∧ (X : Int) + szL l x ≤ 192 + 1024 * (l.length : Int) ∧ X % 64 = 0 := by
  obtain ⟨i, b, hf, _⟩ := szL_pos h
  have h1 := P.within hf
  rw [szL_some hf]
  have h3 := hf.2.2
  refine ⟨P.off 192 i (S.cls (l.getD i 0)) b, h3, ?_, ?_, ?_⟩
  · unfold P.off; omega
  · rw [← h3]; have := h1.2; omega
  · unfold P.off
    rcases P.lns_blk hf.blk with ⟨_, _, e⟩ | ⟨_, _, e⟩ <;> rw [e] <;> omega
theorem szL_apart (h : szL l x ≠ 0) (h' : szL l y ≠ 0) (hne : x ≠ y) : x + szL l x ≤ y ∨ y + szL l y ≤ x := by
  obtain ⟨i, b, hf, _⟩ := szL_pos h
  obtain ⟨i', b', hf', _⟩ := szL_pos h'
  rw [szL_some hf, szL_some hf']
  exact P.apart hf hf' hne
/-- A place is another one's business as long as it is found alike. -/
theorem szL_like {l' : List Nat} (h : ∀ i b, P.FindIs 192 l y i b → P.FindIs 192 l' y i b ∧ S.cls (l'.getD i 0) = S.cls (l.getD i 0)) (h' : ∀ i b, P.FindIs 192 l' y i b → P.FindIs 192 l y i b) : szL l' y = szL l y := by
  rcases P.find_cases 192 l y with ⟨_, hno⟩ | ⟨i, b, _, hf⟩
  · rw [szL_none hno, szL_none (fun i b hf => hno i b (h' i b hf))]
  · obtain ⟨h1, h2⟩ := h i b hf
    rw [szL_some hf, szL_some h1, h2]
/-- A block more. -/
theorem szL_add {c : Int} (hi : i < l.length) (ht : S.tak (l.getD i 0) c (b : Int) = true) :
    szL l (P.off 192 i c.toNat b : Nat) = 0 ∧ szL (l.set i (S.tkW (l.getD i 0) c (b : Int))) (P.off 192 i c.toNat b : Nat) = 64 * (S.lns c : Int) ∧ ∀ y, y ≠ ((P.off 192 i c.toNat b : Nat) : Int) → szL (l.set i (S.tkW (l.getD i 0) c (b : Int))) y = szL l y := by
  obtain ⟨k, e, t1, t2, t3, t4, t5, t6, t7, t8, t9, t10, t11⟩ := S.take_of ht
  obtain rfl : k = b := by omega
  have hcn : ((c.toNat : Nat) : Int) = c := by omega
  have hcl : ∀ b', (S.tkn (l.getD i 0)).testBit b' = true → S.cls (l.getD i 0) = c.toNat := fun b' hb => by
    have := P.ne_of_bit hb
    rcases t4 with t4 | t4
    · exact absurd t4 this
    · omega
  have hnew : P.FindIs 192 (l.set i (S.tkW (l.getD i 0) c (k : Int))) (P.off 192 i c.toNat k : Nat) i k := by
    refine ⟨by rw [List.length_set]; exact hi, ?_, ?_⟩
    · rw [P.getD_set _ _ _ _ hi, if_pos rfl, t11, S.bit_add t5]; simp
    · rw [P.getD_set _ _ _ _ hi, if_pos rfl, t10]
  refine ⟨szL_none (fun i' b' hf => ?_), ?_, fun y hy => szL_like (fun i' b' hf => ?_) (fun i' b' hf => ?_)⟩
  · have hb := hf.blk
    have e2 : P.off 192 i c.toNat k = P.off 192 i' (S.cls (l.getD i' 0)) b' := by have := hf.2.2; omega
    obtain ⟨rfl, _⟩ := P.off_slab (by rw [hcn]; exact t1) hb e2
    have hc := hcl b' hf.2.1
    rw [hc] at e2 hb
    have := P.off_block (by rw [hcn]; exact t1) hb e2
    subst this
    have h2 := hf.2.1
    rw [t5] at h2; cases h2
  · rw [szL_some hnew, P.getD_set _ _ _ _ hi, if_pos rfl, t10, hcn]
  · obtain ⟨f1, f2, f3⟩ := hf
    unfold P.FindIs
    rw [List.length_set, P.getD_set _ _ _ _ hi]
    by_cases e : i' = i
    · subst e
      rw [if_pos rfl, t11, S.bit_add t5, f2, t10]
      have hc := hcl b' f2
      rw [hc] at f3
      exact ⟨⟨f1, rfl, f3⟩, hc.symm⟩
    · rw [if_neg e]; exact ⟨⟨f1, f2, f3⟩, rfl⟩
  · obtain ⟨f1, f2, f3⟩ := hf
    rw [List.length_set] at f1
    rw [P.getD_set _ _ _ _ hi] at f2 f3
    by_cases e : i' = i
    · subst e
      rw [if_pos rfl] at f2 f3
      rw [t11, S.bit_add t5] at f2
      rw [t10] at f3
      by_cases e2 : k = b'
      · subst e2; exact absurd f3 hy
      · rw [decide_eq_false e2, Bool.or_false] at f2
        exact ⟨f1, f2, by rw [hcl b' f2]; exact f3⟩
    · rw [if_neg e] at f2 f3; exact ⟨f1, f2, f3⟩
/-- A block less. -/
theorem szL_sub (hf : P.FindIs 192 l x i b) : szL (l.set i (S.drW (l.getD i 0) (b : Int))) x = 0 ∧ ∀ y, y ≠ x → szL (l.set i (S.drW (l.getD i 0) (b : Int))) y = szL l y := by
  have hi := hf.1
  have hh : S.has (l.getD i 0) (b : Int) = true := hf.has
  obtain ⟨k, e, d1, d2, d3, d4, d5, d6, d7, d8, d9, d10, d11⟩ := S.drop_of hh
  obtain rfl : k = b := by omega
  have hcl : ∀ b', (S.tkn (S.drW (l.getD i 0) (k : Int))).testBit b' = true → S.cls (S.drW (l.getD i 0) (k : Int)) = S.cls (l.getD i 0) := fun b' hb => P.drop_cls hh (P.ne_of_bit hb)
  have back : ∀ y i' b', P.FindIs 192 (l.set i (S.drW (l.getD i 0) (k : Int))) y i' b' → P.FindIs 192 l y i' b' ∧ (i' = i → k ≠ b') := by
    rintro y i' b' ⟨f1, f2, f3⟩
    rw [List.length_set] at f1
    rw [P.getD_set _ _ _ _ hi] at f2 f3
    by_cases e : i' = i
    · subst e
      rw [if_pos rfl] at f2 f3
      have hc := hcl b' f2
      rw [d11, S.bit_sub d4, Bool.and_eq_true] at f2
      rw [hc] at f3
      exact ⟨⟨f1, f2.1, f3⟩, fun _ => by simpa using f2.2⟩
    · rw [if_neg e] at f2 f3; exact ⟨⟨f1, f2, f3⟩, fun e2 => absurd e2 e⟩
  refine ⟨szL_none (fun i' b' hf' => ?_), fun y hy => szL_like (fun i' b' hf' => ?_) (fun i' b' hf' => (back y i' b' hf').1)⟩
  · obtain ⟨h1, h2⟩ := back _ i' b' hf'
    obtain ⟨rfl, rfl⟩ := h1.one hf
    exact h2 rfl rfl
  · obtain ⟨f1, f2, f3⟩ := hf'
    unfold P.FindIs
    rw [List.length_set, P.getD_set _ _ _ _ hi]
    by_cases e : i' = i
    · subst e
      rw [if_pos rfl]
      have hne : k ≠ b' := fun e2 => by subst e2; exact hy (f3.trans hf.2.2.symm)
      have hb : (S.tkn (S.drW (l.getD i' 0) (k : Int))).testBit b' = true := by rw [d11, S.bit_sub d4, f2, decide_eq_false hne]; rfl
      have hc := hcl b' hb
      exact ⟨⟨f1, hb, by rw [hc]; exact f3⟩, hc⟩
    · rw [if_neg e]; exact ⟨⟨f1, f2, f3⟩, rfl⟩
end

/-- How great the block at a place of a pool is. -/
noncomputable def sz (ws xs : List Nat) (x : Int) : Int := szL (both ws xs) x
section

variable {ws xs : List Nat} {x y : Int} {N s k : Nat} {d : V.Dv} {sh : V.Sh}

theorem sz_within (hw : ws.length = s) (h : sz ws xs x ≠ 0) : ∃ X : Nat, x = (X : Int) ∧ 192 ≤ X ∧ (X : Int) + sz ws xs x ≤ 192 + 1024 * (s : Int) ∧ X % 64 = 0 := by
  have := szL_within h
  rwa [both_len, hw] at this
theorem sz_size (h : sz ws xs x ≠ 0) : sz ws xs x = 64 ∨ sz ws xs x = 256 := by obtain ⟨_, _, _, h⟩ := szL_pos h; exact h
theorem sz_apart (h : sz ws xs x ≠ 0) (h' : sz ws xs y ≠ 0) (hne : x ≠ y) : x + sz ws xs x ≤ y ∨ y + sz ws xs y ≤ x := szL_apart h h' hne
theorem sz_rsv (h : Good7 ws xs) (c : Int) (he : (rsv 192 ws xs c).2.2 = 0) : sz ws xs (rsv 192 ws xs c).2.1 = 0 ∧ sz ws (rsv 192 ws xs c).1 (rsv 192 ws xs c).2.1 = 64 * (S.lns c : Int) ∧ ∀ y, y ≠ (rsv 192 ws xs c).2.1 → sz ws (rsv 192 ws xs c).1 y = sz ws xs y := by
  have hp := pl_reserve (da := 192) h c
  revert he hp
  unfold P.Pl.reserve sz
  by_cases hc : c = 1 ∨ c = 2
  · rw [if_pos hc]
    dsimp only
    cases hpk : P.pick c (both ws xs) with
    | none =>
      intro he hp
      simp only [Prod.mk.injEq] at hp
      rw [he] at hp
      exact absurd hp.2.2 (by decide)
    | some i =>
      obtain ⟨h1, h2⟩ := P.pick_some hpk
      have h1' := h1
      rw [both_len] at h1'
      obtain ⟨b, b1, b2, b3⟩ := P.nxt_take hc (by rw [both_get h1']; exact h.right h1') h2
      have ha := szL_add h1 b3
      intro _ hp
      simp only [Prod.mk.injEq, P.Pl.mk.injEq, true_and] at hp
      obtain ⟨e1, e2, _⟩ := hp
      rw [b1] at e1 e2
      rw [Int.toNat_natCast] at e2
      rw [← e1, ← e2]; exact ha
  · rw [if_neg hc]
    intro he hp
    simp only [Prod.mk.injEq] at hp
    rw [he] at hp
    exact absurd hp.2.2 (by decide)
theorem rsv_not (h : (rsv 192 ws xs x).2.2 ≠ 0) : (rsv 192 ws xs x).1 = xs := by
  revert h
  unfold rsv
  split
  · split
    · intro h; exact absurd rfl h
    · intro _; rfl
  · intro _; rfl
theorem St7.puts (h : St7 N s d ws xs k) (h19 : 19 ≤ N) (hs : s = V.slabs N) (hsh : sh.table = 128) : ∀ i t, i < ws.length → t < 2 ^ 64 → (d.put (sh.table + 8 * (i : Int)) t).2 = 0 := fun i t hi ht => by
  rw [hsh]
  exact (h.up.put h19 (by rw [h.wl]; exact hs) (i := i) (t := t) (by rw [← hs, ← h.wl]; exact hi) ht).1
theorem sz_take (h : St7 N s d ws xs k) (h19 : 19 ≤ N) (hs : s = V.slabs N) (hsh : sh.table = 128) (x y : Int) : sz (takeR d sh 192 ws xs x).2.1 (takeR d sh 192 ws xs x).2.2.1 y = sz ws xs y := by
  have hp := pl_take (da := 192) h.good (h.puts h19 hs hsh) x
  unfold sz
  unfold P.Pl.take at hp
  split at hp
  · simp only [Prod.mk.injEq, P.Pl.mk.injEq, true_and] at hp
    rw [← hp.1.2]
  · simp only [Prod.mk.injEq, P.Pl.mk.injEq, true_and] at hp
    rw [← hp.1.2]
theorem sz_drop (h : St7 N s d ws xs k) (h19 : 19 ≤ N) (hs : s = V.slabs N) (hsh : sh.table = 128) (x : Int) :
    ((dropR d sh 192 ws xs x).2.2.2 = if sz ws xs x = 0 then 7 else 0) ∧ sz (dropR d sh 192 ws xs x).2.1 (dropR d sh 192 ws xs x).2.2.1 x = 0 ∧ ∀ y, y ≠ x → sz (dropR d sh 192 ws xs x).2.1 (dropR d sh 192 ws xs x).2.2.1 y = sz ws xs y := by
  have hp := pl_drop (da := 192) h.good (h.puts h19 hs hsh) x
  unfold sz
  unfold P.Pl.drop at hp
  dsimp only at hp
  rcases P.find_cases 192 (both ws xs) x with ⟨e, hno⟩ | ⟨i, b, e, hf⟩
  · rw [e] at hp
    simp only [Prod.mk.injEq, P.Pl.mk.injEq, true_and] at hp
    rw [← hp.1.2, ← hp.2, szL_none hno]
    exact ⟨rfl, rfl, fun _ _ => rfl⟩
  · rw [e] at hp
    simp only [Prod.mk.injEq, P.Pl.mk.injEq, true_and] at hp
    have hne : szL (both ws xs) x ≠ 0 := by rcases szL_one hf with h | h <;> rw [h] <;> decide
    rw [← hp.1.2, ← hp.2, if_neg hne]
    exact ⟨rfl, szL_sub hf⟩
end

end Go.Proofs.YtaceogpdjbikiaaGreatDoor
