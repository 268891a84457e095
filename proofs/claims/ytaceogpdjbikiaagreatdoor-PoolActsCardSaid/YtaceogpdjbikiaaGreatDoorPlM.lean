
/- Plain mathematics of layer 7: a pool as its slabs' words, and these with what is reserved; places of blocks; which block a place is; Reserve, Take, Drop, All as the document says them. Nothing of the program. -/
import Derived.Test.YtaceogpdjbikiaaGreatDoorSl
namespace Go.Proofs.YtaceogpdjbikiaaGreatDoor.P

/-- The place of a block. -/
def off (data s : Nat) (c b : Nat) : Nat := data + 1024 * s + 64 * b * S.lns (c : Int)
theorem lns_blk {c : Nat} {b : Nat} (h : b < S.blk (c : Int)) : (c = 1 ∧ b < 16 ∧ S.lns (c : Int) = 1) ∨ (c = 2 ∧ b < 4 ∧ S.lns (c : Int) = 4) := by
  unfold S.blk at h
  split at h
  · left; rename_i e; exact ⟨by omega, h, by rw [e]; rfl⟩
  · split at h
    · right; rename_i e; exact ⟨by omega, h, by rw [e]; rfl⟩
    · omega
/-- Where a block stands within its slab. -/
theorem off_in {c b : Nat} (h : b < S.blk (c : Int)) : 64 * b * S.lns (c : Int) + 64 * S.lns (c : Int) ≤ 1024 := by
  rcases lns_blk h with ⟨_, h1, h2⟩ | ⟨_, h1, h2⟩ <;> rw [h2] <;> omega
theorem off_slab {data s s' c c' b b' : Nat} (h : b < S.blk (c : Int)) (h' : b' < S.blk (c' : Int)) (e : off data s c b = off data s' c' b') : s = s' ∧ 64 * b * S.lns (c : Int) = 64 * b' * S.lns (c' : Int) := by
  unfold off at e
  rcases lns_blk h with ⟨_, h1, h2⟩ | ⟨_, h1, h2⟩ <;> rcases lns_blk h' with ⟨_, h1', h2'⟩ | ⟨_, h1', h2'⟩ <;> rw [h2, h2'] at e ⊢ <;> omega
theorem off_block {data s s' c b b' : Nat} (h : b < S.blk (c : Int)) (h' : b' < S.blk (c : Int)) (e : off data s c b = off data s' c b') : b = b' := by
  have := (off_slab h h' e).2
  rcases lns_blk h with ⟨_, h1, h2⟩ | ⟨_, h1, h2⟩ <;> rw [h2] at this <;> omega

/-- A place is a block that some words have. -/
def FindIs (data : Nat) (l : List Nat) (x : Int) (i b : Nat) : Prop := i < l.length ∧ (S.tkn (l.getD i 0)).testBit b = true ∧ x = (off data i (S.cls (l.getD i 0)) b : Nat)
theorem FindIs.blk {data : Nat} {l : List Nat} {x : Int} {i b : Nat} (h : FindIs data l x i b) : b < S.blk (S.cls (l.getD i 0)) := by
  apply Nat.lt_of_not_le
  intro h2
  have := S.tkn_high (n := l.getD i 0) h2
  rw [h.2.1] at this
  cases this
theorem FindIs.lt {data : Nat} {l : List Nat} {x : Int} {i b : Nat} (h : FindIs data l x i b) : b < 16 := Nat.lt_of_lt_of_le h.blk (S.blk_le _)
theorem FindIs.one {data : Nat} {l : List Nat} {x : Int} {i b i' b' : Nat} (h : FindIs data l x i b) (h' : FindIs data l x i' b') : i = i' ∧ b = b' := by
  have e : off data i (S.cls (l.getD i 0)) b = off data i' (S.cls (l.getD i' 0)) b' := by have := h.2.2.symm.trans h'.2.2; omega
  obtain ⟨rfl, _⟩ := off_slab h.blk h'.blk e
  exact ⟨rfl, off_block h.blk h'.blk e⟩
theorem FindIs.has {data : Nat} {l : List Nat} {x : Int} {i b : Nat} (h : FindIs data l x i b) : S.has (l.getD i 0) (b : Int) = true := by
  unfold S.has
  rw [decide_eq_true (by omega), Int.toNat_natCast, h.2.1]
  rfl
/-- The block that a place is, if it is one. -/
noncomputable def find (data : Nat) (l : List Nat) (x : Int) : Option (Nat × Nat) :=
  open Classical in if h : ∃ p : Nat × Nat, FindIs data l x p.1 p.2 then some (Classical.choose h) else none
theorem find_some {data : Nat} {l : List Nat} {x : Int} {i b : Nat} (h : FindIs data l x i b) : find data l x = some (i, b) := by
  have hx : ∃ p : Nat × Nat, FindIs data l x p.1 p.2 := ⟨(i, b), h⟩
  unfold find
  rw [dif_pos hx]
  have h2 := Classical.choose_spec hx
  obtain ⟨e1, e2⟩ := h2.one h
  exact congrArg some (Prod.ext e1 e2)
theorem find_none {data : Nat} {l : List Nat} {x : Int} (h : ∀ i b, ¬ FindIs data l x i b) : find data l x = none := by
  unfold find
  rw [dif_neg (fun ⟨p, hp⟩ => h _ _ hp)]
theorem find_cases (data : Nat) (l : List Nat) (x : Int) : (find data l x = none ∧ ∀ i b, ¬ FindIs data l x i b) ∨ ∃ i b, find data l x = some (i, b) ∧ FindIs data l x i b := by
  by_cases h : ∃ p : Nat × Nat, FindIs data l x p.1 p.2
  · obtain ⟨⟨i, b⟩, h⟩ := h
    exact .inr ⟨i, b, find_some h, h⟩
  · have h2 : ∀ i b, ¬ FindIs data l x i b := fun i b hb => h ⟨(i, b), hb⟩
    exact .inl ⟨find_none h2, h2⟩

/-- The slab that Reserve takes a block of: the first one of that class with room, else the first one that is free. -/
def fits (c : Int) (w : Nat) : Bool := decide (w ≠ 0 ∧ 0 ≤ S.nxt w c)
def pick (c : Int) (hs : List Nat) : Option Nat := match hs.findIdx? (fits c) with
  | some i => some i
  | none => hs.findIdx? (fun w => decide (w = 0))

/-- A pool: where its slabs begin, their words as they are known, and these with what is reserved. -/
structure Pl where
  data : Nat
  ws : List Nat
  hs : List Nat
/-- What holds of a slab's two words. -/
def Fit (w h : Nat) : Prop := S.rgt w = true ∧ S.rgt h = true ∧ (w = 0 ∨ S.cls w = S.cls h) ∧ ∀ b, (S.tkn w).testBit b = true → (S.tkn h).testBit b = true
def Pl.Good (p : Pl) : Prop := p.ws.length = p.hs.length ∧ ∀ i, i < p.hs.length → Fit (p.ws.getD i 0) (p.hs.getD i 0)

theorem rgt_zero : S.rgt 0 = true := rfl
theorem Fit.zero : Fit 0 0 := ⟨rfl, rfl, .inl rfl, fun b h => by rw [show S.tkn 0 = 0 from rfl, Nat.zero_testBit] at h; cases h⟩
theorem Fit.same {w : Nat} (h : S.rgt w = true) : Fit w w := ⟨h, h, .inr rfl, fun _ h => h⟩
theorem rgt_cls0 {w : Nat} (h : S.rgt w = true) : S.cls w = 0 ↔ w = 0 := by
  rcases S.shape w with ⟨h1, _⟩ | ⟨_, h1, h2⟩
  · rw [h1] at h; cases h
  · omega
/-- Reserving a block. -/
theorem Fit.reserve {w h : Nat} {c : Int} {b : Nat} (f : Fit w h) (ht : S.tak h c (b : Int) = true) : Fit w (S.tkW h c (b : Int)) := by
  obtain ⟨f1, f2, f3, f4⟩ := f
  obtain ⟨k, e, t1, t2, t3, t4, t5, t6, t7, t8, t9, t10, t11⟩ := S.take_of ht
  refine ⟨f1, t9, ?_, fun q hq => ?_⟩
  · by_cases hw : w = 0
    · exact .inl hw
    · right
      have hc : S.cls w = S.cls h := by rcases f3 with h3 | h3; exact absurd h3 hw; exact h3
      rw [t10, hc]
      rcases t4 with h0 | h0
      · rw [h0, show S.cls 0 = 0 from rfl] at hc
        exact absurd ((rgt_cls0 f1).1 hc) hw
      · omega
  · rw [t11, S.bit_add t5, f4 q hq]; rfl
/-- Taking a block that is reserved. -/
theorem Fit.take {w h b : Nat} (f : Fit w h) (hh : (S.tkn h).testBit b = true) (hw : (S.tkn w).testBit b = false) : S.tak w (S.cls h : Int) (b : Int) = true ∧ Fit (S.tkW w (S.cls h : Int) (b : Int)) h := by
  obtain ⟨f1, f2, f3, f4⟩ := f
  have hb : b < S.blk (S.cls h) := by
    apply Nat.lt_of_not_le
    intro h2
    rw [S.tkn_high h2] at hh
    cases hh
  have h12 : S.cls h = 1 ∨ S.cls h = 2 := by rcases lns_blk hb with ⟨h, _⟩ | ⟨h, _⟩; exact .inl h; exact .inr h
  have ht : S.tak w (S.cls h : Int) (b : Int) = true := by
    unfold S.tak S.sui S.has
    rw [Int.toNat_natCast, hw, decide_eq_true (show 0 ≤ (b : Int) ∧ (b : Int) < (S.blk (S.cls h) : Int) by omega), decide_eq_true (⟨by omega, by
      rcases f3 with f3 | f3
      · exact .inl f3
      · exact .inr (by rw [f3])⟩ : ((S.cls h : Int) = 1 ∨ (S.cls h : Int) = 2) ∧ (w = 0 ∨ (S.cls w : Int) = (S.cls h : Int)))]
    simp
  obtain ⟨k, e, t1, t2, t3, t4, t5, t6, t7, t8, t9, t10, t11⟩ := S.take_of ht
  obtain rfl : k = b := by omega
  refine ⟨ht, t9, f2, .inr (by rw [t10]; omega), fun q hq => ?_⟩
  rw [t11, S.bit_add t5] at hq
  cases hq2 : (S.tkn w).testBit q with
  | true => exact f4 q hq2
  | false =>
    rw [hq2, Bool.false_or, decide_eq_true_eq] at hq
    rw [← hq]; exact hh
/-- Dropping a block that is reserved, or taken. -/
theorem Fit.drop {w h b : Nat} (f : Fit w h) (hh : (S.tkn h).testBit b = true) : Fit (S.drW w (b : Int)) (S.drW h (b : Int)) := by
  obtain ⟨f1, f2, f3, f4⟩ := f
  have hbh : S.has h (b : Int) = true := by
    unfold S.has; rw [decide_eq_true (by omega), Int.toNat_natCast, hh]; rfl
  obtain ⟨k, e, d1, d2, d3, d4, d5, d6, d7, d8, d9, d10, d11⟩ := S.drop_of hbh
  obtain rfl : k = b := by omega
  cases hw : S.has w (k : Int) with
  | true =>
    obtain ⟨k', e', e1, e2, e3, e4, e5, e6, e7, e8, e9, e10, e11⟩ := S.drop_of hw
    obtain rfl : k' = k := by omega
    refine ⟨e9, d9, ?_, fun q hq => ?_⟩
    · have hc : S.cls w = S.cls h := by
        rcases f3 with h0 | h0
        · rw [h0, show S.cls 0 = 0 from rfl] at e3; omega
        · exact h0
      by_cases hz : S.tkn w = 2 ^ k'
      · left; rw [e8, if_pos hz]
      · right
        have hz2 : ¬ S.tkn h = 2 ^ k' := by
          intro hz2
          apply hz
          apply Nat.eq_of_testBit_eq
          intro i
          rw [← hz2]
          by_cases hi : i = k'
          · rw [hi, e4, hh]
          · cases hq : (S.tkn w).testBit i with
            | true => rw [f4 i hq]
            | false =>
              rw [hz2, Nat.testBit_two_pow, decide_eq_false (fun x => hi x.symm)]
        rw [e10, d10, if_neg hz, if_neg hz2, hc]
    · rw [e11, S.bit_sub e4, Bool.and_eq_true] at hq
      rw [d11, S.bit_sub d4, f4 q hq.1, hq.2]; rfl
  | false =>
    rw [S.drop_not hw]
    have hwb : (S.tkn w).testBit k = false := by
      unfold S.has at hw
      rw [decide_eq_true (by omega), Int.toNat_natCast, Bool.true_and] at hw
      exact hw
    refine ⟨f1, d9, ?_, fun q hq => ?_⟩
    · by_cases h0 : w = 0
      · exact .inl h0
      · right
        have hc : S.cls w = S.cls h := by rcases f3 with h3 | h3; exact absurd h3 h0; exact h3
        have hz2 : ¬ S.tkn h = 2 ^ k := by
          intro hz2
          apply h0
          apply S.tkn_zero _ f1
          apply Nat.eq_of_testBit_eq
          intro i
          rw [Nat.zero_testBit]
          cases hq : (S.tkn w).testBit i with
          | false => rfl
          | true =>
            have := f4 i hq
            rw [hz2, Nat.testBit_two_pow, decide_eq_true_eq] at this
            rw [← this, hwb] at hq
            cases hq
        rw [d10, if_neg hz2, hc]
    · rw [d11, S.bit_sub d4, f4 q hq]
      have : ¬ k = q := fun x => by rw [← x, hwb] at hq; cases hq
      simp [this]

/-- The calls. -/
def Pl.reserve (p : Pl) (c : Int) : Pl × Int × Int :=
  if c = 1 ∨ c = 2 then
    match pick c p.hs with
    | some i => ({ p with hs := p.hs.set i (S.tkW (p.hs.getD i 0) c (S.nxt (p.hs.getD i 0) c)) }, (off p.data i c.toNat (S.nxt (p.hs.getD i 0) c).toNat : Nat), 0)
    | none => (p, 0, 6)
  else (p, 0, 2)
noncomputable def Pl.take (p : Pl) (x : Int) : Pl × Int :=
  match find p.data p.hs x, find p.data p.ws x with
  | some (i, b), none => ({ p with ws := p.ws.set i (S.tkW (p.ws.getD i 0) (S.cls (p.hs.getD i 0) : Int) (b : Int)) }, 0)
  | _, _ => (p, 7)
noncomputable def Pl.drop (p : Pl) (x : Int) : Pl × Int :=
  match find p.data p.hs x with
  | some (i, b) => ({ p with hs := p.hs.set i (S.drW (p.hs.getD i 0) (b : Int)), ws := p.ws.set i (S.drW (p.ws.getD i 0) (b : Int)) }, 0)
  | none => (p, 7)
theorem getD_set (l : List Nat) (i j v : Nat) (hi : i < l.length) : (l.set i v).getD j 0 = if j = i then v else l.getD j 0 := by
  simp only [List.getD_eq_getElem?_getD, List.getElem?_set]
  by_cases h : i = j
  · subst h; simp [hi]
  · rw [if_neg h, if_neg (fun x => h x.symm)]
theorem pick_some {c : Int} {hs : List Nat} {i : Nat} (h : pick c hs = some i) : i < hs.length ∧ (fits c (hs.getD i 0) = true ∨ hs.getD i 0 = 0) := by
  unfold pick at h
  split at h
  · rename_i j hj
    obtain ⟨h1, h2, _⟩ := List.findIdx?_eq_some_iff_getElem.1 hj
    simp only [Option.some.injEq] at h
    subst h
    exact ⟨h1, .inl (by rw [List.getD_eq_getElem?_getD, List.getElem?_eq_getElem h1]; exact h2)⟩
  · obtain ⟨h1, h2, _⟩ := List.findIdx?_eq_some_iff_getElem.1 h
    exact ⟨h1, .inr (by rw [List.getD_eq_getElem?_getD, List.getElem?_eq_getElem h1]; exact of_decide_eq_true h2)⟩
/-- The block that is reserved is one that may be taken. -/
theorem nxt_take {w : Nat} {c : Int} (hc : c = 1 ∨ c = 2) (hr : S.rgt w = true) (h : fits c w = true ∨ w = 0) : ∃ b : Nat, S.nxt w c = (b : Int) ∧ b < S.blk c ∧ S.tak w c (b : Int) = true := by
  have hlt : w < 2 ^ 64 := by
    rcases S.shape w with ⟨h1, _⟩ | ⟨_, h1, h2⟩
    · rw [h1] at hr; cases hr
    · omega
  have hs : S.sui w c = true ∧ 0 ≤ S.nxt w c := by
    rcases h with h | rfl
    · have h2 := (of_decide_eq_true h).2
      cases hs : S.sui w c with
      | true => exact ⟨rfl, h2⟩
      | false => rw [S.nxt_not hs] at h2; omega
    · refine ⟨decide_eq_true ⟨hc, .inl rfl⟩, ?_⟩
      rcases hc with rfl | rfl <;> decide
  rcases S.nxt_of hlt hs.1 with ⟨h1, _⟩ | ⟨k, h1, h2, h3, _⟩
  · omega
  · refine ⟨k, h1, h2, ?_⟩
    unfold S.tak S.has
    rw [hs.1, Int.toNat_natCast, h3, decide_eq_true (show 0 ≤ (k : Int) ∧ (k : Int) < (S.blk c : Int) by omega)]
    simp
theorem Pl.Good.reserve {p : Pl} (g : p.Good) (c : Int) : (p.reserve c).1.Good := by
  unfold Pl.reserve
  split
  · rename_i hc
    split
    · rename_i i hi
      obtain ⟨h1, h2⟩ := pick_some hi
      obtain ⟨b, b1, b2, b3⟩ := nxt_take hc (g.2 i h1).2.1 h2
      refine ⟨by simpa using g.1, fun j hj => ?_⟩
      simp only [List.length_set] at hj
      show Fit (p.ws.getD j 0) _
      rw [getD_set _ _ _ _ h1]
      by_cases e : j = i
      · subst e
        rw [if_pos rfl, b1]
        exact (g.2 j hj).reserve b3
      · rw [if_neg e]; exact g.2 j hj
    · exact g
  · exact g
theorem Pl.Good.findH {p : Pl} (g : p.Good) {x : Int} {i b : Nat} (h : FindIs p.data p.ws x i b) : FindIs p.data p.hs x i b := by
  obtain ⟨h1, h2, h3⟩ := h
  rw [g.1] at h1
  obtain ⟨f1, f2, f3, f4⟩ := g.2 i h1
  refine ⟨h1, f4 b h2, ?_⟩
  rcases f3 with f3 | f3
  · rw [f3, show S.tkn 0 = 0 from rfl, Nat.zero_testBit] at h2; cases h2
  · rw [← f3]; exact h3
/-- A place that is a block of those with the reserved ones, and is none that is taken. -/
theorem Pl.Good.notW {p : Pl} (g : p.Good) {x : Int} {i b : Nat} (h : FindIs p.data p.hs x i b) (hn : ∀ i b, ¬ FindIs p.data p.ws x i b) : (S.tkn (p.ws.getD i 0)).testBit b = false := by
  cases hb : (S.tkn (p.ws.getD i 0)).testBit b with
  | false => rfl
  | true =>
    obtain ⟨h1, h2, h3⟩ := h
    obtain ⟨f1, f2, f3, f4⟩ := g.2 i h1
    refine absurd ⟨by rw [g.1]; exact h1, hb, ?_⟩ (hn i b)
    rcases f3 with f3 | f3
    · rw [f3, show S.tkn 0 = 0 from rfl, Nat.zero_testBit] at hb; cases hb
    · rw [f3]; exact h3
theorem Pl.Good.take {p : Pl} (g : p.Good) (x : Int) : (p.take x).1.Good := by
  unfold Pl.take
  rcases find_cases p.data p.hs x with ⟨e, _⟩ | ⟨i, b, e, h⟩
  · rw [e]; exact g
  · rcases find_cases p.data p.ws x with ⟨e2, hn⟩ | ⟨i', b', e2, _⟩
    · rw [e, e2]
      have hw := g.notW h hn
      have hf := (g.2 i h.1).take h.2.1 hw
      refine ⟨by simpa using g.1, fun j hj => ?_⟩
      have hj' : j < p.hs.length := hj
      show Fit ((p.ws.set i _).getD j 0) (p.hs.getD j 0)
      rw [getD_set _ _ _ _ (by rw [g.1]; exact h.1)]
      by_cases ej : j = i
      · subst ej; rw [if_pos rfl]; exact hf.2
      · rw [if_neg ej]; exact g.2 j hj'
    · rw [e, e2]; exact g
theorem Pl.Good.drop {p : Pl} (g : p.Good) (x : Int) : (p.drop x).1.Good := by
  unfold Pl.drop
  rcases find_cases p.data p.hs x with ⟨e, _⟩ | ⟨i, b, e, h⟩
  · rw [e]; exact g
  · rw [e]
    refine ⟨by simpa using g.1, fun j hj => ?_⟩
    simp only [List.length_set] at hj
    show Fit ((p.ws.set i _).getD j 0) ((p.hs.set i _).getD j 0)
    rw [getD_set _ _ _ _ (by rw [g.1]; exact h.1), getD_set _ _ _ _ h.1]
    by_cases ej : j = i
    · subst ej; rw [if_pos rfl, if_pos rfl]; exact (g.2 j hj).drop h.2.1
    · rw [if_neg ej, if_neg ej]; exact g.2 j hj
/-- The places of all blocks that some words have. -/
def all (data : Nat) (l : List Nat) : Nat → List Int
  | 0 => []
  | k + 1 => all data l k ++ (S.ls (S.tkn (l.getD k 0)) 16).map fun b => ((off data k (S.cls (l.getD k 0)) b.toNat : Nat) : Int)
theorem mem_all {data : Nat} {l : List Nat} {x : Int} {k : Nat} (hk : k ≤ l.length) : x ∈ all data l k ↔ ∃ i b, i < k ∧ FindIs data l x i b := by
  induction k with
  | zero => simp [all]
  | succ k ih =>
    simp only [all, List.mem_append, ih (by omega), List.mem_map, S.ls_mem]
    constructor
    · rintro (⟨i, b, h1, h2⟩ | ⟨z, ⟨h1, h2, h3⟩, rfl⟩)
      · exact ⟨i, b, by omega, h2⟩
      · exact ⟨k, z.toNat, by omega, by omega, h3, rfl⟩
    · rintro ⟨i, b, h1, h2⟩
      by_cases e : i = k
      · subst e
        exact .inr ⟨(b : Int), ⟨by omega, by have := h2.lt; omega, by rw [Int.toNat_natCast]; exact h2.2.1⟩, by rw [Int.toNat_natCast]; exact h2.2.2.symm⟩
      · exact .inl ⟨i, b, by omega, h2⟩
/-- How many blocks words have. -/
def count (l : List Nat) : Nat → Nat
  | 0 => 0
  | k + 1 => count l k + S.pc (S.tkn (l.getD k 0)) 16
theorem all_length (data : Nat) (l : List Nat) (k : Nat) : (all data l k).length = count l k := by
  induction k with
  | zero => rfl
  | succ k ih => simp only [all, count, List.length_append, List.length_map, ih, S.ls_length]
theorem count_set (l : List Nat) (i v : Nat) (hi : i < l.length) : ∀ k, count (l.set i v) k + (if i < k then S.pc (S.tkn (l.getD i 0)) 16 else 0) = count l k + (if i < k then S.pc (S.tkn v) 16 else 0)
  | 0 => rfl
  | k + 1 => by
    have ih := count_set l i v hi k
    simp only [count]
    rw [getD_set _ _ _ _ hi]
    by_cases e : k = i
    · subst e
      rw [if_neg (by omega), if_neg (by omega)] at ih
      rw [if_pos rfl, if_pos (by omega), if_pos (by omega)]
      omega
    · rw [if_neg e]
      by_cases h : i < k
      · rw [if_pos h, if_pos h] at ih
        rw [if_pos (by omega), if_pos (by omega)]
        omega
      · rw [if_neg h, if_neg h] at ih
        rw [if_neg (by omega), if_neg (by omega)]
        omega
/-- Rising: behind it no place comes twice. -/
theorem ls_rising (t : Nat) : ∀ k, (S.ls t k).Pairwise (· < ·)
  | 0 => List.Pairwise.nil
  | k + 1 => by
    simp only [S.ls]
    rw [List.pairwise_append]
    refine ⟨ls_rising t k, by split <;> simp, fun a ha b hb => ?_⟩
    have h1 := S.ls_range t k a ha
    split at hb
    · simp at hb; omega
    · cases hb
theorem all_rising (data : Nat) (l : List Nat) : ∀ k, k ≤ l.length → (all data l k).Pairwise (· < ·)
  | 0, _ => List.Pairwise.nil
  | k + 1, hk => by
    simp only [all]
    rw [List.pairwise_append]
    refine ⟨all_rising data l k (by omega), ?_, fun a ha b hb => ?_⟩
    · rw [List.pairwise_map]
      have hls := ls_rising (S.tkn (l.getD k 0)) 16
      refine List.Pairwise.imp_of_mem ?_ hls
      intro a b ha hb hab
      have ha' := (S.ls_mem _ _ _).1 ha
      have hb' := (S.ls_mem _ _ _).1 hb
      have hA : FindIs data l _ k a.toNat := ⟨by omega, ha'.2.2, rfl⟩
      have hB : FindIs data l _ k b.toNat := ⟨by omega, hb'.2.2, rfl⟩
      unfold off
      rcases lns_blk hA.blk with ⟨_, h1, h2⟩ | ⟨_, h1, h2⟩ <;> rw [h2] <;> omega
    · obtain ⟨i, q, h1, h2⟩ := (mem_all (by omega)).1 ha
      obtain ⟨z, hz, rfl⟩ := List.mem_map.1 hb
      have hz' := (S.ls_mem _ _ _).1 hz
      have hZ : FindIs data l _ k z.toNat := ⟨by omega, hz'.2.2, rfl⟩
      rw [h2.2.2]
      have hA := off_in h2.blk
      have hB := off_in hZ.blk
      unfold off
      rcases lns_blk h2.blk with ⟨_, _, e⟩ | ⟨_, _, e⟩ <;> rw [e] at hA ⊢ <;> omega
/-- Blocks that some words have do not meet. -/
theorem apart {data : Nat} {l : List Nat} {x y : Int} {i b i' b' : Nat} (h : FindIs data l x i b) (h' : FindIs data l y i' b') (hne : x ≠ y) :
    x + 64 * (S.lns (S.cls (l.getD i 0)) : Int) ≤ y ∨ y + 64 * (S.lns (S.cls (l.getD i' 0)) : Int) ≤ x := by
  have h1 := off_in h.blk
  have h2 := off_in h'.blk
  rw [h.2.2, h'.2.2] at hne ⊢
  unfold off at hne ⊢
  by_cases e : i = i'
  · subst e
    rcases lns_blk h.blk with ⟨c1, _, e1⟩ | ⟨c1, _, e1⟩ <;> rw [e1] at hne h1 h2 ⊢ <;> omega
  · rcases lns_blk h.blk with ⟨_, _, e1⟩ | ⟨_, _, e1⟩ <;> rcases lns_blk h'.blk with ⟨_, _, e2⟩ | ⟨_, _, e2⟩ <;> rw [e1] at hne h1 ⊢ <;> rw [e2] at hne h2 ⊢ <;> omega
/-- Each block stands within the slabs. -/
theorem within {data : Nat} {l : List Nat} {x : Int} {i b : Nat} (h : FindIs data l x i b) : (data : Int) ≤ x ∧ x + 64 * (S.lns (S.cls (l.getD i 0)) : Int) ≤ (data : Int) + 1024 * (l.length : Int) := by
  have h1 := off_in h.blk
  have h2 := h.1
  rw [h.2.2]
  unfold off
  rcases lns_blk h.blk with ⟨_, _, e1⟩ | ⟨_, _, e1⟩ <;> rw [e1] at h1 ⊢ <;> omega
end Go.Proofs.YtaceogpdjbikiaaGreatDoor.P
