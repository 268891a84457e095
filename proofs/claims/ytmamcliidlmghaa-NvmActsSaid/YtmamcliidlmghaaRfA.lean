/- The reference's device in memory: rows of cells, of which each call makes new ones; the contract of its done. -/
import Derived.Test.YtmamcliidlmghaaNvDh
import Derived.Test.YtmamcliidlmghaaActM
namespace Go.Proofs.Ytmamcliidlmghaa
open Go.RowKit

/-- A content of a line: bytes, in a block apart from F. -/
def ContAt (w : World) (F : List Nat) (u : Value) (zs : List Int) : Prop := ∃ g o c, u = .slice (some ⟨g, o, none⟩) zs.length c ∧ g ∉ F ∧ g < w.heap.size ∧ IsBytes w u zs
theorem ContAt.step {w w' : World} {F F' : List Nat} {u : Value} {zs : List Int} (h : ContAt w F u zs) (ho : Only F w w') (hF : ∀ k ∈ F', k ∈ F ∨ w.heap.size ≤ k) : ContAt w' F' u zs := by
  obtain ⟨g, o, c, rfl, h1, h2, h3⟩ := h
  refine ⟨g, o, c, rfl, fun hf => ?_, Nat.lt_of_lt_of_le h2 ho.size, IsInts.only h3 ho (fun _ a e => by cases e; exact h1)⟩
  rcases hF g hf with e | e
  · exact h1 e
  · omega
/-- A line, as the reference has it: its contents, and its mark. -/
def CellAt (w : World) (F : List Nat) (p : Value × Value) (l : V.Ln) : Prop :=
  ∃ L mark b o c, V.Tells l L mark ∧ p.2 = .int .i64 mark ∧ p.1 = .slice (some ⟨b, o, none⟩) L.length c ∧ L.length ≤ c ∧ c ≤ maxLen ∧ b ∉ F ∧ b < w.heap.size ∧ ∀ (i : Nat) (z : List Int), L[i]? = some z → ∃ u, w.cell? ⟨b, o + i, none⟩ = some u ∧ ContAt w F u z
theorem CellAt.step {w w' : World} {F F' : List Nat} {p : Value × Value} {l : V.Ln} (h : CellAt w F p l) (ho : Only F w w') (hF : ∀ k ∈ F', k ∈ F ∨ w.heap.size ≤ k) : CellAt w' F' p l := by
  obtain ⟨L, mark, b, o, c, h1, h2, h3, h4, h5, h6, h7, h8⟩ := h
  refine ⟨L, mark, b, o, c, h1, h2, h3, h4, h5, fun hf => ?_, Nat.lt_of_lt_of_le h7 ho.size, fun i z hz => ?_⟩
  · rcases hF b hf with e | e
    · exact h6 e
    · omega
  · obtain ⟨u, hu, hc⟩ := h8 i z hz
    exact ⟨u, (World.cell?_of_block (w := w) (a := ⟨b, o + i, none⟩) (ho.block b h7 h6)).trans hu, hc.step ho hF⟩
/-- The lines, one behind the other. -/
structure RowAt (w : World) (F : List Nat) (C : Nat) (cs : List (Value × Value)) (ls : List V.Ln) : Prop where
  len : cs.length = ls.length
  off : C ∉ F
  lt : C < w.heap.size
  cell : ∀ (j : Nat) (p : Value × Value), cs[j]? = some p → w.cell? ⟨C, 2 * j, none⟩ = some p.1 ∧ w.cell? ⟨C, 2 * j + 1, none⟩ = some p.2
  line : ∀ (j : Nat) (p : Value × Value) (l : V.Ln), cs[j]? = some p → ls[j]? = some l → CellAt w F p l
theorem RowAt.step {w w' : World} {F F' : List Nat} {C : Nat} {cs : List (Value × Value)} {ls : List V.Ln} (h : RowAt w F C cs ls) (ho : Only F w w') (hF : ∀ k ∈ F', k ∈ F ∨ w.heap.size ≤ k) : RowAt w' F' C cs ls := by
  refine ⟨h.len, fun hf => ?_, Nat.lt_of_lt_of_le h.lt ho.size, fun j p hp => ?_, fun j p l hp hl => (h.line j p l hp hl).step ho hF⟩
  · rcases hF C hf with e | e
    · exact h.off e
    · have := h.lt; omega
  · obtain ⟨h1, h2⟩ := h.cell j p hp
    exact ⟨(World.cell?_of_block (w := w) (a := ⟨C, 2 * j, none⟩) (ho.block C h.lt h.off)).trans h1, (World.cell?_of_block (w := w) (a := ⟨C, 2 * j + 1, none⟩) (ho.block C h.lt h.off)).trans h2⟩
/-- Whether it is down, and how many may still be done. -/
def Stt (d : V.Dv) (down : Bool) (left : Int) : Prop := down = decide (d.left = 0) ∧ (d.left ≠ 0 → left = d.left)
/-- The reference's device as a value. -/
def RefAt (w : World) (F : List Nat) (m : Value) (d : V.Dv) : Prop :=
  ∃ C cap cs down left, m = .agg #[.slice (some ⟨C, 0, none⟩) d.lines.length cap, .bool down, .int .i64 left, .int .i64 (d.steps : Int)] ∧ d.lines.length ≤ cap ∧ cap ≤ maxLen ∧ RowAt w F C cs d.lines ∧ Stt d down left
theorem RefAt.step {w w' : World} {F F' : List Nat} {m : Value} {d : V.Dv} (h : RefAt w F m d) (ho : Only F w w') (hF : ∀ k ∈ F', k ∈ F ∨ w.heap.size ≤ k) : RefAt w' F' m d := by
  obtain ⟨C, cap, cs, down, left, h1, h2, h3, h4, h5⟩ := h
  exact ⟨C, cap, cs, down, left, h1, h2, h3, h4.step ho hF, h5⟩
theorem RefAt.below {w w' : World} {F : List Nat} {m : Value} {d : V.Dv} (h : RefAt w F m d) (hb : Below w.heap.size w w') : RefAt w' F m d := h.step (Only.of_below hb) (fun _ hk => .inl hk)
theorem CellAt.below {w w' : World} {F : List Nat} {p : Value × Value} {l : V.Ln} (h : CellAt w F p l) (hb : Below w.heap.size w w') : CellAt w' F p l := h.step (Only.of_below hb) (fun _ hk => .inl hk)
theorem RowAt.below {w w' : World} {F : List Nat} {C : Nat} {cs : List (Value × Value)} {ls : List V.Ln} (h : RowAt w F C cs ls) (hb : Below w.heap.size w w') : RowAt w' F C cs ls := h.step (Only.of_below hb) (fun _ hk => .inl hk)
theorem ContAt.below {w w' : World} {F : List Nat} {u : Value} {zs : List Int} (h : ContAt w F u zs) (hb : Below w.heap.size w w') : ContAt w' F u zs := h.step (Only.of_below hb) (fun _ hk => .inl hk)

/-- What a call leaves that hands a device back, of these lines. -/
def RetSt (w : World) (s : Value) (d : V.Dv) (st : Int) (e : Ending) (w' : World) : Prop :=
  ∃ down left, e = .returned (.agg #[s, .bool down, .int .i64 left, .int .i64 st]) ∧ Stt d down left ∧ Below w.heap.size w w'
set_option maxRecDepth 100000 in
/-- One more step done, of a device that is not down. -/
theorem rf_done (w : World) (C n cap : Nat) (d : V.Dv) (down : Bool) (left : Int) (st : Int) (h : Stt d down left) (hd : d.left ≠ 0) (hl : -1 ≤ d.left ∧ d.left ≤ 1000000000) (hst : 0 ≤ st ∧ st ≤ 1000000000) :
    Calls Try.prog 32 #[.agg #[.slice (some ⟨C, 0, none⟩) n cap, .bool down, .int .i64 left, .int .i64 st]] w (RetSt w (.slice (some ⟨C, 0, none⟩) n cap) d.done (st + 1)) := by
  obtain ⟨h1, h2⟩ := h
  obtain rfl := h2 hd
  have hdn : down = false := by rw [h1]; simp [hd]
  subst hdn
  clear h1 h2
  have HL : Hid (d.done.left = if 0 < d.left then d.left - 1 else d.left) := rfl
  generalize d.left = k at *
  generalize d.done = d' at *
  have HB : Hid (∀ a b : Obj, Below w.heap.size w ((w.alloc a).alloc b)) := fun a b => (((Below.refl _ _).alloc (Nat.le_refl _) a).alloc (by simp) b)
  by_cases hp : 0 < k
  · by_cases h1 : k = 1
    · subst h1
      have HS : Hid (Stt d' true 0) := by
        have h := HL.out
        rw [if_pos (by decide)] at h
        exact ⟨by simp [h], fun hn => absurd (by rw [h]; rfl) hn⟩
      go_enter Try.func32, Try.ntmps32
      go_wp2
      exact bodyPost_ret (v := .agg #[.slice (some ⟨C, 0, none⟩) n cap, .bool true, .int .i64 (0), .int .i64 (st + 1)]) (by simp [results, Try.results32, go_sem]) rfl ⟨true, 0, rfl, HS.out, HB.out _ _⟩
    · have HS : Hid (Stt d' false (k - 1)) := by
        have h := HL.out
        rw [if_pos hp] at h
        exact ⟨by rw [h]; simp; omega, fun _ => h.symm⟩
      go_enter Try.func32, Try.ntmps32
      go_wp2
      exact bodyPost_ret (v := .agg #[.slice (some ⟨C, 0, none⟩) n cap, .bool false, .int .i64 (k - 1), .int .i64 (st + 1)]) (by simp [results, Try.results32, go_sem]) rfl ⟨false, k - 1, rfl, HS.out, HB.out _ _⟩
  · have HS : Hid (Stt d' false k) := by
      have h := HL.out
      rw [if_neg hp] at h
      exact ⟨by rw [h]; simp [hd], fun _ => h.symm⟩
    have hp2 : k ≤ 0 := by omega
    go_enter Try.func32, Try.ntmps32
    go_wp2
    exact bodyPost_ret (v := .agg #[.slice (some ⟨C, 0, none⟩) n cap, .bool false, .int .i64 (k), .int .i64 (st + 1)]) (by simp [results, Try.results32, go_sem]) rfl ⟨false, k, rfl, HS.out, HB.out _ _⟩
end Go.Proofs.Ytmamcliidlmghaa
