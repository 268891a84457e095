/- The reference of layer 3: the contracts of Stop and with. -/
import Derived.Test.YtmamcliidlmghaaRfB
import Derived.Maps.AppendAt
namespace Go.Proofs.Ytmamcliidlmghaa
open Go.RowKit

/-- What a call leaves that hands a device back. -/
def RetRef (w : World) (F : List Nat) (d : V.Dv) (e : Ending) (w' : World) : Prop := ∃ m, e = .returned m ∧ RefAt w' F m d ∧ Below w.heap.size w w'
section
variable {w : World} {F : List Nat}
set_option maxRecDepth 100000 in
theorem rf_stop {m : Value} {d : V.Dv} (h : RefAt w F m d) (k : Int) (hk : -1000000000 ≤ k ∧ k ≤ 1000000000) :
    Calls Try.prog 16 #[m, .int .i64 k] w (RetRef w F (d.stop k)) := by
  obtain ⟨C, cap, cs, down, left, rfl, hc1, hc2, hrow, hst⟩ := h
  have HST := hst
  obtain ⟨hdn, hlf⟩ := hst
  have HBB : Hid (∀ a b : Obj, Below w.heap.size w ((w.alloc a).alloc b)) := fun a b => (((Below.refl _ _).alloc (Nat.le_refl _) a).alloc (by simp) b)
  have HR : Hid (∀ (d' : V.Dv) (down' : Bool) (left' : Int) (a b : Obj), d'.lines = d.lines → d'.steps = d.steps → Stt d' down' left' → RefAt ((w.alloc a).alloc b) F (.agg #[.slice (some ⟨C, 0, none⟩) d.lines.length cap, .bool down', .int .i64 left', .int .i64 (d.steps : Int)]) d') := by
    intro d' down' left' a b h1 h2 h3
    exact ⟨C, cap, cs, down', left', by rw [h1, h2], by rw [h1]; exact hc1, hc2, by rw [h1]; exact hrow.below (HBB.out a b), h3⟩
  unfold maxLen at hc2
  clear hrow
  by_cases hd : d.left = 0
  · have HV : Hid (d.stop k = d) := by show _ = _; unfold V.Dv.stop; rw [if_pos hd]
    have hdt : down = true := by rw [hdn]; simp [hd]
    subst hdt
    have HR1 := Lib.hid (fun a b => HR.out d _ _ a b rfl rfl HST)
    clear hdn hlf HR HST
    rw [HV.out]
    go_enter Try.func16, Try.ntmps16
    go_wp2
    exact bodyPost_ret (v := .agg #[.slice (some ⟨C, 0, none⟩) d.lines.length cap, .bool true, .int .i64 left, .int .i64 (d.steps : Int)]) (by simp [results, Try.results16, go_sem]) rfl ⟨_, rfl, HR1.out _ _, HBB.out _ _⟩
  · have hdt : down = false := by rw [hdn]; simp [hd]
    subst hdt
    have hV : d.stop k = { lines := d.lines, left := max k 0, steps := d.steps } := by unfold V.Dv.stop; rw [if_neg hd]
    by_cases hk0 : k ≤ 0
    · have HR1 := Lib.hid (fun a b => HR.out (d.stop k) true k a b (by rw [hV]) (by rw [hV]) ⟨by rw [hV]; simp; omega, fun hn => absurd (by rw [hV]; show max k 0 = 0; omega) hn⟩)
      clear hdn hlf HR HST hV
      generalize d.stop k = d' at *
      go_enter Try.func16, Try.ntmps16
      go_wp2
      exact bodyPost_ret (v := .agg #[.slice (some ⟨C, 0, none⟩) d.lines.length cap, .bool true, .int .i64 k, .int .i64 (d.steps : Int)]) (by simp [results, Try.results16, go_sem]) rfl ⟨_, rfl, HR1.out _ _, HBB.out _ _⟩
    · have HR1 := Lib.hid (fun a b => HR.out (d.stop k) false k a b (by rw [hV]) (by rw [hV]) ⟨by rw [hV]; simp; omega, fun hn => by rw [hV]; show k = max k 0; omega⟩)
      have hk1 : 0 < k := by omega
      clear hdn hlf HR HST hV hk0
      generalize d.stop k = d' at *
      go_enter Try.func16, Try.ntmps16
      go_wp2
      exact bodyPost_ret (v := .agg #[.slice (some ⟨C, 0, none⟩) d.lines.length cap, .bool false, .int .i64 k, .int .i64 (d.steps : Int)]) (by simp [results, Try.results16, go_sem]) rfl ⟨_, rfl, HR1.out _ _, HBB.out _ _⟩

/-! ### with -/
def rowVals (cs : List (Value × Value)) : List Value := cs.flatMap fun p => [p.1, p.2]
theorem rowVals_length (cs : List (Value × Value)) : (rowVals cs).length = cs.length * 2 := by
  induction cs with
  | nil => rfl
  | cons p cs ih => rw [rowVals, List.flatMap_cons, List.length_append, ← rowVals, ih, List.length_cons]; simp; omega
theorem rowVals_get (cs : List (Value × Value)) (j : Nat) (p : Value × Value) (h : cs[j]? = some p) : (rowVals cs)[j * 2]? = some p.1 ∧ (rowVals cs)[j * 2 + 1]? = some p.2 := by
  induction cs generalizing j with
  | nil => simp at h
  | cons q cs ih =>
    cases j with
    | zero =>
      obtain rfl : q = p := by simpa using h
      exact ⟨rfl, rfl⟩
    | succ j =>
      obtain ⟨h1, h2⟩ := ih j (by simpa using h)
      have e : rowVals (q :: cs) = q.1 :: q.2 :: rowVals cs := rfl
      rw [e, show (j + 1) * 2 = j * 2 + 2 by omega, show j * 2 + 2 + 1 = j * 2 + 1 + 2 by omega]
      exact ⟨by simpa using h1, by simpa using h2⟩
theorem rowVals_set (cs : List (Value × Value)) (j : Nat) (p : Value × Value) : ((rowVals cs).set (j * 2) p.1).set (j * 2 + 1) p.2 = rowVals (cs.set j p) := by
  induction cs generalizing j with
  | nil => rfl
  | cons q cs ih =>
    cases j with
    | zero => rfl
    | succ j =>
      have e : ∀ q cs, rowVals (q :: cs) = q.1 :: q.2 :: rowVals cs := fun _ _ => rfl
      rw [List.set_cons_succ, e, e, ← ih j, show (j + 1) * 2 = j * 2 + 2 by omega]
      rfl
theorem info_cell : (Try.prog.info? 68).map (fun i => (i.zero, i.size, i.bytes)) = some (some (.agg #[.slice none 0 0, .int .i64 0]), 2, 32) := by kernel_rfl
theorem RowAt.vals {w : World} {C : Nat} {cs : List (Value × Value)} {ls : List V.Ln} (h : RowAt w F C cs ls) : ∀ (j : Nat) (u : Value), (rowVals cs)[j]? = some u → w.cell? ⟨C, j, none⟩ = some u ∧ u.oneCell' = true := by
  intro j u hu
  have hj := (List.getElem?_eq_some_iff.1 hu).1
  rw [rowVals_length] at hj
  have hp : cs[j / 2]? = some (cs[j / 2]'(by omega)) := List.getElem?_eq_getElem _
  obtain ⟨h1, h2⟩ := rowVals_get cs _ _ hp
  obtain ⟨k1, k2⟩ := h.cell _ _ hp
  have hl : ls[j / 2]? = some (ls[j / 2]'(by rw [← h.len]; omega)) := List.getElem?_eq_getElem _
  obtain ⟨L, mark, b, o, c, _, m2, m3, _⟩ := h.line _ _ _ hp hl
  by_cases he : j % 2 = 0
  · rw [show j / 2 * 2 = j by omega, hu] at h1
    rw [show 2 * (j / 2) = j by omega] at k1
    exact ⟨by rw [k1, ← h1], by rw [Option.some.inj h1, m3]; rfl⟩
  · rw [show j / 2 * 2 + 1 = j by omega, hu] at h2
    rw [show 2 * (j / 2) + 1 = j by omega] at k2
    exact ⟨by rw [k2, ← h2], by rw [Option.some.inj h2, m2]; rfl⟩
end
end Go.Proofs.Ytmamcliidlmghaa
