
/- Layer 4: the contract of PutAll. -/
import Derived.Test.YtmelmiookkeoaaaDoorSuB

namespace Go.Proofs.YtmelmiookkeoaaaDoor

open Go.RowKit

/-- A slice of words. -/
def IsWords (w : World) (v : Value) (l : List Nat) : Prop := IsInts .u64 w v (l.map fun n : Nat => (n : Int))
theorem IsWords.below {w w' : World} {v : Value} {l : List Nat} (h : IsWords w v l) (hb : Below w.heap.size w w') : IsWords w' v l := IsInts.below h hb
theorem IsWords.len {w : World} {a : Option Addr} {n c : Nat} {l : List Nat} (h : IsWords w (.slice a n c) l) : l.length = n ∧ n ≤ c ∧ c ≤ maxLen := by
  have := IsInts.len' h
  rw [List.length_map] at this
  exact this
theorem IsWords.get {w : World} {a : Option Addr} {n c : Nat} {l : List Nat} (h : IsWords w (.slice a n c) l) (i : Nat) (hi : i < n) :
    ∃ b o x, a = some ⟨b, o, none⟩ ∧ l[i]? = some x ∧ x < 2 ^ 64 ∧ w.cell? ⟨b, o + i, none⟩ = some (.int .u64 (x : Int)) := by
  have hl := h.len.1
  obtain ⟨a', c', e, h1, h2, h3, h4⟩ := h
  simp only [Value.slice.injEq, List.length_map] at e
  obtain ⟨rfl, _, rfl⟩ := e
  rcases h3 with e | ⟨b, o, rfl, hc⟩
  · have e2 := congrArg List.length e
    simp only [List.length_map, List.length_nil] at e2
    omega
  · have hx : l[i]? = some (l[i]'(by omega)) := List.getElem?_eq_getElem (by omega)
    have hw := h4 (((l[i]'(by omega)) : Nat) : Int) (List.mem_map.2 ⟨_, List.getElem_mem _, rfl⟩)
    have hw2 : l[i]'(by omega) < 2 ^ 64 := by
      simp [Lit.wf, IntKind.min, IntKind.max, IntKind.signed, IntKind.bits] at hw
      omega
    refine ⟨b, o, l[i]'(by omega), rfl, hx, hw2, ?_⟩
    have := hc i (by rw [List.length_map]; omega)
    rw [this, List.getD_eq_getElem?_getD, List.getElem?_map, hx]
    rfl

theorem info_step : (Tryd.prog.info? 70).map (fun i => (i.zero, i.size, i.bytes)) = some (some .nilFunc, 1, 8) := by kernel_rfl
/-- A row of the call's own, of function values that are steps. -/
def Steps (w : World) (p : Option Addr) (F : List Nat) (B : Nat) (val : Value) (n : Nat) (l : List V.St) : Prop :=
  ∃ us, n = l.length ∧ w.ownsRow B 70 1 val n us ∧ ∀ (i : Nat) (s : V.St), l[i]? = some s → ∃ u, us[i]? = some u ∧ StepV w (.pointer p) F u s
theorem One.grown {w w' : World} {F : List Nat} {b B n : Nat} {t e : TypeId} {u val : Value} {us : List Value} (h : One w F b t u) (ht : t ≠ e) (ho : w.ownsRow B e 1 val n us) (hg : w.grownBy w' val.ownBlock) : One w' F b t u := by
  refine ⟨(hg.block b h.lt (fun hb => ?_)).trans h.1, h.2⟩
  rcases ho.2 with ⟨rfl, _⟩ | ⟨g, cap, cur, rfl, _, hh, _⟩
  · cases hb
  · simp only [Value.ownBlock, Option.some.injEq] at hb
    subst hb
    rw [h.1] at hh
    simp only [Option.some.injEq, Obj.cells.injEq] at hh
    exact ht hh.2.1
theorem StepV.grown {w w' : World} {v u val : Value} {F : List Nat} {s : V.St} {B n : Nat} {us : List Value} (h : StepV w v F u s) (ho : w.ownsRow B 70 1 val n us) (hg : w.grownBy w' val.ownBlock) : StepV w' v F u s := by
  cases s with
  | store off n =>
    obtain ⟨a, b, c, h1, h2, h3, h4⟩ := h
    exact ⟨a, b, c, h1, h2.grown (by decide) ho hg, h3.grown (by decide) ho hg, h4.grown (by decide) ho hg⟩
  | flush off =>
    obtain ⟨a, b, h1, h2, h3⟩ := h
    exact ⟨a, b, h1, h2.grown (by decide) ho hg, h3.grown (by decide) ho hg⟩
  | fence => exact h
theorem owns_below {w w' : World} {base e size n : Nat} {v : Value} {xs : List Value} (h : w.ownsRow base e size v n xs) (hb : Below w.heap.size w w') : w'.ownsRow base e size v n xs :=
  owns_only (F := []) h (Only.of_below hb) (fun _ _ hk => by cases hk)
theorem Steps.below {w w' : World} {p : Option Addr} {F : List Nat} {B n : Nat} {val : Value} {l : List V.St} (h : Steps w p F B val n l) (hb : Below w.heap.size w w') : Steps w' p F B val n l := by
  obtain ⟨us, h1, h2, h3⟩ := h
  refine ⟨us, h1, owns_below h2 hb, fun i s hi => ?_⟩
  obtain ⟨u, hu, hs⟩ := h3 i s hi
  exact ⟨u, hu, hs.below hb⟩
theorem Steps.form {w : World} {p : Option Addr} {F : List Nat} {B n : Nat} {val : Value} {l : List V.St} (h : Steps w p F B val n l) : ∃ a cap, val = .slice a n cap := by
  obtain ⟨us, h1, h2, h3⟩ := h
  obtain ⟨a, cap, e, _⟩ := owns_form h2
  exact ⟨a, cap, e⟩
/-- The rows of Steps, for the law on append: what it owns; what it is behind the append. -/
theorem Steps.push {w : World} {p : Option Addr} {F : List Nat} {B n : Nat} {val u : Value} {l : List V.St} {s : V.St} (h : Steps w p F B val n l) (hu : StepV w (.pointer p) F u s) :
    ∃ us, w.ownsRow B 70 1 val n us ∧ ∀ v' w', w'.ownsRow B 70 1 v' (n + 1) (us ++ [u]) → w.grownBy w' val.ownBlock → Steps w' p F B v' (n + 1) (l ++ [s]) := by
  obtain ⟨us, h1, h2, h3⟩ := h
  have hl : us.length = n := by have := h2.1; omega
  refine ⟨us, h2, fun v' w' ho hg => ⟨us ++ [u], by rw [List.length_append, h1]; rfl, ho, fun i t hi => ?_⟩⟩
  by_cases hlt : i < l.length
  · rw [List.getElem?_append_left hlt] at hi
    obtain ⟨x, hx, hs⟩ := h3 i t hi
    exact ⟨x, by rw [List.getElem?_append_left (by omega)]; exact hx, hs.grown h2 hg⟩
  · have hi2 : i = l.length := by
      have := (List.getElem?_eq_some_iff.1 hi).1
      rw [List.length_append] at this
      simp at this; omega
    subst hi2
    rw [List.getElem?_append_right (Nat.le_refl _), Nat.sub_self] at hi
    obtain rfl : s = t := by simpa using hi
    exact ⟨u, by rw [List.getElem?_append_right (by omega), show l.length - us.length = 0 by omega]; rfl, hu.grown h2 hg⟩
theorem Steps.nil (w : World) (p : Option Addr) (F : List Nat) (B : Nat) : Steps w p F B (.slice none 0 0) 0 [] := ⟨[], rfl, owns_nil, fun i s h => by simp at h⟩
/-- As inOrder wants it. -/
theorem Steps.cells {w : World} {p : Option Addr} {F : List Nat} {B n g cap : Nat} {l : List V.St} (h : Steps w p F B (.slice (some ⟨g, 0, none⟩) n cap) n l) (hF : ∀ k ∈ F, k < B) :
    n = l.length ∧ g ∉ F ∧ ∀ (i : Nat) (s : V.St), l[i]? = some s → ∃ u, w.cell? ⟨g, i, none⟩ = some u ∧ StepV w (.pointer p) F u s := by
  obtain ⟨us, h1, h2, h3⟩ := h
  refine ⟨h1, fun hg => ?_, fun i s hi => ?_⟩
  · have := owns_block h2 g rfl
    have := hF g hg
    omega
  · obtain ⟨u, hu, hs⟩ := h3 i s hi
    have hlt := (List.getElem?_eq_some_iff.1 hi).1
    exact ⟨u, by rw [h2.cellAt i (by omega)]; exact hu, hs⟩

section

variable {w : World} {d : V.Dv} {F : List Nat}

set_option maxHeartbeats 2000000 in
set_option maxRecDepth 100000 in
theorem su_putAll {p : Option Addr} (h : Dev w (.pointer p) d F) (off : Int) (hoff : I64 off) (A : Option Addr) (len cap : Nat) (l : List Nat) (hl : IsWords w (.slice A len cap) l) (hs : d.steps ≤ 10000000) :
    Calls Tryd.prog 43 #[.pointer p, .int .i64 off, .slice A len cap] w fun e w' => e = .returned (.int .i64 (d.putAll off l).2) ∧ DevStep w (.pointer p) (d.putAll off l).1 F w' := by
  obtain ⟨hlen, hlc, hlm⟩ := hl.len
  unfold maxLen at hlm
  have hm := h.good.most
  have HP := Lib.hid (su_place h off (len : Int) hoff ⟨by omega, by omega⟩)
  have hru : d.room off (len : Int) = if 0 ≤ off ∧ off % 8 = 0 ∧ 0 ≤ (len : Int) ∧ off + 8 * (len : Int) ≤ 64 * (d.lines.length : Int) then 0 else 4 := rfl
  by_cases hr : d.room off (len : Int) = 0
  · have HV : Hid (d.putAll off l = V.runL d (V.puts off l)) := by show _ = _; unfold V.Dv.putAll; rw [hlen, if_pos hr]
    have hin : 0 ≤ off ∧ off % 8 = 0 ∧ off + 8 * (len : Int) ≤ 65536 := by
      by_cases hc : 0 ≤ off ∧ off % 8 = 0 ∧ 0 ≤ (len : Int) ∧ off + 8 * (len : Int) ≤ 64 * (d.lines.length : Int)
      · omega
      · rw [if_neg hc] at hru; omega
    obtain ⟨hin0, hin8, hin9⟩ := hin
    rw [hr] at HP
    have HD := Lib.hid h
    have HF := Lib.hid h.lt
    have HW := Lib.hid hl
    have HLEN := Lib.hid hlen
    have HIN8 := Lib.hid hin8
    have HOK : Hid (∀ s ∈ V.puts off l, s.ok) := V.puts_ok (by omega) (by omega) (by rw [hlen]; omega) (fun n hn => by
      obtain ⟨i, hi, rfl⟩ := List.mem_iff_getElem.1 hn
      obtain ⟨_, _, x, _, h1, h2, _⟩ := hl.get i (by omega)
      rw [List.getElem?_eq_getElem hi] at h1
      obtain rfl := Option.some.inj h1
      exact h2)
    obtain ⟨i0, hi, hz0, hz1, hz2⟩ := info_parts info_step
    clear hru hr h hl hlen hoff hin8
    go_enter Tryd.func43, Tryd.ntmps43
    go_wp2_with fail
    refine HP.out.mono ?_
    rintro e w' ⟨rfl, rfl⟩
    go_wp2_with fail
    have HB0 := Lib.hid (Below.refl w.heap.size w)
    have HS0 := Lib.hid (Steps.nil w p F w.heap.size)
    go_loopw [8, 9, 10, 23] (fun st _ _ x wr => ∃ j : Nat, j ≤ len ∧ x = .int .i64 j ∧ Hid (Below w.heap.size w wr) ∧ Hid (Steps wr p F w.heap.size st j (V.sts off 0 (l.take j)))) (fun _ _ _ x _ => len - (intOf x).toNat)
    case atStart => exact ⟨0, by omega, rfl, HB0, HS0⟩
    case round =>
      obtain ⟨j, hj, rfl, hbw, hst⟩ := hrel
      by_cases hlt : j < len
      · obtain ⟨b, o, x, rfl, hx, hx64, hcell⟩ := (HW.out.below hbw.out).get j hlt
        obtain ⟨q, hq⟩ : ∃ q : Int, q = off + (j : Int) * 8 := ⟨_, rfl⟩
        have hq2 : off + (j : Int) * 8 = q := hq.symm
        have hq3 : 0 ≤ q ∧ q ≤ 65536 := by omega
        have hq4 : off + 8 * (j : Int) = q := by omega
        have HT := Lib.hid (V.sts_take off l j x hx)
        rw [hq4] at HT
        obtain ⟨av, cv, rfl⟩ := hst.out.form
        have HSU := Lib.hid (su_store (w := wr) p F q x (fun k hk => Nat.lt_of_lt_of_le (HF.out k hk) hbw.out.size))
        clear hq hq4 hx
        go_wp2_with fail
        refine HSU.out.mono ?_
        rintro e w1 ⟨f1, c1, rfl, hu1, hu2⟩
        obtain ⟨us, hus, hpush⟩ := ((hst.out.below hu2).below (w' := w1.alloc (.cells #[.func f1 #[] c1] 70)) ((Below.refl _ _).alloc (Nat.le_refl _) _)).push (hu1.below (w' := w1.alloc (.cells #[.func f1 #[] c1] 70)) ((Below.refl _ _).alloc (Nat.le_refl _) _))
        have HUS := Lib.hid hus
        have HPU := Lib.hid hpush
        have hb1 : Below w.heap.size w (w1.alloc (.cells #[.func f1 #[] c1] 70)) := (hbw.out.trans (hu2.mono hbw.out.size)).alloc (Nat.le_trans hbw.out.size hu2.size) _
        have HB1 := Lib.hid hb1
        clear hus hpush hb1 hu1 hu2 hst
        go_wp2_with (at_builtin; refine wpList_append_own_at _ rfl (.tmp 28) (.tmp 36) 86 rfl w.heap.size 70 i0 _ 1 8 Tryd.underlying86 hi hz0 hz1 hz2 rfl (by decide) _ _ _ rfl HUS.out ⟨w1.heap.size, 0, none⟩ 1 1 [.func f1 #[] c1] rfl rfl (cell_one_new _ _ _) (fun x hx => by obtain rfl := List.mem_singleton.1 hx; rfl) (by unfold maxLen; omega) (by omega) HB1.out.size ?_)
        intro v' w2 hown' hgrow hnil hat
        have HN := Lib.hid (HPU.out v' w2 hown' hgrow)
        have HB2 : Hid (Below w.heap.size w w2) := HB1.out.grown hgrow HB1.out.size (fun k hk => owns_block HUS.out k hk)
        clear hown' hgrow hnil hat
        go_wp2
        go_roundw
        case rel => exact ⟨j + 1, by omega, by go_num, HB2, by rw [HT.out]; exact HN⟩
        case measure => simp [intOf]; omega
      · obtain rfl : j = len := by omega
        obtain ⟨av, cv, rfl⟩ := hst.out.form
        have hst0 : Hid (Steps wr p F w.heap.size (.slice av j cv) j (V.sts off 0 l ++ V.fls off 0 0)) := by
          have := hst.out
          rw [List.take_of_length_le (by have := HLEN.out; omega)] at this
          rw [V.fls, List.append_nil]
          exact this
        clear hst hj hlt
        have hjb : j ≤ 8192 := by omega
        go_wp2_with fail
        go_loopw [8, 11, 12, 41] (fun st _ _ x wr => ∃ i n : Nat, i ≤ j ∧ n ≤ j + i ∧ x = .int .i64 i ∧ Hid (Below w.heap.size w wr) ∧ Hid (Steps wr p F w.heap.size st n (V.sts off 0 l ++ V.fls off 0 i))) (fun _ _ _ x _ => j - (intOf x).toNat)
        case atStart => exact ⟨0, j, by omega, by omega, rfl, hbw, hst0⟩
        case round =>
          obtain ⟨i, n, hi9, hn9, rfl, hbw, hst⟩ := hrel
          by_cases hlt : i < j
          · obtain ⟨q, hq⟩ : ∃ q : Int, q = off + (i : Int) * 8 := ⟨_, rfl⟩
            have hq2 : off + (i : Int) * 8 = q := hq.symm
            have hq3 : 0 ≤ q ∧ q ≤ 65536 := by omega
            have hq4 : off + 8 * (i : Int) = q := by omega
            have HT := Lib.hid (V.fls_snoc off 0 i)
            rw [Nat.zero_add, hq4] at HT
            obtain ⟨av2, cv2, rfl⟩ := hst.out.form
            have HSU := Lib.hid (fun W (hW : Below w.heap.size w W) => su_flush (w := W) p F q (fun k hk => Nat.lt_of_lt_of_le (HF.out k hk) hW.size))
            have HQ := Lib.hid hq
            clear hq hq4
            by_cases hc : i = 0 ∨ q % 64 = 0
            · have HT2 : Hid (V.fls off 0 (i + 1) = V.fls off 0 i ++ [.flush q]) := by show _ = _; rw [HT.out, if_pos hc]
              rcases Classical.em (i = 0) with h0 | h0
              · have hb0 : ((i : Int) == 0) = true := by simpa using h0
                have HC := Lib.hid hc
                have H0 := Lib.hid h0
                clear hc h0
                go_wp2_with fail
                refine (HSU.out wr hbw.out).mono ?_
                rintro e w1 ⟨f1, c1, rfl, hu1, hu2⟩
                obtain ⟨us, hus, hpush⟩ := ((hst.out.below hu2).below (w' := w1.alloc (.cells #[.func f1 #[] c1] 70)) ((Below.refl _ _).alloc (Nat.le_refl _) _)).push (hu1.below (w' := w1.alloc (.cells #[.func f1 #[] c1] 70)) ((Below.refl _ _).alloc (Nat.le_refl _) _))
                have HUS := Lib.hid hus
                have HPU := Lib.hid hpush
                have hb1 : Below w.heap.size w (w1.alloc (.cells #[.func f1 #[] c1] 70)) := (hbw.out.trans (hu2.mono hbw.out.size)).alloc (Nat.le_trans hbw.out.size hu2.size) _
                have HB1 := Lib.hid hb1
                clear hus hpush hb1 hu1 hu2 hst
                go_wp2_with (at_builtin; refine wpList_append_own_at _ rfl (.tmp 55) (.tmp 59) 86 rfl w.heap.size 70 i0 _ 1 8 Tryd.underlying86 hi hz0 hz1 hz2 rfl (by decide) _ _ _ rfl HUS.out ⟨w1.heap.size, 0, none⟩ 1 1 [.func f1 #[] c1] rfl rfl (cell_one_new _ _ _) (fun x hx => by obtain rfl := List.mem_singleton.1 hx; rfl) (by unfold maxLen; omega) (by omega) HB1.out.size ?_)
                intro v' w2 hown' hgrow hnil hat
                have HN := Lib.hid (HPU.out v' w2 hown' hgrow)
                have HB2 : Hid (Below w.heap.size w w2) := HB1.out.grown hgrow HB1.out.size (fun k hk => owns_block HUS.out k hk)
                clear hown' hgrow hnil hat
                go_wp2
                go_roundw
                case rel => exact ⟨i + 1, n + 1, by omega, by omega, by go_num, HB2, by rw [HT2.out, ← List.append_assoc]; exact HN⟩
                case measure => simp [intOf]; omega
              · have hb0 : ((i : Int) == 0) = false := by simpa using h0
                have hq8 : (q % 64 == 0) = true := by simpa using hc.resolve_left h0
                have HC := Lib.hid hc
                clear hc
                go_wp2_with fail
                refine (HSU.out wr hbw.out).mono ?_
                rintro e w1 ⟨f1, c1, rfl, hu1, hu2⟩
                obtain ⟨us, hus, hpush⟩ := ((hst.out.below hu2).below (w' := w1.alloc (.cells #[.func f1 #[] c1] 70)) ((Below.refl _ _).alloc (Nat.le_refl _) _)).push (hu1.below (w' := w1.alloc (.cells #[.func f1 #[] c1] 70)) ((Below.refl _ _).alloc (Nat.le_refl _) _))
                have HUS := Lib.hid hus
                have HPU := Lib.hid hpush
                have hb1 : Below w.heap.size w (w1.alloc (.cells #[.func f1 #[] c1] 70)) := (hbw.out.trans (hu2.mono hbw.out.size)).alloc (Nat.le_trans hbw.out.size hu2.size) _
                have HB1 := Lib.hid hb1
                clear hus hpush hb1 hu1 hu2 hst
                go_wp2_with (at_builtin; refine wpList_append_own_at _ rfl (.tmp 55) (.tmp 59) 86 rfl w.heap.size 70 i0 _ 1 8 Tryd.underlying86 hi hz0 hz1 hz2 rfl (by decide) _ _ _ rfl HUS.out ⟨w1.heap.size, 0, none⟩ 1 1 [.func f1 #[] c1] rfl rfl (cell_one_new _ _ _) (fun x hx => by obtain rfl := List.mem_singleton.1 hx; rfl) (by unfold maxLen; omega) (by omega) HB1.out.size ?_)
                intro v' w2 hown' hgrow hnil hat
                have HN := Lib.hid (HPU.out v' w2 hown' hgrow)
                have HB2 : Hid (Below w.heap.size w w2) := HB1.out.grown hgrow HB1.out.size (fun k hk => owns_block HUS.out k hk)
                clear hown' hgrow hnil hat
                go_wp2
                go_roundw
                case rel => exact ⟨i + 1, n + 1, by omega, by omega, by go_num, HB2, by rw [HT2.out, ← List.append_assoc]; exact HN⟩
                case measure => simp [intOf]; omega
            · have HT2 : Hid (V.fls off 0 (i + 1) = V.fls off 0 i) := by show _ = _; rw [HT.out, if_neg hc, List.append_nil]
              have h0 : ¬ i = 0 := fun h => hc (.inl h)
              have hb0 : ((i : Int) == 0) = false := by simpa using h0
              have hq8 : (q % 64 == 0) = false := by simpa using (fun h => hc (.inr h))
              clear hc
              go_wp2
              go_roundw
              case rel => exact ⟨i + 1, n, by omega, by omega, by go_num, hbw, by rw [HT2.out]; exact hst⟩
              case measure => simp [intOf]; omega
          · obtain rfl : i = j := by omega
            obtain ⟨av2, cv2, rfl⟩ := hst.out.form
            obtain ⟨us, hus, hpush⟩ := (hst.out.below (w' := wr.alloc (.cells #[.func (.func 58) #[.pointer p] #[]] 70)) ((Below.refl _ _).alloc (Nat.le_refl _) _)).push (u := .func (.func 58) #[.pointer p] #[]) (s := .fence) rfl
            have HUS := Lib.hid hus
            have HPU := Lib.hid hpush
            have hb1 : Below w.heap.size w (wr.alloc (.cells #[.func (.func 58) #[.pointer p] #[]] 70)) := hbw.out.alloc hbw.out.size _
            have HB1 := Lib.hid hb1
            clear hus hpush hb1 hst
            go_wp2_with (at_builtin; refine wpList_append_own_at _ rfl (.tmp 62) (.tmp 65) 86 rfl w.heap.size 70 i0 _ 1 8 Tryd.underlying86 hi hz0 hz1 hz2 rfl (by decide) _ _ _ rfl HUS.out ⟨wr.heap.size, 0, none⟩ 1 1 [.func (.func 58) #[.pointer p] #[]] rfl rfl (cell_one_new _ _ _) (fun x hx => by obtain rfl := List.mem_singleton.1 hx; rfl) (by unfold maxLen; omega) (by omega) HB1.out.size ?_)
            intro v' w2 hown' hgrow hnil hat
            have HN := Lib.hid (HPU.out v' w2 hown' hgrow)
            have HB2 : Hid (Below w.heap.size w w2) := HB1.out.grown hgrow HB1.out.size (fun k hk => owns_block HUS.out k hk)
            obtain ⟨g, c', rfl, _⟩ := own_some hown' hnil
            have hpu : V.sts off 0 l ++ V.fls off 0 i ++ [V.St.fence] = V.puts off l := by unfold V.puts; rw [HLEN.out]
            rw [hpu] at HN
            obtain ⟨hc1, hc2, hc3⟩ := HN.out.cells HF.out
            have hdev : Dev w2 (.pointer p) d F := HD.out.only (Only.of_below (F := []) HB2.out) (fun k hk => by cases hk)
            have HIO := Lib.hid (su_inOrder (V.puts off l) (HOK.out) hdev g c' hc2 hc3 (by rw [← hc1]; omega) (by omega))
            rw [show (V.puts off l).length = n + 1 from hc1.symm] at HIO
            clear hown' hgrow hnil hat hc1 hc2 hc3 hdev hpu
            go_wp2_with fail
            refine HIO.out.mono ?_
            rintro e w3 ⟨rfl, h3⟩
            have H3 : Hid (DevStep w (.pointer p) (V.runL d (V.puts off l)).1 F w3) := DevStep.newer HB2.out h3
            clear h3
            go_wp2
            go_ret
            rw [HV.out]
            exact ⟨rfl, H3.out⟩
  · have HV : Hid (d.putAll off l = (d, 4)) := by show _ = _; unfold V.Dv.putAll; rw [hlen, if_neg hr]
    have hr4 : d.room off (len : Int) = 4 := by
      rw [hru] at hr ⊢
      by_cases hc : 0 ≤ off ∧ off % 8 = 0 ∧ 0 ≤ (len : Int) ∧ off + 8 * (len : Int) ≤ 64 * (d.lines.length : Int)
      · rw [if_pos hc] at hr; exact absurd rfl hr
      · rw [if_neg hc]
    rw [hr4] at HP
    have HD := Lib.hid h
    clear h hl hr hru hr4 hlen
    go_enter Tryd.func43, Tryd.ntmps43
    go_wp2_with fail
    refine HP.out.mono ?_
    rintro e w' ⟨rfl, rfl⟩
    go_wp2
    go_ret
    rw [HV.out]
    exact ⟨rfl, DevStep.same HD.out 0⟩
end

end Go.Proofs.YtmelmiookkeoaaaDoor
