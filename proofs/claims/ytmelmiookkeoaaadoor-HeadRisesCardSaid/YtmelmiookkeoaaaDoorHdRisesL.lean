
/- The walk of HeadRises: whatever is handed in, the call answers true, and what was there stays. -/
import Derived.Test.YtmelmiookkeoaaaDoorHdFitsL

namespace Go.Proofs.YtmelmiookkeoaaaDoor

open Go.RowKit

/-- Of, whatever is handed in, with what it hands back spelled: the number of slabs. -/
def ofS (x : Int) : Nat := if 19 ≤ x ∧ x ≤ 1024 then V.slabs x.toNat else 0
theorem of_any (w : World) {x : Int} (hx : I64 x) : ∃ a c d : Int, Calls Tryd.prog 12 #[.int .i64 x] w fun e w' => e = .returned (.tuple #[.agg #[.int .i64 a, .int .i64 (ofS x : Int), .int .i64 c, .int .i64 d], .bool (decide (19 ≤ x ∧ x ≤ 1024))]) ∧ Below w.heap.size w w' := by
  refine ⟨(V.Sh.of x).lines, (V.Sh.of x).table, (V.Sh.of x).data, ?_⟩
  have h1 := hd_of w x hx
  have e : (V.Sh.of x).slabs = (ofS x : Int) := by
    unfold V.Sh.of ofS
    split <;> rfl
  unfold ShPost shV at h1
  rw [e] at h1
  exact h1
set_option maxRecDepth 100000 in
theorem headRises_walk (a0 : Int) (w : World) (w0 : (Lit.int .u16 a0).wf = true) (hT : TabT w) (hg : 0 < w.heap.size) :
    Calls Tryd.prog 9 #[.int .u16 a0] w fun e w' => e = .returned (.bool true) ∧ Below w.heap.size w w' := by
  obtain ⟨a, rfl, ha⟩ := hd_u16 w0
  have HA := Lib.hid (alive5_any w hT hg)
  obtain ⟨n, hn⟩ : ∃ n : Nat, n = a % 1000 := ⟨_, rfl⟩
  have hn2 : (a : Int) % 1000 = (n : Int) := by omega
  have hn3 : n < 1000 := by omega
  clear w0 hT hg hn
  have O1 := fun w => of_any w (x := (n : Int)) ⟨by omega, by omega⟩
  have O2 := fun w => of_any w (x := (n : Int) + 1) ⟨by omega, by omega⟩
  have O3 := fun w => of_any w (x := (n : Int) + 17) ⟨by omega, by omega⟩
  obtain ⟨s1, hs1⟩ : ∃ s, s = ofS (n : Int) := ⟨_, rfl⟩
  obtain ⟨s2, hs2⟩ : ∃ s, s = ofS ((n : Int) + 1) := ⟨_, rfl⟩
  obtain ⟨s3, hs3⟩ : ∃ s, s = ofS ((n : Int) + 17) := ⟨_, rfl⟩
  have hbig : s1 ≤ 100 ∧ s2 ≤ 100 ∧ s1 ≤ s2 ∧ s2 ≤ s1 + 1 ∧ (19 ≤ n → n + 17 ≤ 1024 → s1 + 1 ≤ s3) := by
    rw [hs1, hs2, hs3]
    unfold ofS V.slabs
    refine ⟨?_, ?_, ?_, ?_, ?_⟩ <;> (try intro h1 h2) <;> (repeat' split) <;> omega
  rw [← hs1] at O1
  rw [← hs2] at O2
  rw [← hs3] at O3
  obtain ⟨b1, hb1⟩ : ∃ b, b = decide (19 ≤ (n : Int) ∧ (n : Int) ≤ 1024) := ⟨_, rfl⟩
  obtain ⟨b2, hb2⟩ : ∃ b, b = decide (19 ≤ (n : Int) + 1 ∧ (n : Int) + 1 ≤ 1024) := ⟨_, rfl⟩
  obtain ⟨b3, hb3⟩ : ∃ b, b = decide (19 ≤ (n : Int) + 17 ∧ (n : Int) + 17 ≤ 1024) := ⟨_, rfl⟩
  have hbb : b1 = true → b2 = true ∧ b3 = true ∧ s1 + 1 ≤ s3 := by
    intro h
    rw [hb1, decide_eq_true_eq] at h
    exact ⟨by rw [hb2]; exact decide_eq_true (by omega), by rw [hb3]; exact decide_eq_true (by omega), hbig.2.2.2.2 (by omega) (by omega)⟩
  rw [← hb1] at O1
  rw [← hb2] at O2
  rw [← hb3] at O3
  obtain ⟨q1, q2, q3, q4, _⟩ := hbig
  have H1 := Lib.hid O1; have H2 := Lib.hid O2; have H3 := Lib.hid O3
  clear hs1 hs2 hs3 O1 O2 O3 hb1 hb2 hb3
  have hk : ∀ (o : Obj) (w' : World), ∀ k c, w'.heap[k]? = some c → (w'.alloc o).heap[k]? = some c := fun o w' k c h => (Below.heap_alloc _ _ _ (Array.getElem?_eq_some_iff.1 h).1).trans h
  have HK := Lib.hid hk
  clear hk
  go_enter Tryd.func9, Tryd.ntmps9
  go_wp2_with fail
  refine HA.out.mono ?_
  rintro e w1 ⟨rfl, hb⟩
  have HB1 := Lib.hid hb
  obtain ⟨x1, x2, x3, hc1⟩ := H1.out w1
  have HC1 := Lib.hid hc1
  clear hb hc1
  go_wp2_with fail
  refine HC1.out.mono ?_
  rintro e w2 ⟨rfl, hb⟩
  have HB2 : Hid (∀ o, Below w.heap.size w (w2.alloc o)) := fun o => (HB1.out.trans (hb.mono HB1.out.size)).alloc (Nat.le_trans HB1.out.size hb.size) o
  have HR2 : Hid (∀ o, (w2.alloc o).heap[w2.heap.size]? = some o) := fun o => heap_alloc_new w2 o
  obtain ⟨y1, y2, y3, hc2⟩ := H2.out (w2.alloc (.cells #[.int .i64 x1, .int .i64 (s1 : Int), .int .i64 x2, .int .i64 x3] 25 (0, 0)))
  have HC2 := Lib.hid hc2
  clear hb hc2
  go_wp2_with fail
  refine HC2.out.mono ?_
  rintro e w3 ⟨rfl, hb⟩
  have HB3 : Hid (∀ o, Below w.heap.size w (w3.alloc o)) := fun o => ((HB2.out _).trans (hb.mono (HB2.out _).size)).alloc (Nat.le_trans (HB2.out _).size hb.size) o
  have HR23 : Hid (w3.heap[w2.heap.size]? = some (.cells #[.int .i64 x1, .int .i64 (s1 : Int), .int .i64 x2, .int .i64 x3] 25 (0, 0))) := (hb.block _ (by simp)).trans (HR2.out _)
  have HR33 : Hid (∀ o, (w3.alloc o).heap[w3.heap.size]? = some o) := fun o => heap_alloc_new w3 o
  clear hb
  have a0 := fun o => (four' (HK.out o _ _ _ HR23.out)).1.1
  have a1 := fun o => (four' (HK.out o _ _ _ HR23.out)).1.2.1
  obtain ⟨z1, z2, z3, hc3⟩ := H3.out (w3.alloc (.cells #[.int .i64 y1, .int .i64 (s2 : Int), .int .i64 y2, .int .i64 y3] 25 (0, 0)))
  have HC3 := Lib.hid hc3
  have HR24 : Hid ((w3.alloc (.cells #[.int .i64 y1, .int .i64 (s2 : Int), .int .i64 y2, .int .i64 y3] 25 (0, 0))).heap[w2.heap.size]? = some (.cells #[.int .i64 x1, .int .i64 (s1 : Int), .int .i64 x2, .int .i64 x3] 25 (0, 0))) := HK.out _ _ _ _ HR23.out
  have k1 := (four' (HR33.out (.cells #[.int .i64 y1, .int .i64 (s2 : Int), .int .i64 y2, .int .i64 y3] 25 (0, 0)))).1.2.1
  clear hc3
  cases b1 with
  | true =>
    obtain ⟨rfl, rfl, hs3⟩ := hbb rfl
    clear hbb
    go_wp2_with fail
    refine HC3.out.mono ?_
    rintro e w5 ⟨rfl, hb⟩
    have HB5 : Hid (∀ o, Below w.heap.size w (w5.alloc o)) := fun o => ((HB3.out _).trans (hb.mono (HB3.out _).size)).alloc (Nat.le_trans (HB3.out _).size hb.size) o
    have hr5 : w5.heap[w2.heap.size]? = some (.cells #[.int .i64 x1, .int .i64 (s1 : Int), .int .i64 x2, .int .i64 x3] 25 (0, 0)) := (hb.block _ (Array.getElem?_eq_some_iff.1 HR24.out).1).trans HR24.out
    have c1 := fun o => (four' (HK.out o _ _ _ hr5)).1.2.1
    clear hb hr5
    go_wp2
    go_ret
    exact ⟨ret_bool (a := decide ((s1 : Int) + 1 ≤ (s3 : Int))) (decide_eq_true (by omega)), HB5.out _⟩
  | false =>
    clear hbb
    go_wp2_with fail
    refine HC3.out.mono ?_
    rintro e w5 ⟨rfl, hb⟩
    have HB5 : Hid (∀ o, Below w.heap.size w (w5.alloc o)) := fun o => ((HB3.out _).trans (hb.mono (HB3.out _).size)).alloc (Nat.le_trans (HB3.out _).size hb.size) o
    clear hb
    cases b3 with
    | true =>
      go_wp2
      go_ret
      exact ⟨rfl, HB5.out _⟩
    | false =>
      go_wp2
      go_ret
      exact ⟨rfl, HB5.out _⟩
end Go.Proofs.YtmelmiookkeoaaaDoor
