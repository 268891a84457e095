
/- Layer 5: the contracts of linesOf and Format, for a device of the call's own. -/
import Derived.Test.YtmelmiookkeoaaaDoorHdD

namespace Go.Proofs.YtmelmiookkeoaaaDoor

open Go.RowKit

/-- What Format makes of a device, its error, its shape. -/
def V.Dv.format (d : V.Dv) : V.Dv × Int × V.Sh :=
  if 19 ≤ d.lines.length then
    if (d.clear 0 d.lines.length).2 = 0 then
      if ((d.clear 0 d.lines.length).1.putAll 0 (V.wrds d.lines.length)).2 = 0 then
        (((d.clear 0 d.lines.length).1.putAll 0 (V.wrds d.lines.length)).1, 0, V.Sh.at d.lines.length)
      else (((d.clear 0 d.lines.length).1.putAll 0 (V.wrds d.lines.length)).1, ((d.clear 0 d.lines.length).1.putAll 0 (V.wrds d.lines.length)).2, V.Sh.zero)
    else ((d.clear 0 d.lines.length).1, (d.clear 0 d.lines.length).2, V.Sh.zero)
  else (d, 2, V.Sh.zero)
theorem V.putAll_steps (d : V.Dv) (off : Int) (l : List Nat) : (d.putAll off l).1.steps ≤ d.steps + 2 * l.length + 1 := by
  unfold V.Dv.putAll
  split
  · have h1 := V.runL_steps (V.puts off l) d
    have h2 := V.puts_length off l
    omega
  · show d.steps ≤ _; omega
theorem V.clear_steps (d : V.Dv) (off : Int) (n : Nat) : (d.clear off n).1.steps ≤ d.steps + 16 * n + 1 := by
  unfold V.Dv.clear
  split
  · have := V.putAll_steps d off (List.replicate (8 * (n : Int).toNat) 0)
    rw [List.length_replicate] at this
    omega
  · show d.steps ≤ _; omega
theorem V.putAll_len (d : V.Dv) (off : Int) (l : List Nat) : (d.putAll off l).1.lines.length = d.lines.length := by
  unfold V.Dv.putAll
  split
  · exact V.runL_len _ _
  · rfl
theorem V.putAll_good {d : V.Dv} (h : d.Good) (off : Int) (l : List Nat) : (d.putAll off l).1.Good := by
  unfold V.Dv.putAll
  split
  · exact V.runL_good _ h
  · exact h
theorem V.clear_len (d : V.Dv) (off lines : Int) : (d.clear off lines).1.lines.length = d.lines.length := by
  unfold V.Dv.clear
  split
  · exact V.putAll_len _ _ _
  · rfl
theorem V.clear_good {d : V.Dv} (h : d.Good) (off lines : Int) : (d.clear off lines).1.Good := by
  unfold V.Dv.clear
  split
  · exact V.putAll_good h _ _
  · exact h
theorem V.format_len (d : V.Dv) : d.format.1.lines.length = d.lines.length := by
  unfold V.Dv.format
  split
  · split
    · split <;> exact (V.putAll_len _ _ _).trans (V.clear_len _ _ _)
    · exact V.clear_len _ _ _
  · rfl
theorem V.format_good {d : V.Dv} (h : d.Good) : d.format.1.Good := by
  unfold V.Dv.format
  split
  · split
    · split <;> exact V.putAll_good (V.clear_good h _ _) _ _
    · exact V.clear_good h _ _
  · exact h
theorem V.format_steps {d : V.Dv} (h : d.Good) : d.format.1.steps ≤ d.steps + 20000 := by
  have hm := h.most
  have h1 := V.clear_steps d 0 d.lines.length
  have h2 := V.putAll_steps (d.clear 0 d.lines.length).1 0 (V.wrds d.lines.length)
  rw [V.wrds_length] at h2
  unfold V.Dv.format
  split
  · split
    · split
      · show ((d.clear 0 d.lines.length).1.putAll 0 (V.wrds d.lines.length)).1.steps ≤ _; omega
      · show ((d.clear 0 d.lines.length).1.putAll 0 (V.wrds d.lines.length)).1.steps ≤ _; omega
    · show (d.clear 0 d.lines.length).1.steps ≤ _; omega
  · show d.steps ≤ _; omega

section

variable {w0 wr : World} {v : Value} {d : V.Dv} {p : Option Addr} {K : List Nat}

theorem in_lines (h : DevIn w0 v d wr) : Calls Tryd.prog 41 #[v] wr fun e w' => e = .returned (.int .i64 (d.lines.length : Int)) ∧ wr = w' := by
  have hm := h.good.most
  have HS := Lib.hid (in_size h)
  clear h
  obtain ⟨n, hn⟩ : ∃ n, n = d.lines.length := ⟨_, rfl⟩
  rw [← hn] at HS hm ⊢
  clear hn
  have hq : ((64 * n : Nat) : Int).tdiv 64 = (n : Int) := by rw [Int.tdiv_eq_ediv_of_nonneg (by omega)]; omega
  have hq2 : ((64 * n : Nat) : Int) / 64 = (n : Int) := by omega
  have hs : 64 * n ≤ 65536 := by omega
  generalize 64 * n = s at *
  go_enter Tryd.func41, Tryd.ntmps41
  go_wp2_with fail
  refine HS.out.mono ?_
  rintro e w' ⟨rfl, rfl⟩
  go_wp2
  go_ret
  exact ⟨rfl, rfl⟩
/-- Writing a block that the device's calls don't touch keeps it. -/
theorem DevK.only1 {w1 : World} {b : Nat} (h : DevK w0 v d K wr) (hb : b ∈ K) (ho : Only [b] wr w1) (hbel : Below w0.heap.size w0 w1) : DevIn w0 v d w1 := by
  obtain ⟨F, h1, h2, h3, h4⟩ := h
  exact ⟨F, h1.only ho (fun k hk => by rw [List.mem_singleton.1 hk]; exact (h4 b hb).1), h2, hbel⟩
theorem DevK.sets {b : Nat} (h : DevK w0 v d K wr) (hb : b ∈ K) (hge : w0.heap.size ≤ b) (v0 v1 v2 v3 : Value) :
    DevIn w0 v d ((((wr.setCell ⟨b, 0, none⟩ v0).setCell ⟨b, 1, none⟩ v1).setCell ⟨b, 2, none⟩ v2).setCell ⟨b, 3, none⟩ v3) := by
  have h1 : ∀ (W : World) i v, Only [b] W (W.setCell ⟨b, i, none⟩ v) := fun W i v => Only.setCell W ⟨b, i, none⟩ v
  exact h.only1 hb ((((h1 _ _ _).trans' (h1 _ _ _)).trans' (h1 _ _ _)).trans' (h1 _ _ _)) (((((h.devIn.below.setCell hge _).setCell hge _).setCell hge _).setCell hge _))
theorem DevK.lt (h : DevK w0 v d K wr) : ∀ k ∈ K, k < wr.heap.size := by
  obtain ⟨F, h1, h2, h3, h4⟩ := h
  exact fun k hk => (h4 k hk).2
theorem DevK.keep {w1 : World} (h : DevK w0 v d K wr) (hb : Below wr.heap.size wr w1) : KeepB K wr w1 := keepB_below hb h.lt
/-- The last writes, into a block of the call's own. -/
theorem DevK.fin {wa : World} {b : Nat} (h : DevK w0 v d (b :: K) wr) (hge : w0.heap.size ≤ b) (hbK : b ∉ K) (hk : KeepB K wa wr) (v0 v1 v2 v3 : Value) :
    DevK w0 v d K ((((wr.setCell ⟨b, 0, none⟩ v0).setCell ⟨b, 1, none⟩ v1).setCell ⟨b, 2, none⟩ v2).setCell ⟨b, 3, none⟩ v3) ∧ KeepB K wa ((((wr.setCell ⟨b, 0, none⟩ v0).setCell ⟨b, 1, none⟩ v1).setCell ⟨b, 2, none⟩ v2).setCell ⟨b, 3, none⟩ v3) := by
  have h1 : ∀ (W : World) i v, Only [b] W (W.setCell ⟨b, i, none⟩ v) := fun W i v => Only.setCell W ⟨b, i, none⟩ v
  have ho := (((h1 wr 0 v0).trans' (h1 _ 1 v1)).trans' (h1 _ 2 v2)).trans' (h1 _ 3 v3)
  have hbel := ((((h.devIn.below.setCell (p := ⟨b, 0, none⟩) hge v0).setCell (p := ⟨b, 1, none⟩) hge v1).setCell (p := ⟨b, 2, none⟩) hge v2).setCell (p := ⟨b, 3, none⟩) hge v3)
  have hlt := h.lt
  obtain ⟨F, g1, g2, g3, g4⟩ := h
  refine ⟨⟨F, g1.only ho (fun k hk => by rw [List.mem_singleton.1 hk]; exact (g4 b (by simp)).1), g2, hbel, fun k hk => ⟨(g4 k (List.mem_cons_of_mem _ hk)).1, Nat.lt_of_lt_of_le (hlt k (List.mem_cons_of_mem _ hk)) ho.size⟩⟩, fun k hk' => ?_⟩
  exact (ho.block k (hlt k (List.mem_cons_of_mem _ hk')) (fun e => hbK (by rw [List.mem_singleton] at e; exact e ▸ hk'))).trans (hk k hk')
theorem DevK.less {b c : Nat} (h : DevK w0 v d (b :: c :: K) wr) : DevK w0 v d (b :: K) wr := by
  obtain ⟨F, h1, h2, h3, h4⟩ := h
  exact ⟨F, h1, h2, h3, fun k hk => h4 k (by rcases List.mem_cons.1 hk with rfl | hk <;> simp [*])⟩
set_option maxRecDepth 100000 in
theorem k_format (h : DevK w0 (.pointer p) d K wr) (hs : d.steps ≤ 1000000) (hT : TabT w0) (hg : 0 < w0.heap.size) :
    Calls Tryd.prog 19 #[.pointer p] wr fun e w' => e = .returned (.tuple #[shV d.format.2.2, .int .i64 d.format.2.1]) ∧ DevK w0 (.pointer p) d.format.1 K w' ∧ KeepB K wr w' := by
  have hm := h.devIn.good.most
  have h1 := h.devIn.good.some
  have HSZ := Lib.hid h.devIn.below.size
  have HLT := Lib.hid h.lt
  have HBK : Hid (wr.heap.size ∉ K) := fun hk => Nat.lt_irrefl _ (h.lt _ hk)
  have HK : Hid (∀ o, DevK w0 (.pointer p) d (wr.heap.size :: K) (wr.alloc o)) := fun o => h.newer ((Below.refl _ _).alloc (Nat.le_refl _) o) (fun k hk => by
    rcases List.mem_cons.1 hk with rfl | hk
    · exact .inr ⟨Nat.le_refl _, by simp⟩
    · exact .inl hk)
  have HS : Hid (∀ o, Calls Tryd.prog 40 #[.pointer p] (wr.alloc o) fun e w' => e = .returned (.int .i64 (64 * d.lines.length : Nat)) ∧ wr.alloc o = w') := fun o => in_size (HK.out o).devIn
  have HLN : Hid (∀ o, Calls Tryd.prog 41 #[.pointer p] (wr.alloc o) fun e w' => e = .returned (.int .i64 (d.lines.length : Int)) ∧ wr.alloc o = w') := fun o => in_lines (HK.out o).devIn
  have hz : ((64 * d.lines.length : Nat) : Int) ≠ 0 := by omega
  have hz2 : (((64 * d.lines.length : Nat) : Int) == 0) = false := beq_eq_false_iff_ne.2 hz
  have HOF : Hid (∀ o, Calls Tryd.prog 12 #[.int .i64 (d.lines.length : Int)] (wr.alloc o) (ShPost (wr.alloc o) (V.Sh.of d.lines.length) (.bool (V.isSh d.lines.length)))) := fun o => hd_of _ _ ⟨by omega, by omega⟩
  clear hz
  by_cases hn : 19 ≤ d.lines.length
  · have hni : 19 ≤ d.lines.length ∧ d.lines.length ≤ 1024 := ⟨hn, hm⟩
    have hsm := V.slabs_most hm
    have hda : V.dataAt d.lines.length ≤ 10000 := by unfold V.dataAt; omega
    rw [V.isSh_nat hni, V.Sh.of_nat hni] at HOF
    have HOF2 : Hid (∀ o, Calls Tryd.prog 12 #[.int .i64 (d.lines.length : Int)] (wr.alloc o) fun e w' => e = .returned (.tuple #[.agg #[.int .i64 (d.lines.length : Int), .int .i64 (V.slabs d.lines.length : Int), .int .i64 128, .int .i64 (V.dataAt d.lines.length : Int)], .bool true]) ∧ Below (wr.alloc o).heap.size (wr.alloc o) w') := HOF.out
    have HSA : Hid (shV (V.Sh.at d.lines.length) = .agg #[.int .i64 (d.lines.length : Int), .int .i64 (V.slabs d.lines.length : Int), .int .i64 128, .int .i64 (V.dataAt d.lines.length : Int)]) := rfl
    have hc1 := V.clear_steps d 0 d.lines.length
    have HC1 : Hid ((d.clear 0 d.lines.length).1.steps ≤ 10000000) := by show _ ≤ _; omega
    have HK2 : Hid (∀ o w1, Below (wr.alloc o).heap.size (wr.alloc o) w1 → ∀ o2, DevK w0 (.pointer p) d (wr.heap.size :: w1.heap.size :: K) (w1.alloc o2) ∧ (w1.alloc o2).heap[wr.heap.size]? = some o ∧ (w1.alloc o2).heap[w1.heap.size]? = some o2 ∧ KeepB K wr (w1.alloc o2)) := by
      intro o w1 hb o2
      have hlt : wr.heap.size < (wr.alloc o).heap.size := by simp
      refine ⟨((HK.out o).newer hb (fun k hk => .inl hk)).newer ((Below.refl _ _).alloc (Nat.le_refl _) o2) (fun k hk => ?_), ?_, heap_alloc_new w1 o2, ?_⟩
      · rcases List.mem_cons.1 hk with rfl | hk
        · exact .inl (by simp)
        · rcases List.mem_cons.1 hk with rfl | hk
          · exact .inr ⟨Nat.le_refl _, by simp⟩
          · exact .inl (List.mem_cons_of_mem _ hk)
      · exact (Below.heap_alloc _ _ _ (Nat.lt_of_lt_of_le hlt hb.size)).trans ((hb.block _ hlt).trans (heap_alloc_new wr o))
      · exact keepB_below ((((Below.refl _ _).alloc (Nat.le_refl _) o).trans (hb.mono (by simp))).alloc (Nat.le_trans (by simp) hb.size) o2) HLT.out
    have HFM : Hid (d.format = if (d.clear 0 d.lines.length).2 = 0 then
      if ((d.clear 0 d.lines.length).1.putAll 0 (V.wrds d.lines.length)).2 = 0 then
        (((d.clear 0 d.lines.length).1.putAll 0 (V.wrds d.lines.length)).1, 0, V.Sh.at d.lines.length)
      else (((d.clear 0 d.lines.length).1.putAll 0 (V.wrds d.lines.length)).1, ((d.clear 0 d.lines.length).1.putAll 0 (V.wrds d.lines.length)).2, V.Sh.zero)
    else ((d.clear 0 d.lines.length).1, (d.clear 0 d.lines.length).2, V.Sh.zero)) := if_pos hn
    have HCL : Hid (∀ w2 F, Dev w2 (.pointer p) d F → Calls Tryd.prog 42 #[.pointer p, .int .i64 0, .int .i64 (d.lines.length : Int)] w2 fun e w' => e = .returned (.int .i64 (d.clear 0 d.lines.length).2) ∧ DevStep w2 (.pointer p) (d.clear 0 d.lines.length).1 F w') :=
      fun w2 F hF => su_clear hF 0 (d.lines.length : Int) ⟨by decide, by decide⟩ ⟨by omega, by omega⟩ (by omega)
    have HWL := Lib.hid (V.wrds_length d.lines.length)
    have HWD : Hid (∀ w2, Below w0.heap.size w0 w2 → Calls Tryd.prog 15 #[shV (V.Sh.at d.lines.length)] w2 (WordsPost w2 (V.wrds d.lines.length))) := by
      intro w2 hb
      have := hd_words w2 (V.Sh.at d.lines.length) ⟨by show (_ : Int) ≤ (d.lines.length : Int); omega, by show (d.lines.length : Int) ≤ _; omega⟩ (hT.below hb hg) (Nat.lt_of_lt_of_le hg hb.size)
      rwa [V.Sh.words_at hni] at this
    rw [HFM.out]
    rw [HSA.out] at HWD
    clear h HOF HK h1 hc1 HFM hni hn hT hm
    generalize 64 * d.lines.length = s64 at *
    generalize V.Sh.at d.lines.length = sh at *
    generalize V.slabs d.lines.length = sl at *
    generalize V.dataAt d.lines.length = da at *
    generalize V.wrds d.lines.length = w8 at *
    generalize hcl : d.clear 0 (d.lines.length : Int) = cl at *
    clear hcl
    obtain ⟨d1, e1⟩ := cl
    generalize d.lines.length = n at *
    dsimp only at *
    generalize hpa : d1.putAll 0 w8 = pa at *
    have HPE := Lib.hid hpa
    clear hpa
    obtain ⟨d2, e2⟩ := pa
    dsimp only at *
    go_enter Tryd.func19, Tryd.ntmps19
    go_wp2_with fail
    refine (HS.out _).mono ?_
    rintro e w' ⟨rfl, rfl⟩
    go_wp2_with fail
    refine (HLN.out _).mono ?_
    rintro e w' ⟨rfl, rfl⟩
    go_wp2_with fail
    refine (HOF2.out _).mono ?_
    rintro e w1 ⟨rfl, hb⟩
    obtain ⟨hdk, hrb, hrc, hkp⟩ := HK2.out _ _ hb (.cells #[.int .i64 (n : Int), .int .i64 (sl : Int), .int .i64 128, .int .i64 (da : Int)] 25 (0, 0))
    have HCL2 := Lib.hid (hdk.run (fun F hF => HCL.out _ F hF))
    have c0 := (four' hrc).1.1
    have HRB := Lib.hid hrb
    have HRC := Lib.hid hrc
    have HKP := Lib.hid hkp
    clear hdk hrb hrc hb hkp
    go_wp2_with fail
    refine HCL2.out.mono ?_
    rintro e w4 ⟨rfl, hdk4, hk4⟩
    have HDK4 := Lib.hid hdk4
    have HKP4 : Hid (KeepB K wr w4) := HKP.out.trans (fun k hk => hk4 k (by simp [hk]))
    have hrb4 := (hk4 _ (by simp)).trans HRB.out
    have hrc4 := (hk4 _ (by simp)).trans HRC.out
    clear hk4 c0
    by_cases he1 : e1 = 0
    · subst he1
      have HWD4 := Lib.hid (HWD.out w4 hdk4.devIn.below)
      have y0 := (four' hrc4).1.1
      have y1 := (four' hrc4).1.2.1
      have y2 := (four' hrc4).1.2.2.1
      have y3 := (four' hrc4).1.2.2.2
      have HRB4 := Lib.hid hrb4
      have HRC4 := Lib.hid hrc4
      clear hdk4 hrb4 hrc4
      go_wp2_with fail
      refine HWD4.out.mono ?_
      rintro e w5 ⟨v, rfl, hv, hb5⟩
      have hv' := hv
      obtain ⟨A, cap, rfl, _⟩ := hv'
      rw [List.length_map, HWL.out] at hv ⊢
      have hlt1 := HRB4.out
      have hlt2 := HRC4.out
      have hrb5 := (hb5.block _ (Array.getElem?_eq_some_iff.1 hlt1).1).trans hlt1
      have hrc5 := (hb5.block _ (Array.getElem?_eq_some_iff.1 hlt2).1).trans hlt2
      have HRB5 := Lib.hid hrb5
      have HRC5 := Lib.hid hrc5
      have HDK5 := Lib.hid (HDK4.out.newer hb5 (fun k hk => .inl hk))
      have HKP5 : Hid (KeepB K wr w5) := HKP4.out.trans (fun k hk => HDK4.out.keep hb5 k (by simp [hk]))
      have hpa := HDK5.out.run (fun F hF => su_putAll hF 0 ⟨by decide, by decide⟩ A 8 cap w8 hv HC1.out)
      rw [HPE.out] at hpa
      have HPA := Lib.hid hpa
      clear hpa hv hb5 hlt1 hlt2 hrb5 hrc5 y0 y1 y2 y3
      go_wp2_with fail
      refine HPA.out.mono ?_
      rintro e w6 ⟨rfl, hdk6, hk6⟩
      have HDK6 := Lib.hid (hdk6.less)
      have HKP6 : Hid (KeepB K wr w6) := HKP5.out.trans (fun k hk => hk6 k (by simp [hk]))
      have hrb6 := (hk6 _ (by simp)).trans HRB5.out
      have hrc6 := (hk6 _ (by simp)).trans HRC5.out
      have x0 := (four' hrc6).1.1
      have x1 := (four' hrc6).1.2.1
      have x2 := (four' hrc6).1.2.2.1
      have x3 := (four' hrc6).1.2.2.2
      obtain ⟨⟨z0, z1, z2, z3⟩, ⟨f0, f1, f2, f3⟩⟩ := four' hrb6
      clear hk6 hdk6 hrb6 hrc6
      by_cases he2 : e2 = 0
      · subst he2
        go_wp2
        exact bodyPost_ret (v := .tuple #[.agg #[.int .i64 (n : Int), .int .i64 (sl : Int), .int .i64 128, .int .i64 (da : Int)], .int .i64 0]) (by simp [results, Tryd.results19, go_sem, z0, z1, z2, z3]) rfl ⟨by simp [HSA.out], by simpa using HDK6.out.fin HSZ.out HBK.out HKP6.out _ _ _ _⟩
      · have hb2 : (e2 != 0) = true := by simp [he2]
        have HE2 := Lib.hid he2
        clear he2
        go_wp2
        exact bodyPost_ret (v := .tuple #[shV V.Sh.zero, .int .i64 e2]) (by simp [results, Tryd.results19, go_sem, shV, V.Sh.zero, z0, z1, z2, z3]) rfl ⟨by simp, by simpa using HDK6.out.fin HSZ.out HBK.out HKP6.out _ _ _ _⟩
    · have hb1 : (e1 != 0) = true := by simp [he1]
      have HE1 := Lib.hid he1
      obtain ⟨⟨z0, z1, z2, z3⟩, ⟨f0, f1, f2, f3⟩⟩ := four' hrb4
      clear he1 hdk4 hrb4 hrc4
      go_wp2
      exact bodyPost_ret (v := .tuple #[shV V.Sh.zero, .int .i64 e1]) (by simp [results, Tryd.results19, go_sem, shV, V.Sh.zero, z0, z1, z2, z3]) rfl ⟨by simp, by simpa using HDK4.out.less.fin HSZ.out HBK.out HKP4.out _ _ _ _⟩
  · have HF : Hid (d.format = (d, 2, V.Sh.zero)) := if_neg hn
    rw [HF.out]
    rw [V.isSh_no (by omega), V.Sh.of_no (by omega)] at HOF
    have HOF2 : Hid (∀ o, Calls Tryd.prog 12 #[.int .i64 (d.lines.length : Int)] (wr.alloc o) fun e w' => e = .returned (.tuple #[.agg #[.int .i64 0, .int .i64 0, .int .i64 0, .int .i64 0], .bool false]) ∧ Below (wr.alloc o).heap.size (wr.alloc o) w') := HOF.out
    have HK2 : Hid (∀ o w1, Below (wr.alloc o).heap.size (wr.alloc o) w1 → ∀ o2, DevK w0 (.pointer p) d (wr.heap.size :: K) (w1.alloc o2) ∧ (w1.alloc o2).heap[wr.heap.size]? = some o ∧ KeepB K wr (w1.alloc o2)) := by
      intro o w1 hb o2
      have hlt : wr.heap.size < (wr.alloc o).heap.size := by simp
      refine ⟨(HK.out o).newer (hb.trans (((Below.refl _ _).alloc (Nat.le_refl _) o2).mono hb.size)) (fun k hk => .inl hk), ?_, keepB_below ((((Below.refl _ _).alloc (Nat.le_refl _) o).trans (hb.mono (by simp))).alloc (Nat.le_trans (by simp) hb.size) o2) HLT.out⟩
      exact (Below.heap_alloc _ _ _ (Nat.lt_of_lt_of_le hlt hb.size)).trans ((hb.block _ hlt).trans (heap_alloc_new wr o))
    clear h HOF hn HK h1
    generalize 64 * d.lines.length = s64 at *
    generalize d.lines.length = n at *
    go_enter Tryd.func19, Tryd.ntmps19
    go_wp2_with fail
    refine (HS.out _).mono ?_
    rintro e w' ⟨rfl, rfl⟩
    go_wp2_with fail
    refine (HLN.out _).mono ?_
    rintro e w' ⟨rfl, rfl⟩
    go_wp2_with fail
    refine (HOF2.out _).mono ?_
    rintro e w1 ⟨rfl, hb⟩
    have HDK : Hid (∀ o2, DevK w0 (.pointer p) d (wr.heap.size :: K) (w1.alloc o2)) := fun o2 => (HK2.out _ _ hb o2).1
    have HKQ : Hid (∀ o2, KeepB K wr (w1.alloc o2)) := fun o2 => (HK2.out _ _ hb o2).2.2
    have hrow := fun o2 => four' (HK2.out _ _ hb o2).2.1
    have z0 := fun o2 => (hrow o2).1.1
    have z1 := fun o2 => (hrow o2).1.2.1
    have z2 := fun o2 => (hrow o2).1.2.2.1
    have z3 := fun o2 => (hrow o2).1.2.2.2
    have f0 := fun o2 => (hrow o2).2.1
    have f1 := fun o2 => (hrow o2).2.2.1
    have f2 := fun o2 => (hrow o2).2.2.2.1
    have f3 := fun o2 => (hrow o2).2.2.2.2
    clear hrow hb
    go_wp2
    exact bodyPost_ret (v := .tuple #[shV V.Sh.zero, .int .i64 2]) (by simp [results, Tryd.results19, go_sem, shV, V.Sh.zero, z0, z1, z2, z3]) rfl ⟨rfl, (HDK.out _).fin HSZ.out HBK.out (HKQ.out _) _ _ _ _⟩
theorem in_format (h : DevIn w0 (.pointer p) d wr) (hs : d.steps ≤ 1000000) (hT : TabT w0) (hg : 0 < w0.heap.size) :
    Calls Tryd.prog 19 #[.pointer p] wr fun e w' => e = .returned (.tuple #[shV d.format.2.2, .int .i64 d.format.2.1]) ∧ DevIn w0 (.pointer p) d.format.1 w' :=
  (k_format h.devK hs hT hg).mono fun _ _ ⟨a, b, _⟩ => ⟨a, b.devIn⟩
end

end Go.Proofs.YtmelmiookkeoaaaDoor
