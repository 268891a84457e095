
/- The walk of HeadTorn: whatever is handed in, the call answers true, and what was there stays. -/
import Derived.Test.YtmelmiookkeoaaaDoorHdFitsL

namespace Go.Proofs.YtmelmiookkeoaaaDoor

open Go.RowKit

namespace V

/-- What Format leaves, and a crash of that, of a new device that goes down whenever. -/
theorem torn {n k : Nat} (hn : 19 ≤ n ∧ n ≤ 1024) (hk : k ≤ 100000) (ps : List Int) :
    ((newDv n).stop k).Good ∧ ((newDv n).stop k).steps = 0 ∧ (((newDv n).stop k).format.1).steps ≤ 1000000 ∧
    (((newDv n).stop k).format.1.crash ps).left ≠ 0 ∧ (((newDv n).stop k).format.1.crash ps).image.length = 64 * n ∧
    (∀ i, 64 ≤ i → i < 64 * n → (((newDv n).stop k).format.1.crash ps).image.getD i 0 = 0) ∧
    (((newDv n).stop k).format.2.1 = 0 → (((newDv n).stop k).format.1.crash ps).opens = (Sh.at n, 0)) ∧
    ((((newDv n).stop k).format.1.crash ps).opens = (Sh.at n, 0) ∨ (((newDv n).stop k).format.1.crash ps).opens = (Sh.zero, 5)) := by
  have hg := (newDv_good (n := n) (by omega) hn.2).stop (k : Int) (by omega)
  have hst : ((newDv n).stop k).steps = 0 := stop_steps _ _
  have hl : ((newDv n).stop k).lines.length = n := by rw [stop_len, newDv_len]
  have hh : Holds Q0 ((newDv n).stop k) := (newDv_holds n (fun a => .inr rfl)).stop _
  generalize (newDv n).stop k = d at *
  have hfg := format_good hg
  have hfl := format_len d
  have hfh := format_holds hg hh
  have hcl := crash_len d.format.1 ps
  have hch := hfh.crash hfg ps
  have hcg := hfg.crash ps
  refine ⟨hg, hst, by have := format_steps hg; omega, by show (-1 : Int) ≠ 0; decide, by rw [image_length hcg.lines]; omega, fun i h1 h2 => ?_, fun he => ?_, ?_⟩
  · rw [image_byte hcg i (by omega)]
    rcases hch.word (8 * (i / 8)) (by omega) (by omega) with h | h
    · omega
    · rw [h]; simp
  · obtain ⟨_, _, h3, h4, _⟩ := format_done hg he
    have hw := crash_head (d := d.format.1) (by omega) (by rw [hfl]; exact h3) h4 ps
    have := opens_yes (d := d.format.1.crash ps) (by omega) (by show (-1 : Int) ≠ 0; decide) (by rw [hcl]; exact hw)
    rw [this]; congr 2; omega
  · rcases opens_form (d.format.1.crash ps) with h | h
    · left; rw [h.1]; congr 2; omega
    · exact .inr h
end V

theorem bytes_in' {w : World} {PA : Option Addr} {pn pc : Nat} {pz : List Int} (hp : IsBytes w (.slice PA pn pc) pz) : pz ≠ [] → ∀ a, PA = some a → a.block < w.heap.size := by
  intro hz a ha
  obtain ⟨a', cap', e, h1, h2, h3, h4⟩ := hp
  simp only [Value.slice.injEq] at e
  obtain ⟨rfl, rfl, rfl⟩ := e
  rcases h3 with h3 | ⟨b, o, e, hc⟩
  · exact absurd h3 hz
  · rw [e] at ha
    obtain rfl := Option.some.inj ha
    have hl : 0 < pz.length := List.length_pos_iff.2 hz
    exact World.block_lt_of_cell? w _ (hc 0 hl)
set_option maxHeartbeats 2000000 in
set_option maxRecDepth 100000 in
theorem headTorn_walk (a0 a1 : Int) (PA : Option Addr) (pn pc : Nat) (pz : List Int) (w : World) (w0 : (Lit.int .u8 a0).wf = true) (w1 : (Lit.int .u16 a1).wf = true) (w2 : IsInts .u8 w (.slice PA pn pc) pz) (hT : TabT w) (hg : 0 < w.heap.size) :
    Calls Tryd.prog 7 #[.int .u8 a0, .int .u16 a1, .slice PA pn pc] w fun e w' => e = .returned (.bool true) ∧ Below w.heap.size w w' := by
  obtain ⟨a, rfl, ha⟩ := hd_u8 w0
  obtain ⟨b, rfl, hb⟩ := hd_u16 w1
  have HA := Lib.hid (alive5_any w hT hg)
  have hp2 := bytes_in' w2
  obtain ⟨_, hpc, hpm⟩ := IsInts.len' w2
  unfold maxLen at hpm
  have HP : Hid (IsBytes w (.slice PA pn pc) pz) := w2
  have HP2 := Lib.hid hp2
  clear w0 w1 w2 hp2
  by_cases h300 : 300 < pn
  · clear hT hg
    go_enter Tryd.func7, Tryd.ntmps7
    go_wp2_with fail
    refine HA.out.mono ?_
    rintro e w1 ⟨rfl, hb1⟩
    have HB1 := Lib.hid hb1
    clear hb1
    go_wp2
    go_ret
    exact ⟨rfl, HB1.out⟩
  · obtain ⟨n, hn⟩ : ∃ n : Nat, n = a % 60 + 19 := ⟨_, rfl⟩
    have hn2 : (a : Int) % 60 + 19 = (n : Int) := by omega
    have hn3 : 19 ≤ n ∧ n ≤ 100 := by omega
    obtain ⟨k, hk⟩ : ∃ k : Nat, k = b % 1200 := ⟨_, rfl⟩
    have hk2 : (b : Int) % 1200 = (k : Int) := by omega
    have hk3 : k ≤ 1200 := by omega
    obtain ⟨t1, t2, t3, t4, t5, t6, t7, t8⟩ := V.torn (n := n) (k := k) (by omega) (by omega) pz
    have T5 := Lib.hid t5
    have T6 := Lib.hid t6
    have HT := Lib.hid hT
    have HG := Lib.hid hg
    have HFMT : Hid (∀ w0 wr p, TabT w0 → 0 < w0.heap.size → DevIn w0 (.pointer p) ((V.newDv n).stop k) wr → Calls Tryd.prog 19 #[.pointer p] wr fun e w' => e = .returned (.tuple #[shV ((V.newDv n).stop k).format.2.2, .int .i64 ((V.newDv n).stop k).format.2.1]) ∧ DevIn w0 (.pointer p) ((V.newDv n).stop k).format.1 w') := fun w0 wr p hT hg h => in_format h (by rw [t2]; decide) hT hg
    have HCR : Hid (∀ w0 wr v, DevIn w0 v ((V.newDv n).stop k).format.1 wr → IsBytes w0 (.slice PA pn pc) pz → (pz ≠ [] → ∀ a, PA = some a → a.block < w0.heap.size) → Calls Tryd.prog 22 #[v, .slice PA pn pc] wr fun e w' => e = .returned (.tuple #[]) ∧ DevIn w0 v (((V.newDv n).stop k).format.1.crash pz) w') := fun w0 wr v h h1 h2 => in_crash h PA pn pc pz h1 h2 (by omega)
    have HOP : Hid (∀ w0 wr p, TabT w0 → 0 < w0.heap.size → DevIn w0 (.pointer p) (((V.newDv n).stop k).format.1.crash pz) wr → Calls Tryd.prog 23 #[.pointer p] wr fun e w' => e = .returned (.tuple #[shV (((V.newDv n).stop k).format.1.crash pz).opens.1, .int .i64 (((V.newDv n).stop k).format.1.crash pz).opens.2]) ∧ DevIn w0 (.pointer p) (((V.newDv n).stop k).format.1.crash pz) w' ∧ Below wr.heap.size wr w') := fun w0 wr p hT hg h => in_open h t4 hT hg
    have HOF := fun w => Lib.hid (of_yes w (n := n) (by omega))
    have hsl : V.slabs n ≤ 63 := V.slabs_most (by omega)
    have HSA : V.Sh.at n = ⟨(n : Int), (V.slabs n : Int), 128, (V.dataAt n : Int)⟩ := rfl
    clear hn hk t1 t2 t3 t4 t5 t6 hT hg
    generalize hd1 : (V.newDv n).stop (k : Int) = d1 at *
    have HD1 := Lib.hid hd1
    clear hd1
    generalize d1.format = F at *
    obtain ⟨dF, er, ⟨sa, sb, sc, sd⟩⟩ := F
    dsimp only at *
    generalize dF.crash pz = dc at *
    have h8 : er ≠ 0 ∨ dc.opens = (V.Sh.at n, 0) := by
      by_cases he : er = 0
      · exact .inr (t7 he)
      · exact .inl he
    clear t7
    have HIMG := fun wr w0 v (h : DevIn w0 v dc wr) => Lib.hid (in_image h)
    generalize dc.image = im at *
    generalize hop : dc.opens = op at *
    clear hop
    obtain ⟨⟨oa, ob, oc, od⟩, fe⟩ := op
    unfold shV at *
    dsimp only at *
    rw [HSA] at t8 h8
    simp only [Prod.mk.injEq, V.Sh.mk.injEq, V.Sh.zero] at t8 h8
    clear HSA
    generalize V.slabs n = sl at *
    generalize V.dataAt n = da at *
    have T8 := Lib.hid t8
    have H8 := Lib.hid h8
    clear t8 h8
    go_enter Tryd.func7, Tryd.ntmps7
    go_wp2_with fail
    refine HA.out.mono ?_
    rintro e w1 ⟨rfl, hb1⟩
    have HB1 := Lib.hid hb1
    clear hb1
    go_wp2_with fail
    refine (in_new n (by omega) (by omega) w w1 HB1.out).mono ?_
    rintro e w2 ⟨D, rfl, hd⟩
    have HD2 := Lib.hid hd
    clear hd
    go_wp2_with fail
    refine (in_stop HD2.out (k : Int) (by omega)).mono ?_
    rintro e w3 ⟨rfl, hd⟩
    rw [HD1.out] at hd
    have HD3 := Lib.hid hd
    clear hd
    go_wp2_with fail
    refine (HFMT.out w w3 _ HT.out HG.out HD3.out).mono ?_
    rintro e w4 ⟨rfl, hd⟩
    have HD4 : Hid (∀ o, DevIn w (.pointer (some ⟨D, 0, none⟩)) dF (w4.alloc o)) := fun o => hd.alloc o
    clear hd
    go_wp2_with fail
    refine (HCR.out w _ _ (HD4.out _) HP.out HP2.out).mono ?_
    rintro e w5 ⟨rfl, hd⟩
    have HD5 := Lib.hid hd
    clear hd
    go_wp2_with fail
    refine (HOP.out w w5 _ HT.out HG.out HD5.out).mono ?_
    rintro e w6 ⟨rfl, hd, _⟩
    have HI6 := Lib.hid (fun o => (HIMG _ w _ (hd.alloc o)).out)
    have HX6 : Hid (∀ o : Obj, (w6.alloc o).heap[w6.heap.size]? = some o) := fun o => heap_alloc_new w6 o
    clear hd
    go_wp2_with fail
    refine (HI6.out _).mono ?_
    rintro e w7 ⟨⟨ga, rfl, hga, hia, hba⟩, hd⟩
    rw [T5.out] at hia ⊢
    have HIA := Lib.hid hia
    have HB7 := Lib.hid hd.below
    have HX7 : Hid (w7.heap[w6.heap.size]? = some (.cells #[.int .i64 oa, .int .i64 ob, .int .i64 oc, .int .i64 od] 25 (0, 0))) := (hba.block _ (by simp)).trans (HX6.out _)
    clear hia hd hga hba
    have hn64 : ((64 * n : Nat) : Int) = 64 * (n : Int) := by omega
    go_wp2_with fail
    go_loopw [14] (fun x wr => ∃ i : Nat, 64 ≤ i ∧ i ≤ 64 * n ∧ x = .int .i64 i ∧ wr = w7) (fun x _ => 64 * n - (intOf x).toNat)
    case atStart => exact ⟨64, by omega, by omega, rfl, by first | rfl | trivial⟩
    case round =>
      obtain ⟨i, hi1, hi2, rfl, rfl⟩ := hrel
      by_cases hlt : i < 64 * n
      · have hc := HIA.out.cell i hlt
        rw [T6.out i hi1 hlt, Nat.zero_add] at hc
        go_wp2
        go_roundw
        case rel => exact ⟨i + 1, by omega, by omega, by go_num, by first | rfl | trivial⟩
        case measure => simp [intOf]; omega
      · obtain rfl : i = 64 * n := by omega
        go_wp2_with fail
        refine (HOF _).out.mono ?_
        rintro e w8 ⟨rfl, hb⟩
        have HB8 : Hid (∀ o, Below w.heap.size w (w8.alloc o)) := fun o => (HB7.out.trans (hb.mono HB7.out.size)).alloc (Nat.le_trans HB7.out.size hb.size) o
        have hk8 : ∀ o : Obj, (w8.alloc o).heap[w6.heap.size]? = some (.cells #[.int .i64 oa, .int .i64 ob, .int .i64 oc, .int .i64 od] 25 (0, 0)) := fun o => by
          have h := HX7.out
          have h2 := (hb.block _ (Array.getElem?_eq_some_iff.1 h).1).trans h
          exact (Below.heap_alloc _ _ _ (Array.getElem?_eq_some_iff.1 h2).1).trans h2
        have y0 := fun o => (four' (hk8 o)).1.1
        have y1 := fun o => (four' (hk8 o)).1.2.1
        have y2 := fun o => (four' (hk8 o)).1.2.2.1
        have y3 := fun o => (four' (hk8 o)).1.2.2.2
        clear hb hk8
        by_cases he : er = 0
        · subst he
          rcases H8.out with h8 | ⟨⟨rfl, rfl, rfl, rfl⟩, rfl⟩
          · exact absurd rfl h8
          · go_wp2
            go_ret
            exact ⟨rfl, HB8.out _⟩
        · have hbe : (er != 0) = true := by simp [he]
          rcases T8.out with ⟨⟨rfl, rfl, rfl, rfl⟩, rfl⟩ | ⟨⟨rfl, rfl, rfl, rfl⟩, rfl⟩
          · go_wp2
            go_ret
            exact ⟨rfl, HB8.out _⟩
          · go_wp2
            go_ret
            exact ⟨rfl, HB8.out _⟩
end Go.Proofs.YtmelmiookkeoaaaDoor
