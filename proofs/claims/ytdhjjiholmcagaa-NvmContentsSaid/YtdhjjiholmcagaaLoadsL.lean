/- The walk of NvmLoads: whatever is handed in, the call answers true, and what was there stays. -/
import Derived.Test.YtdhjjiholmcagaaNvP
import Derived.Deep.QuietTactic
import Derived.BigQuiet
namespace Go.Proofs.Ytdhjjiholmcagaa
open Go.RowKit

theorem bytes_cell {w : World} {b o : Nat} {len cap : Nat} {zs : List Int} (h : IsBytes w (.slice (some ⟨b, o, none⟩) len cap) zs) (i : Nat) (hi : i < len) :
    w.cell? ⟨b, o + i, none⟩ = some (.int .u8 (zs.getD i 0)) := by
  obtain ⟨a', cap', e, h1, h2, h3, h4⟩ := h
  simp only [Value.slice.injEq] at e
  obtain ⟨rfl, rfl, rfl⟩ := e
  rcases h3 with rfl | ⟨b', o', e, hc⟩
  · simp at hi
  · simp only [Option.some.injEq, Addr.mk.injEq, and_true] at e
    obtain ⟨rfl, rfl⟩ := e
    exact hc i hi
/-- What a device's image reads as, behind a call that changes a device of the call's own, where it lies ahead of its blocks or apart: below a bound. -/
theorem heavy_out (w : World) (A : Option Addr) (len cap : Nat) (l : List Act) (h : IsActs w A len cap l) (hh : heavyF l = false) : len ≤ 150 := by
  simp only [heavyF, Bool.or_eq_false_iff, decide_eq_false_iff_not] at hh
  have := h.1
  omega

set_option maxRecDepth 100000 in
theorem nvmLoads_walk (A : Option Addr) (len cap : Nat) (l : List Act) (off m : Int) (w : World) (h0 : IsActs w A len cap l) (h1 : (Lit.int .i64 off).wf = true) (h2 : (Lit.int .u64 m).wf = true) :
    Calls Try.prog 8 #[.slice A len cap, .int .i64 off, .int .u64 m] w fun e w' => e = .returned (.bool true) ∧ Below w.heap.size w w' := by
  have hoff := wf_i64 h1
  obtain ⟨n, rfl, hn⟩ := wf_u64 h2
  clear h1 h2
  cases hhv : heavyF l
  · have hl150 := heavy_out w A len cap l h0 hhv
    have hlen := h0.1
    have HH := Lib.hid (fun wr hb => heavy_any w wr A len cap l h0 hb)
    rw [hhv] at HH
    have HA := Lib.hid (fun (wr : World) (hb : Below w.heap.size w wr) (i : Nat) (hi : i < len) => h0.at hb hi)
    have HLN := Lib.hid hlen
    have hlc := h0.2.1
    have hcm := h0.2.2.1
    unfold maxLen at hcm
    have hup := V.up_all (V.up_new (n := 8) (by decide) (by decide)) l
    have hst := V.steps_all (V.newDv 8) l
    have HUP := Lib.hid (fun k => V.up_all (V.up_new (n := 8) (by decide) (by decide)) (l.take k))
    have HST : Hid (∀ k, (V.all (V.newDv 8) (l.take k)).steps ≤ 1000) := fun k => by
      have h1 := V.steps_all (V.newDv 8) (l.take k)
      have h2 : (l.take k).length ≤ l.length := by rw [List.length_take]; omega
      have h3 : (V.newDv 8).steps = 0 := rfl
      omega
    have HSC : Hid (∀ i a, l[i]? = some a → V.all (V.newDv 8) (l.take (i + 1)) = (V.all (V.newDv 8) (l.take i)).does a) := fun i a h => V.all_succ _ h
    have HTK : Hid (V.all (V.newDv 8) (l.take len) = V.all (V.newDv 8) l) := by show _ = _; rw [List.take_of_length_le (by omega)]
    clear h0 hlen hhv hup hst
    go_enter Try.func8, Try.ntmps8
    go_wp2_with fail
    refine (alive_any _).mono ?_
    rintro e w1 ⟨rfl, hb1⟩
    have HB1 := Lib.hid hb1
    clear hb1
    go_wp2_with fail
    refine (HH.out w1 HB1.out).mono ?_
    rintro e w2 ⟨rfl, hb2⟩
    have HB2 : Hid (Below w.heap.size w w2) := HB1.out.trans (hb2.mono HB1.out.size)
    clear hb2
    go_wp2_with fail
    refine (in_new 8 (by decide) (by decide) w w2 HB2.out).mono ?_
    rintro e w3 ⟨D, rfl, hd3⟩
    have HD3 := Lib.hid hd3
    clear hd3
    go_wp2_with fail
    go_loopw [9, 26] (fun _ x wr => ∃ j : Nat, j ≤ len ∧ x = .int .i64 j ∧ Hid (DevIn w (.pointer (some ⟨D, 0, none⟩)) (V.all (V.newDv 8) (l.take j)) wr)) (fun _ x _ => len - (intOf x).toNat)
    case atStart => exact ⟨0, by omega, rfl, HD3.out⟩
    case round =>
      obtain ⟨j, hj, rfl, hdj⟩ := hrel
      by_cases hlt : j < len
      · obtain ⟨a, b, o, e1, hga, rfl, hc0, hc1, hc2, hc3⟩ := HA.out _ hdj.out.below j hlt
        have E1 := Lib.hid (HSC.out j a e1)
        have HDO := Lib.hid (fun (W : World) (h : DevIn w (.pointer (some ⟨D, 0, none⟩)) (V.all (V.newDv 8) (l.take j)) W) => does_any w W _ _ a h hga.kind hga.off hga.n (Nat.le_trans (HST.out j) (by decide)))
        clear e1 hga
        obtain ⟨ak, ao, an, apa, apc, apk⟩ := a
        simp only [Act.agg, Act.pv] at hc0 hc1 hc2 hc3 HDO
        go_wp2_with fail
        refine (HDO.out _ (by exact hdj.out.alloc _)).mono ?_
        rintro e w4 ⟨rfl, hd4⟩
        have HD4 := Lib.hid hd4
        clear hd4
        go_wp2
        go_roundw
        case rel => exact ⟨j + 1, by omega, by go_num, by rw [E1.out]; exact HD4⟩
        case measure => simp [intOf]; omega
      · obtain rfl : j = len := by omega
        rw [HTK.out] at hdj
        have hup := HUP.out j
        have hst := HST.out j
        rw [HTK.out] at hup hst
        generalize V.all (V.newDv 8) l = d at *
        have HIM := Lib.hid (in_image hdj.out)
        have HSB := Lib.hid (fun i hi hne => V.store_bytes hup off n i hi hne)
        have HLD := Lib.hid (V.store_load hup off n hn)
        have HLN := Lib.hid (V.store_load_no hup off n)
        have HER := Lib.hid (V.err_up hup off 8)
        have HL1 : Hid (d.image.length = 512) := by show _ = _; rw [V.image_length hup.good.lines, hup.len]
        have HL2 : Hid ((d.store off n).image.length = 512) := by show _ = _; rw [V.image_length (hup.store off n).good.lines, (hup.store off n).len]
        have hs2 : d.steps ≤ 1000000000 := Nat.le_trans hst (by decide)
        clear hup hst HST HUP HTK HSC HA HH
        go_wp2_with fail
        refine HIM.out.mono ?_
        rintro e w4 ⟨⟨g1, rfl, hg1, hi1, hbi1⟩, hd4⟩
        rw [HL1.out] at hi1 ⊢
        have hg1l : g1 < w4.heap.size := World.block_lt_of_cell? w4 _ (bytes_cell hi1 0 (by decide))
        have HK4 := Lib.hid (hdj.out.devK.newer (K' := [g1]) hbi1 (fun k hk => .inr (by obtain rfl := List.mem_singleton.1 hk; exact ⟨hg1, hg1l⟩)))
        have HI4 := Lib.hid hi1
        clear hi1 hbi1 hd4 hdj hg1 hg1l
        go_wp2_with fail
        refine (HK4.out.run (fun F hF => dev_store hF off hoff n hn hs2)).mono ?_
        rintro e w5 ⟨rfl, hk5, hkb⟩
        have HI5 := Lib.hid (HI4.out.keep hkb (by simp))
        have HK5 := Lib.hid hk5
        clear hk5 hkb
        go_wp2_with fail
        refine (in_image HK5.out.devIn).mono ?_
        rintro e w6 ⟨⟨g2, rfl, hg2, hi2, hbi2⟩, hd6⟩
        rw [HL2.out] at hi2 ⊢
        have HI6 := Lib.hid (HI5.out.below (hbi2))
        have HJ6 := Lib.hid hi2
        have HD6 := Lib.hid hd6
        clear hi2 hbi2 hd6 hg2
        have HLO := Lib.hid (fun m => in_load (HD6.out.drewN m) off hoff)
        have hoff' : -9223372036854775808 ≤ off ∧ off ≤ 9223372036854775807 := hoff
        clear HK4 HK5 HI4 HI5 HIM hl150
        generalize (d.store off n).image = im2 at *
        generalize d.image = im1 at *
        go_wp2_with fail
        go_loopw [13, 54] (fun _ x wr => ∃ i : Nat, i ≤ 512 ∧ x = .int .i64 i ∧ ∃ m, wr = w6.drewN m) (fun _ x _ => 512 - (intOf x).toNat)
        case atStart => exact ⟨0, by omega, rfl, nodraw _⟩
        case round =>
          obtain ⟨i, hi, rfl, m, rfl⟩ := hrel
          by_cases hlt2 : i < 512
          · have c1 := bytes_cell HI6.out i hlt2
            have c2 := bytes_cell HJ6.out i hlt2
            rw [Nat.zero_add] at c1 c2
            have hsb := HSB.out i hlt2
            generalize im2.getD i 0 = z2 at *
            generalize im1.getD i 0 = z1 at *
            by_cases hz : z2 = z1
            · subst hz
              clear hsb
              have hzb : (z2 != z2) = false := by simp
              go_wp2_with fail
              go_quiet (fail)
              go_wp2
              go_roundw
              case rel => exact ⟨i + 1, by omega, by go_num, _, rfl⟩
              case measure => simp [intOf]; omega
            · obtain ⟨k1, k2, k3⟩ := hsb hz
              have hzb : (z2 != z1) = true := by simpa using hz
              have HE0 := Lib.hid k1
              rw [k1]
              clear hsb hz k1
              have k4 : off + 8 ≤ 600 := by omega
              have k5 : decide ((i : Int) < off) = false := by simpa using k2
              have k6 : decide (off + 8 ≤ (i : Int)) = false := by simpa using k3
              go_wp2_with fail
              go_quiet (fail)
              go_wp2
              go_roundw
              case rel => exact ⟨i + 1, by omega, by go_num, _, rfl⟩
              case measure => simp [intOf]; omega
          · obtain rfl : i = 512 := by omega
            have HLO := Lib.hid (HLO.out m)
            by_cases e0 : d.err off 8 = 0
            · obtain ⟨q1, q2⟩ := HLD.out e0
              rw [q1, q2] at HLO
              rw [e0]
              obtain ⟨_, p1, p2, p3⟩ := V.err_zero e0
              have p4 : (off % 8 == 0) = true := by simpa using p3
              have p5 : off ≤ 504 := by
                have h := HER.out
                rw [e0] at h
                by_cases hx : 0 ≤ off ∧ off < 64 * ((8 : Nat) : Int) ∧ off % 8 = 0
                · omega
                · rw [if_neg hx] at h; omega
              have P3 := Lib.hid p3
              clear e0 q1 q2 p2 p3
              go_wp2_with fail
              refine HLO.out.mono ?_
              rintro e w' ⟨rfl, m2, rfl⟩
              go_wp2
              go_ret
              exact ⟨ret_bool (by simp), below_drewN' HD6.out.below _⟩
            · obtain ⟨q1, q2, q3⟩ := HLN.out e0
              rw [q1, q2] at HLO
              rw [q3]
              have hx : ¬ (0 ≤ off ∧ off < 64 * ((8 : Nat) : Int) ∧ off % 8 = 0) := by
                intro hx
                have h := HER.out
                rw [if_pos hx] at h
                exact e0 h
              have hx2 : off < 0 ∨ (0 ≤ off ∧ off % 8 ≠ 0) ∨ (0 ≤ off ∧ off % 8 = 0 ∧ 504 < off) := by omega
              clear e0 q1 q2 q3 hx
              rcases hx2 with p1 | ⟨p1, p2⟩ | ⟨p1, p2, p3⟩
              · go_wp2_with fail
                refine HLO.out.mono ?_
                rintro e w' ⟨rfl, m2, rfl⟩
                go_wp2
                go_ret
                exact ⟨ret_bool (by simp), below_drewN' HD6.out.below _⟩
              · have p4 : (off % 8 == 0) = false := by simpa using p2
                clear p2
                go_wp2_with fail
                refine HLO.out.mono ?_
                rintro e w' ⟨rfl, m2, rfl⟩
                go_wp2
                go_ret
                exact ⟨ret_bool (by simp), below_drewN' HD6.out.below _⟩
              · have p4 : (off % 8 == 0) = true := by simpa using p2
                have P2 := Lib.hid p2
                clear p2
                go_wp2_with fail
                refine HLO.out.mono ?_
                rintro e w' ⟨rfl, m2, rfl⟩
                go_wp2
                go_ret
                exact ⟨ret_bool (by simp), below_drewN' HD6.out.below _⟩
  · have HH := Lib.hid (fun wr hb => heavy_any w wr A len cap l h0 hb)
    rw [hhv] at HH
    clear h0 hhv
    go_enter Try.func8, Try.ntmps8
    go_wp2_with fail
    refine (alive_any _).mono ?_
    rintro e w1 ⟨rfl, hb1⟩
    have HB1 := Lib.hid hb1
    clear hb1
    go_wp2_with fail
    refine (HH.out w1 HB1.out).mono ?_
    rintro e w2 ⟨rfl, hb2⟩
    have HB2 : Hid (Below w.heap.size w w2) := HB1.out.trans (hb2.mono HB1.out.size)
    clear hb2
    go_wp2
    go_ret
    exact ⟨rfl, HB2.out⟩
end Go.Proofs.Ytdhjjiholmcagaa
