
/- Contract of a device's Image: all bytes, in new memory. -/
import Derived.Test.YtmelmiookkeoaaaDoorNvDd

import Derived.Deep.RegionLaw

namespace Go.Proofs.YtmelmiookkeoaaaDoor

open Go.RowKit

/-- A block that is known whole reads as its numbers. -/
theorem isBytes_block' {w : World} {g : Nat} {zs : List Int} {t : TypeId} {fr : Nat × Nat} (h : w.heap[g]? = some (.cells (zs.map (Value.int .u8)).toArray t fr)) (hz : ∀ z ∈ zs, 0 ≤ z ∧ z ≤ 255) (hm : zs.length ≤ maxLen) :
    IsBytes w (.slice (some ⟨g, 0, none⟩) zs.length zs.length) zs := by
  refine ⟨_, _, rfl, Nat.le_refl _, hm, .inr ⟨g, 0, rfl, fun i hi => ?_⟩, fun z h => wf_byte (hz z h)⟩
  simp [World.cell?, h, hi]
/-- What a call leaves that hands back bytes in new memory. -/
def NewBytes (w : World) (zs : List Int) (e : Ending) (w' : World) : Prop :=
  ∃ g, e = .returned (.slice (some ⟨g, 0, none⟩) zs.length zs.length) ∧ w.heap.size ≤ g ∧ IsBytes w' (.slice (some ⟨g, 0, none⟩) zs.length zs.length) zs ∧ Below w.heap.size w w'

/-- The first lines' bytes, and zeros. -/
def imgUpto (ls : List V.Ln) (j : Nat) : List Int := (ls.take j).flatMap (·.now) ++ List.replicate (64 * (ls.length - j)) 0
theorem take_flat_length {ls : List V.Ln} (h : ∀ l ∈ ls, l.Good) (j : Nat) (hj : j ≤ ls.length) : ((ls.take j).flatMap (·.now)).length = 64 * j := by
  have h1 := V.image_length (d := { lines := ls.take j, left := 0, steps := 0 }) (fun l hl => h l (List.mem_of_mem_take hl))
  simp only [V.Dv.image, List.length_take] at h1
  rw [h1]; omega
theorem imgUpto_length {ls : List V.Ln} (h : ∀ l ∈ ls, l.Good) (j : Nat) (hj : j ≤ ls.length) : (imgUpto ls j).length = 64 * ls.length := by
  rw [imgUpto, List.length_append, take_flat_length h j hj, List.length_replicate]; omega
theorem imgUpto_zero (ls : List V.Ln) : imgUpto ls 0 = List.replicate (64 * ls.length) 0 := by simp [imgUpto]
theorem imgUpto_all (ls : List V.Ln) : imgUpto ls ls.length = ls.flatMap (·.now) := by simp [imgUpto]
theorem imgUpto_step {ls : List V.Ln} (h : ∀ l ∈ ls, l.Good) (j : Nat) (hj : j < ls.length) (l : V.Ln) (hl : ls[j]? = some l) :
    splice ((imgUpto ls j).map (Value.int .u8)) (64 * j) (l.now.map (Value.int .u8)) = (imgUpto ls (j + 1)).map (Value.int .u8) := by
  have hlen := take_flat_length h j (by omega)
  have hl2 : ls[j] = l := by rw [List.getElem?_eq_getElem hj] at hl; exact Option.some.inj hl
  have h64 : l.now.length = 64 := (h l (by rw [← hl2]; exact List.getElem_mem hj)).len
  rw [splice, imgUpto, imgUpto, List.take_succ_eq_append_getElem hj, hl2, List.flatMap_append, List.map_append, List.map_append, List.map_append]
  have h1 : ((ls.take j).flatMap (·.now) |>.map (Value.int .u8)).length = 64 * j := by rw [List.length_map, hlen]
  rw [List.take_append_of_le_length (by omega), List.take_of_length_le (by omega), List.drop_append, List.drop_of_length_le (by rw [h1]; omega), List.nil_append, h1, List.length_map, h64, List.map_replicate, List.drop_replicate, List.map_replicate]
  simp only [List.flatMap_cons, List.flatMap_nil, List.append_nil, List.append_assoc]
  rw [show 64 * (ls.length - j) - (64 * j + 64 - 64 * j) = 64 * (ls.length - (j + 1)) by omega]

section

variable {w : World} {v : Value} {d : V.Dv} {F : List Nat}

set_option maxRecDepth 100000 in
theorem dev_image (h : Dev w v d F) :
    Calls Tryd.prog 20 #[v] w (NewBytes w d.image) := by
  obtain ⟨i0, hi, hz0, hz1, hz2⟩ := info_parts info_u8
  have hsz8 : (Tryd.prog.info? 5).map (·.size) = some 1 := by rw [hi]; simp [hz1]
  have HS := Lib.hid (dev_size h)
  have hm := h.good.most
  have HRG := Lib.hid (V.image_range h.good.lines)
  have HLN := Lib.hid (V.image_length h.good.lines)
  have HIL := Lib.hid (fun j hj => imgUpto_length h.good.lines j hj)
  have HIS := Lib.hid (fun j hj l hl => imgUpto_step h.good.lines j hj l hl)
  have HI0 := Lib.hid (imgUpto_zero d.lines)
  have HIA : Hid (imgUpto d.lines d.lines.length = d.image) := imgUpto_all d.lines
  obtain ⟨D, L, ps, rfl, rfl, h3, h4, hg⟩ := h
  have hM : Mid w D L (foot D L ps) d.lines d.left d.steps w := ⟨ps, h3, h4, Only.refl _ _, fun k hk => .inl hk⟩
  have HAT : Hid (∀ j, j < d.lines.length → ∃ l, d.lines[j]? = some l ∧ IsBytes w (.slice (some ⟨L, 66 * j, none⟩) 64 64) l.now ∧ l.now.length = 64) := by
    intro j hj
    obtain ⟨a, p, b, e1, e2, e3, hline, _⟩ := hM.at hj
    refine ⟨p.1, ?_, ?_, hline.good.len⟩
    · rw [e1, List.getElem?_append_right (by simp; omega)]
      simp [e2]
    · have := hline.bytes
      rw [e3] at this
      exact this
  have e : d.lines.length = ps.length := by rw [h3, List.length_map]
  have c0 := h4.c0
  rw [← e] at c0
  have hDw := h4.ltD
  have hLw := h4.ltL
  clear h3 h4 hg hM e
  generalize hn : d.lines.length = n at *
  have HN := Lib.hid hn
  clear hn
  obtain ⟨s, hs⟩ : ∃ s, s = 64 * n := ⟨_, rfl⟩
  rw [← hs] at HS
  have hs6 : s ≤ 65536 := by omega
  have HSN := Lib.hid hs
  clear hs
  go_enter Tryd.func20, Tryd.ntmps20
  go_wp2_with fail
  refine HS.out.mono ?_
  rintro e w' ⟨rfl, rfl⟩
  go_wp2_with (refine wpList_make_full _ rfl _ _ 37 rfl w.heap.size 5 i0 (.int .u8 0) 1 Tryd.underlying37 hi hz0 hz1 .i64 .i64 s s s rfl rfl rfl rfl (by rw [hz2]; omega) (by unfold maxLen; omega) (by simp) ?_)
  intro w1 hown hgr
  have HB1 : Hid (Below w.heap.size w w1) := (Below.refl _ _).grown hgr (Nat.le_refl _) (fun k hk => by cases hk)
  have HR1 := Lib.hid (row_of_made hown)
  have hc1 : w1.cell? ⟨D, 0, none⟩ = some (.slice (some ⟨L, 0, none⟩) n n) := (HB1.out.cell (p := ⟨D, 0, none⟩) hDw).trans c0
  clear hown hgr
  have hq : IntKind.i64.wrap ((s : Int).tdiv 64) = (n : Int) := by
    rw [Int.tdiv_eq_ediv_of_nonneg (by omega), IntWalk.i64_in _ (by have := HSN.out; omega)]; have := HSN.out; omega
  have hq2 : (s : Int) / 64 = (n : Int) := by have := HSN.out; omega
  go_wp2_with fail
  have H0 : Hid (w1.heap[w.heap.size]? = some (.cells ((imgUpto d.lines 0).map (Value.int .u8)).toArray 5 (0, 0))) := by
    show _ = _
    rw [HI0.out, List.map_replicate, ← HSN.out]; exact HR1.out
  have hw6 : Hid (w.heap.size ≤ w.heap.size) := Nat.le_refl _
  clear hc1
  go_loopw [4, 11] (fun _ x wr => ∃ j : Nat, j ≤ n ∧ x = .int .i64 j ∧ Hid (wr.heap[w.heap.size]? = some (.cells ((imgUpto d.lines j).map (Value.int .u8)).toArray 5 (0, 0))) ∧ Below w.heap.size w wr) (fun _ x _ => n - (intOf x).toNat)
  case atStart => exact ⟨0, by omega, rfl, H0, HB1.out⟩
  case round =>
    obtain ⟨j, hj, rfl, hrow, hbel⟩ := hrel
    by_cases hlt : j < n
    · obtain ⟨l, hl, hbl, hl64⟩ := HAT.out j hlt
      have HR := Lib.hid (range_of_bytes (cap := 64) (by rw [hl64]; exact hbl.below (hbel.drew (w := wr))))
      have HSP := Lib.hid (HIS.out j hlt l hl)
      have HRW := Lib.hid (HIL.out j hj)
      have hcD : wr.cell? ⟨D, 0, none⟩ = some (.slice (some ⟨L, 0, none⟩) n n) := (hbel.cell (p := ⟨D, 0, none⟩) hDw).trans c0
      have HB := Lib.hid hbel
      have HCL : Hid ((l.now.map (Value.int .u8)).length = 64) := by show _ = _; rw [List.length_map, hl64]
      have H1C : Hid (∀ v ∈ l.now.map (Value.int .u8), v.oneCell' = true) := ints_oneCell _ _
      have HCURL : Hid (((imgUpto d.lines j).map (Value.int .u8)).length = s) := by show _ = _; rw [List.length_map, HRW.out, HSN.out]
      clear hl hbl hl64 hbel
      generalize (imgUpto d.lines j).map (Value.int .u8) = cur at *
      generalize l.now.map (Value.int .u8) = cs at *
      obtain ⟨t, ht⟩ : ∃ t, t = j * 64 := ⟨_, rfl⟩
      have hti : ((j : Int) * 64) = (t : Int) := by omega
      have htw : IntKind.i64.wrap ((j : Int) * 64) = (t : Int) := by rw [IntWalk.i64_in _ (by omega)]; exact hti
      have htw2 : IntKind.i64.wrap (t : Int) = (t : Int) := IntWalk.i64_in _ (by omega)
      have hts : t + 64 ≤ s := by have := HSN.out; omega
      have hne : ¬ s = t := by omega
      have hts2 : (t : Int) ≤ (s : Int) := by omega
      have hji : (j : Int) < (n : Int) := by omega
      have hj0 : (0 : Int) ≤ (j : Int) := by omega
      have HT : Hid (66 * j = j * 66) := Nat.mul_comm _ _
      rw [HT.out] at HR
      have HT2 : Hid (64 * j = t) := by show _ = _; rw [ht]; exact Nat.mul_comm _ _
      rw [HT2.out] at HSP
      have HSRC : Hid (∀ k v, cs[k]? = some v → wr.drew.cell? ((⟨L, j * 66, none⟩ : Addr).add k) = some v) := fun k v hk => by rw [Addr.add_lit]; exact HR.out k v hk
      clear ht
      go_wp2_with fail
      go_region_law (refine step_copy_splice rfl (.tmp 17) (.tmp 25) 37 37 rfl 5 Tryd.underlying37 hsz8 (some ⟨w.heap.size, t, none⟩) (some ⟨L, j * 66, none⟩) (s - t) (s - t) 64 64 (by simp [Act.eval, Act.put]) (by simp [Act.eval, Act.put]) w.heap.size t cur 5 hrow.out cs (by rw [HCL.out]; exact (Nat.min_eq_left (by omega)).symm) (fun _ => ⟨rfl, _, rfl, HSRC.out⟩) (by rw [HCL.out, HCURL.out]; exact hts) H1C.out w.heap.size w (by exact HB.out.drew) (Nat.le_refl _) ?_; intro w4 hg4 hb4)
      all_goals
        rw [HSP.out] at hg4
        have HB4 := Lib.hid hb4
        clear hb4
        go_wp2
        go_roundw
        case rel => exact ⟨j + 1, by omega, by go_num, hg4, HB4.out⟩
        case measure => simp [intOf]; omega
    · obtain rfl : j = n := by omega
      have HB := Lib.hid hbel
      clear hbel
      go_wp2
      go_ret
      have hln : d.image.length = s := by rw [HLN.out, HSN.out]
      refine ⟨w.heap.size, by rw [hln]; rfl, Nat.le_refl _, ?_, HB.out⟩
      have h1 := hrow.out
      rw [HIA.out] at h1
      exact isBytes_block' h1 HRG.out (by rw [hln]; unfold maxLen; omega)
end

end Go.Proofs.YtmelmiookkeoaaaDoor
