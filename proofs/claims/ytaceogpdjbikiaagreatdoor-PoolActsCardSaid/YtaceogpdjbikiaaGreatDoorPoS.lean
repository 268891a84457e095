
/- Layer 7: a device's call beside a pool; the statements' own Begin. -/
import Derived.Test.YtaceogpdjbikiaaGreatDoorPoL
namespace Go.Proofs.YtaceogpdjbikiaaGreatDoor

open Go.RowKit

section

variable {w0 w : World} {pv : Value} {p : Option Addr} {d d' : V.Dv} {sh : V.Sh} {ws xs X : List Nat}

/-- A call of the device keeps the pool's memory. -/
theorem PoolK.dev (h : PoolK w0 pv p d sh ws xs X w) {f : FuncId} {args : Array Value} {R : Ending → Prop} (hc : ∀ F, Dev w (.pointer p) d F → Calls Tryz.prog f args w fun e w' => R e ∧ DevStep w (.pointer p) d' F w') :
    Calls Tryz.prog f args w fun e w' => R e ∧ PoolK w0 pv p d' sh ws xs X w' ∧ KeepB X w w' := by
  obtain ⟨y, h1, h2, h3, h4, h5, h6, h7⟩ := h
  refine (h5.run hc).mono ?_
  rintro e w' ⟨hR, hd, hk⟩
  exact ⟨hR, ⟨y, h1, h2.keep (fun k hk' => hk k (List.mem_append_right _ hk')), h3, h4, hd, h6, h7⟩, fun k hk' => hk k (List.mem_append_left _ hk')⟩
end

namespace V

open Go.Proofs.YtaceogpdjbikiaaGreatDoor.V

theorem put_steps (d : Dv) (off : Int) (n : Nat) : (d.put off n).1.steps ≤ d.steps + 3 := runL_steps _ _
/-- What a device is that was formatted. -/
structure Fresh (d : Dv) (n : Nat) : Prop where
  good : d.Good
  len : d.lines.length = n
  left : d.left < 0
  opens : d.opens = (Sh.at n, 0)
  table : tableOf d = List.replicate (V.slabs n) 0
  steps : d.steps ≤ 20000
theorem fresh {n : Nat} (h19 : 19 ≤ n) (h1024 : n ≤ 1024) : (newDv n).format.2.1 = 0 ∧ (newDv n).format.2.2 = Sh.at n ∧ Fresh (newDv n).format.1 n := by
  have hg : (newDv n).Good := newDv_good (by omega) h1024
  have hlen : (newDv n).lines.length = n := newDv_len n
  have hgo := format_goes hg (by omega) (by show (-1 : Int) < 0; decide)
  obtain ⟨_, hsh, hw, h0, hh⟩ := format_done hg hgo.1
  have hfl := format_len (newDv n)
  rw [hlen] at hfl hsh hw
  have hop := opens_yes (d := (newDv n).format.1) (by omega) (by omega) (by rw [hfl]; exact hw)
  rw [hfl] at hop
  refine ⟨hgo.1, hsh, format_good hg, hfl, hgo.2, hop, ?_, by have := format_steps hg; have h2 : (newDv n).steps = 0 := rfl; omega⟩
  unfold tableOf
  rw [hfl]
  have hneed := need_slabs (n := n) (by omega)
  unfold need at hneed
  apply List.ext_getElem?
  intro i
  by_cases hi : i < V.slabs n
  · rw [words_get _ _ _ _ hi, List.getElem?_replicate, if_pos hi]
    have hr : (newDv n).format.1.room 128 (V.slabs n : Nat) = 0 := room_zero.2 ⟨by omega, by omega, by omega, by rw [hfl]; omega⟩
    have he := room_err hr (by omega) i hi
    rw [load_word he]
    have hq := hh.word (128 + 8 * (i : Int)).toNat (by omega) (by rw [hfl]; omega)
    rcases hq with h | h
    · omega
    · rw [h]
  · rw [List.getElem?_eq_none (by rw [words_length]; omega), List.getElem?_eq_none (by rw [List.length_replicate]; omega)]
end V

theorem allRight_zeros (n : Nat) : allRight (List.replicate n 0) = true := by
  unfold allRight
  rw [List.all_eq_true]
  intro x hx
  rw [(List.mem_replicate.1 hx).2]; rfl
/-- What Begin leaves. -/
def BgPost (w : World) (n : Nat) (e : Ending) (w' : World) : Prop :=
  ∃ D q : Nat, e = .returned (.tuple #[.pointer (some ⟨D, 0, none⟩), .pointer (some ⟨q, 0, none⟩)]) ∧ PoolK w (.pointer (some ⟨q, 0, none⟩)) (some ⟨D, 0, none⟩) (V.newDv n).format.1 (V.Sh.at n) (List.replicate (V.slabs n) 0) (List.replicate (V.slabs n) 0) [] w'
set_option maxHeartbeats 1000000 in
set_option maxRecDepth 100000 in
theorem begin_any (n : Nat) (h19 : 19 ≤ n) (h1024 : n ≤ 1024) (w : World) (hT : TabT w) (hg : 0 < w.heap.size) :
    Calls Tryz.prog 6 #[.int .i64 (n : Int)] w (BgPost w n) := by
  obtain ⟨hf1, hf2, hfr⟩ := V.fresh h19 h1024
  have HNW := Lib.hid (in_new n (by omega) h1024 w w (Below.refl _ _))
  have HFM : Hid (∀ W D, DevIn w (.pointer (some ⟨D, 0, none⟩)) (V.newDv n) W → Calls Tryz.prog 29 #[.pointer (some ⟨D, 0, none⟩)] W fun e w' => e = .returned (.tuple #[shV (V.Sh.at n), .int .i64 0]) ∧ DevIn w (.pointer (some ⟨D, 0, none⟩)) (V.newDv n).format.1 w') := fun W D hd => by
    have h := in_format hd (by show (0 : Nat) ≤ _; decide) hT hg
    rw [hf1, hf2] at h
    exact h
  have HOP : Hid (∀ W D, DevIn w (.pointer (some ⟨D, 0, none⟩)) (V.newDv n).format.1 W → Calls Tryz.prog 23 #[.pointer (some ⟨D, 0, none⟩)] W fun e w' => ∃ q : Nat, e = .returned (.tuple #[.pointer (some ⟨q, 0, none⟩), .int .i64 0]) ∧ PoolK w (.pointer (some ⟨q, 0, none⟩)) (some ⟨D, 0, none⟩) (V.newDv n).format.1 (V.Sh.at n) (List.replicate (V.slabs n) 0) (List.replicate (V.slabs n) 0) [] w') := fun W D hd => by
    refine (po_open hd.devK (by have := hfr.left; omega) hT hg).mono ?_
    rintro e w' ⟨_, ⟨_, _, q, he, hp⟩ | ⟨hno, _⟩⟩
    · rw [hfr.len, hfr.table] at hp
      exact ⟨q, he, hp⟩
    · rcases hno with h | h
      · rw [hfr.opens] at h; exact absurd rfl h
      · rw [hfr.table, allRight_zeros] at h; cases h
  clear hf1 hf2 hfr h19 h1024 hT hg
  unfold shV V.Sh.at at HFM
  dsimp only at HFM
  obtain ⟨s, hs⟩ : ∃ s, V.slabs n = s := ⟨_, rfl⟩
  rw [hs] at HFM
  clear hs
  generalize V.dataAt n = da at *
  go_enter Tryz.func6, Tryz.ntmps6
  go_wp2_with fail
  refine HNW.out.mono ?_
  rintro e w1 ⟨D, rfl, hd⟩
  have HF := Lib.hid (HFM.out _ _ hd)
  clear hd
  go_wp2_with fail
  refine HF.out.mono ?_
  rintro e w2 ⟨rfl, hd2⟩
  have HO := Lib.hid (fun o : Obj => HOP.out (w2.alloc o) D (hd2.alloc o))
  clear hd2
  go_wp2_with fail
  refine (HO.out _).mono ?_
  rintro e w3 ⟨q, rfl, hp⟩
  have HP := Lib.hid hp
  clear hp
  go_wp2
  go_ret2
  exact ⟨D, q, rfl, HP.out⟩
end Go.Proofs.YtaceogpdjbikiaaGreatDoor
