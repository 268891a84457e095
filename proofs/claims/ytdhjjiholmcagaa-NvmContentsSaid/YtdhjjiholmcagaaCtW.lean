/- The walk of NvmContents, all cases. -/
import Derived.Test.YtdhjjiholmcagaaCtL
namespace Go.Proofs.Ytdhjjiholmcagaa
open Go.RowKit

set_option maxHeartbeats 1000000 in
set_option maxRecDepth 100000 in
theorem nvmContents_walk (A : Option Addr) (len cap : Nat) (l : List Act) (PA : Option Addr) (pn pc : Nat) (pz : List Int) (w : World) (h0 : IsActs w A len cap l) (h2 : IsBytes w (.slice PA pn pc) pz) :
    Calls Try.prog 5 #[.slice A len cap, .slice PA pn pc] w fun e w' => e = .returned (.bool true) ∧ Below w.heap.size w w' := by
  have HH := Lib.hid (fun wr hb => heavy_any w wr A len cap l h0 hb)
  cases hhv : heavyF l
  · rw [hhv] at HH
    by_cases hpn : pn ≤ 100
    · refine nvmContents_in A len cap l PA pn pc pz w h0 h2 (fun hz a e => ?_) hhv hpn
      have hne : 0 < pz.length := List.length_pos_iff.2 hz
      subst e
      obtain ⟨a', c, he, _, _, hr, _⟩ := h2
      obtain ⟨rfl, _, _⟩ := by simpa using he
      rcases hr with e0 | ⟨b, o, e1, hc⟩
      · rw [e0] at hne; simp at hne
      · cases e1
        exact World.block_lt_of_cell? w _ (hc 0 hne)
    · have hpn2 : (100 : Int) < (pn : Int) := by omega
      obtain ⟨_, hpc, hpm⟩ := h2.len'
      unfold maxLen at hpm
      clear h0 hhv h2
      go_enter Try.func5, Try.ntmps5
      go_wp2_with fail
      refine (alive_any _).mono ?_
      rintro e w1 ⟨rfl, hb1⟩
      have HB1 := Lib.hid hb1
      clear hb1
      go_wp2_with fail
      refine (HH.out w1 HB1.out).mono ?_
      rintro e w2 ⟨rfl, hb2⟩
      have HB2 : Hid (Below w.heap.size w w2) := HB1.out.trans (hb2.mono HB1.out.size)
      clear hb2
      go_wp2
      go_ret
      exact ⟨rfl, HB2.out⟩
  · rw [hhv] at HH
    clear h0 hhv h2
    go_enter Try.func5, Try.ntmps5
    go_wp2_with fail
    refine (alive_any _).mono ?_
    rintro e w1 ⟨rfl, hb1⟩
    have HB1 := Lib.hid hb1
    clear hb1
    go_wp2_with fail
    refine (HH.out w1 HB1.out).mono ?_
    rintro e w2 ⟨rfl, hb2⟩
    have HB2 : Hid (Below w.heap.size w w2) := HB1.out.trans (hb2.mono HB1.out.size)
    clear hb2
    go_wp2
    go_ret
    exact ⟨rfl, HB2.out⟩
end Go.Proofs.Ytdhjjiholmcagaa
