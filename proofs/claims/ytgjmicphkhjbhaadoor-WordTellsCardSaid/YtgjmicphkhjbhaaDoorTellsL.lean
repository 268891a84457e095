/- The walk of the statement WordTells. -/
import Derived.Test.YtgjmicphkhjbhaaDoorWg
namespace Go.Proofs.YtgjmicphkhjbhaaDoor
open Go.RowKit

theorem str_of {w : World} {c : Value} {zs : List Int} (h : IsBytes w c zs) : (convert 22 9 c).run Tryd.prog w = .ok (.string (strOfNums zs)) w := by
  obtain ⟨a, cap, rfl, _, _, hR, _⟩ := h
  rcases hR with rfl | ⟨b, o, rfl, hc⟩
  · cases a with
    | none => exact run_convert_bytes_nil w 22 5 Tryd.underlying22 Tryd.underlying5 _ _ 9 Tryd.underlying9
    | some x =>
      rw [run_convert_bytes_string w 22 9 5 _ _ _ Tryd.underlying22 Tryd.underlying5 Tryd.underlying9]
      exact run_bytesToString w x 0 cap [] (by simpa using run_loadCells_list (P := Tryd.prog) w x [] (fun j v hj => by simp at hj))
  · exact run_convert_bytes_arg w 22 5 Tryd.underlying22 Tryd.underlying5 b o _ cap zs rfl hc 9 Tryd.underlying9

theorem wordTells_core (v : Value) (zs : List Int) (at' : Int) (n : Nat) (w : World) (hv : IsBytes w v zs) (ha : -9223372036854775808 ≤ at' ∧ at' ≤ 9223372036854775807) (hn : n < 2 ^ 64)
    (hT : TabAt 0 Lib.deBruijn64tab w) (hs : 1 ≤ w.heap.size) :
    Calls Tryd.prog 3 #[v, .int .i64 at', .int .u64 n] w fun e w' => e = .returned (.bool true) ∧ Below w.heap.size w w' := by
  have HT := Lib.hid hT; clear hT
  have HV := Lib.hid hv
  obtain ⟨a, cap, rfl, _, _, _, _⟩ := hv
  by_cases hlen : 1000 < zs.length
  · generalize zs.length = len at *
    go_enter Tryd.func3, Tryd.ntmps3
    go_wp2_with fail
    refine (alive_any _ HT.out hs).mono ?_
    rintro e w1 ⟨rfl, hb⟩
    have HB := Lib.hid hb; clear hb
    go_wp2
    go_ret
    exact ⟨rfl, HB.out⟩
  · obtain ⟨len, hle⟩ : ∃ len, len = zs.length := ⟨_, rfl⟩
    have HLE := Lib.hid hle
    rw [← hle] at hlen HV ⊢
    clear hle
    go_enter Tryd.func3, Tryd.ntmps3
    go_wp2_with fail
    refine (alive_any _ HT.out hs).mono ?_
    rintro e w1 ⟨rfl, hb⟩
    have HV1 := Lib.hid (HV.out.below hb)
    have HB := Lib.hid hb; clear hb
    go_wp2_with fail
    refine (get_any _ _ _ _ (by exact HV1.out) ha).mono ?_
    rintro e w' ⟨rfl, m1, rfl⟩
    go_wp2_with fail
    refine (rget_any _ _ _ _ (by exact HV1.out) ha).mono ?_
    rintro e w' ⟨rfl, m2, rfl⟩
    go_wp2_with fail
    refine (put_any _ _ _ _ _ (by exact HV1.out) (by rw [← HLE.out]; omega) ha hn).mono ?_
    rintro e w2 ⟨c, rfl, hc, hb2⟩
    have hb2' : Below w1.heap.size w1 w2 := (below_drewN' (Below.refl w1.heap.size w1) (m1 + m2)).trans hb2
    have HV2 := Lib.hid (HV1.out.below hb2')
    have HB2 : Hid (Below w.heap.size w w2) := HB.out.trans (hb2'.mono HB.out.size)
    have HC := Lib.hid hc
    clear hb2 hb2' hc
    go_wp2_with fail
    refine (rput_any _ _ _ _ _ (by exact HV2.out) (by rw [← HLE.out]; omega) hn).mono ?_
    rintro e w3 ⟨d, rfl, hd, hb3⟩
    have HS1 := str_of (HC.out.below hb3)
    have HS2 := str_of hd
    have HB3 : Hid (Below w.heap.size w w3) := HB2.out.trans (hb3.mono HB2.out.size)
    clear hb3 hd
    go_wp2
    go_ret
    exact ⟨rfl, HB3.out⟩

theorem wordTells_walk (b0 : Option Addr) (len0 cap0 : Nat) (z0 : List Int) (a1 a2 : Int) (w : World) (w0 : IsInts .u8 w (.slice b0 len0 cap0) z0) (w1 : (Lit.int .i64 a1).wf = true) (w2 : (Lit.int .u64 a2).wf = true)
    (hT : TabAt 0 Lib.deBruijn64tab w) (hs : 1 ≤ w.heap.size) :
    Calls Tryd.prog 3 #[.slice b0 len0 cap0, .int .i64 a1, .int .u64 a2] w fun e w' => e = .returned (.bool true) ∧ Below w.heap.size w w' := by
  have h2 : ∃ n : Nat, a2 = n ∧ n < 2 ^ 64 := by
    simp [Lit.wf, IntKind.min, IntKind.max, IntKind.signed, IntKind.bits] at w2
    exact ⟨a2.toNat, by omega, by omega⟩
  obtain ⟨n, rfl, hn⟩ := h2
  have h1 : -9223372036854775808 ≤ a1 ∧ a1 ≤ 9223372036854775807 := by
    simp [Lit.wf, IntKind.min, IntKind.max, IntKind.signed, IntKind.bits] at w1
    omega
  exact wordTells_core _ z0 a1 n w w0 h1 hn hT hs
end Go.Proofs.YtgjmicphkhjbhaaDoor
