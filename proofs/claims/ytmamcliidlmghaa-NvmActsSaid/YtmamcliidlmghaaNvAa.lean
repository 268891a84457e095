/- Acts in memory; the statements' own 'heavy'. -/
import Derived.Test.YtmamcliidlmghaaNvDh
import Derived.Deep.Slices
import Derived.Deep.Fields
import Derived.ChangeSame
namespace Go.Proofs.Ytmamcliidlmghaa
open Go.RowKit

theorem wf_i64 {a : Int} (h : (Lit.int .i64 a).wf = true) : I64 a := by
  simp [Lit.wf, IntKind.min, IntKind.max, IntKind.signed, IntKind.bits] at h
  unfold I64; omega
theorem wf_u64 {a : Int} (h : (Lit.int .u64 a).wf = true) : ∃ n : Nat, a = n ∧ n < 2 ^ 64 := by
  simp [Lit.wf, IntKind.min, IntKind.max, IntKind.signed, IntKind.bits] at h
  exact ⟨a.toNat, by omega, by omega⟩
theorem wf_u8 {a : Int} (h : (Lit.int .u8 a).wf = true) : ∃ n : Nat, a = n ∧ n ≤ 255 := by
  simp [Lit.wf, IntKind.min, IntKind.max, IntKind.signed, IntKind.bits] at h
  exact ⟨a.toNat, by omega, by omega⟩

/-- An act: its kind, place, number; its picks as they lie, and as they read. -/
structure Act where
  kind : Nat
  off : Int
  n : Nat
  pa : Option Addr
  pc : Nat
  picks : List Int
structure Act.Good (w : World) (a : Act) : Prop where
  kind : a.kind ≤ 255
  off : I64 a.off
  n : a.n < 2 ^ 64
  picks : IsBytes w (.slice a.pa a.picks.length a.pc) a.picks
  old : ∀ x, a.pa = some x → a.picks ≠ [] → x.block < w.heap.size
def Act.pv (a : Act) : Value := .slice a.pa a.picks.length a.pc
def Act.agg (a : Act) : Value := .agg #[.int .u8 (a.kind : Int), .int .i64 a.off, .int .u64 (a.n : Int), a.pv]
def ActAt (w : World) (b o : Nat) (a : Act) : Prop :=
  w.cell? ⟨b, o, none⟩ = some (.int .u8 (a.kind : Int)) ∧ w.cell? ⟨b, o + 1, none⟩ = some (.int .i64 a.off) ∧ w.cell? ⟨b, o + 2, none⟩ = some (.int .u64 (a.n : Int)) ∧ w.cell? ⟨b, o + 3, none⟩ = some a.pv
/-- A slice that reads as acts. -/
def IsActs (w : World) (A : Option Addr) (len cap : Nat) (l : List Act) : Prop :=
  l.length = len ∧ len ≤ cap ∧ cap ≤ maxLen ∧ (∀ a ∈ l, a.Good w) ∧ (l = [] ∨ ∃ b o, A = some ⟨b, o, none⟩ ∧ b < w.heap.size ∧ ∀ (i : Nat) (a : Act), l[i]? = some a → ActAt w b (o + i * 4) a)
theorem ActAt.below {w w' : World} {b o : Nat} {a : Act} (h : ActAt w b o a) (hb : Below w.heap.size w w') : ActAt w' b o a := by
  obtain ⟨h0, h1, h2, h3⟩ := h
  have hlt := World.block_lt_of_cell? w _ h0
  exact ⟨(hb.cell (p := ⟨b, o, none⟩) hlt).trans h0, (hb.cell (p := ⟨b, o + 1, none⟩) hlt).trans h1, (hb.cell (p := ⟨b, o + 2, none⟩) hlt).trans h2, (hb.cell (p := ⟨b, o + 3, none⟩) hlt).trans h3⟩
theorem IsActs.at {w wr : World} {A : Option Addr} {len cap : Nat} {l : List Act} (h : IsActs w A len cap l) (hb : Below w.heap.size w wr) {i : Nat} (hi : i < len) :
    ∃ a b o, l[i]? = some a ∧ a.Good w ∧ A = some ⟨b, o, none⟩ ∧ ActAt wr b (o + i * 4) a := by
  obtain ⟨h1, _, _, hg, h4⟩ := h
  have hl : l[i]? = some (l[i]'(by omega)) := List.getElem?_eq_getElem (by omega)
  rcases h4 with rfl | ⟨b, o, e, _, hc⟩
  · simp at h1; omega
  · exact ⟨_, b, o, hl, hg _ (List.mem_of_getElem? hl), e, (hc i _ hl).below hb⟩

def Act.heavy (a : Act) : Bool := decide (100 < a.picks.length)
def heavyF (l : List Act) : Bool := l.any Act.heavy || decide (150 < l.length)
theorem any_take_succ {l : List Act} {i : Nat} {a : Act} (h : l[i]? = some a) (h0 : (l.take i).any Act.heavy = false) (ha : a.heavy = false) : (l.take (i + 1)).any Act.heavy = false := by
  have hlt := (List.getElem?_eq_some_iff.1 h).1
  rw [List.take_succ_eq_append_getElem hlt, List.any_append, h0, (List.getElem?_eq_some_iff.1 h).2]
  simp [ha]
theorem any_of_mem {l : List Act} {i : Nat} {a : Act} (h : l[i]? = some a) (ha : a.heavy = true) : l.any Act.heavy = true :=
  List.any_eq_true.2 ⟨a, List.mem_of_getElem? h, ha⟩

set_option maxRecDepth 100000 in
theorem heavy_any (w0 wr : World) (A : Option Addr) (len cap : Nat) (l : List Act) (h : IsActs w0 A len cap l) (hb : Below w0.heap.size w0 wr) :
    Calls Try.prog 5 #[.slice A len cap] wr fun e w' => e = .returned (.bool (heavyF l)) ∧ Below wr.heap.size wr w' := by
  have hlen := h.1
  have hm := h.2.2.1
  have hlc := h.2.1
  have HA := Lib.hid (fun (w2 : World) (hb2 : Below w0.heap.size w0 w2) (i : Nat) (hi : i < len) => h.at hb2 hi)
  unfold maxLen at hm
  have HL := Lib.hid hlen
  clear h hlen
  have HB := Lib.hid hb
  clear hb
  go_enter Try.func5, Try.ntmps5
  go_wp2_with fail
  go_loopw [4, 7] (fun _ x w2 => ∃ j : Nat, j ≤ len ∧ x = .int .i64 j ∧ Hid ((l.take j).any Act.heavy = false) ∧ Below wr.heap.size wr w2) (fun _ x _ => len - (intOf x).toNat)
  case atStart => exact ⟨0, by omega, rfl, by simp [Hid], Below.refl _ _⟩
  case round =>
    obtain ⟨j, hj, rfl, hany, hb2⟩ := hrel
    by_cases hlt : j < len
    · obtain ⟨a, b, o, e1, _, rfl, hc0, hc1, hc2, hc3⟩ := HA.out _ (HB.out.trans (hb2.mono HB.out.size)) j hlt
      have E1 := Lib.hid e1
      have hpv : a.pv = .slice a.pa a.picks.length a.pc := rfl
      rw [hpv] at hc3
      have HB2 := Lib.hid hb2
      clear e1 hpv hb2
      cases hh : a.heavy
      · have hd : ¬ 100 < a.picks.length := by simpa [Act.heavy] using hh
        have HT := Lib.hid (any_take_succ E1.out hany.out hh)
        clear hh
        have hd2 : (a.picks.length : Int) ≤ 100 := by omega
        clear hd
        go_wp2
        go_roundw
        case rel => exact ⟨j + 1, by omega, by go_num, HT.out, HB2.out.alloc HB2.out.size _⟩
        case measure => simp [intOf]; omega
      · have hd : 100 < a.picks.length := by simpa [Act.heavy] using hh
        have HT := Lib.hid (any_of_mem E1.out hh)
        clear hh
        have hd2 : (100 : Int) < (a.picks.length : Int) := by omega
        clear hd
        go_wp2
        go_ret
        exact ⟨ret_bool (by rw [heavyF, HT.out]; rfl), HB2.out.alloc HB2.out.size _⟩
    · obtain rfl : j = len := by omega
      have HB2 := Lib.hid hb2
      have HAL : Hid (l.any Act.heavy = false) := by
        have := hany.out
        rw [List.take_of_length_le (by rw [HL.out]; exact Nat.le_refl _)] at this
        exact this
      clear hb2 hany
      have HD : Hid (heavyF l = decide ((150 : Int) < (j : Int))) := by
        show _ = _
        rw [heavyF, HAL.out, HL.out, Bool.false_or, decide_eq_decide]
        omega
      go_wp2
      go_ret
      exact ⟨ret_bool HD.out.symm, HB2.out⟩
end Go.Proofs.Ytmamcliidlmghaa
