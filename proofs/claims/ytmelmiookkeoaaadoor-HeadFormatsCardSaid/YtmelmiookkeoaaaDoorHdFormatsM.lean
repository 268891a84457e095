
/- Plain mathematics of HeadFormats; a crash of a device beside blocks. -/
import Derived.Test.YtmelmiookkeoaaaDoorHdFitsL

import Derived.Test.YtmelmiookkeoaaaDoorHdK

namespace Go.Proofs.YtmelmiookkeoaaaDoor

open Go.RowKit

namespace V

/-- A new device with the first words stored. -/
def sto (n : Nat) (l : List Nat) : Nat → Dv
  | 0 => newDv n
  | j + 1 => (sto n l j).store (8 * ((j * 7 % (8 * n) : Nat) : Int)) (l.getD j 0)
theorem sto_ok {n : Nat} (h1 : 1 ≤ n) (h2 : n ≤ 1024) (l : List Nat) : ∀ j, (sto n l j).Good ∧ (sto n l j).left = -1 ∧ (sto n l j).lines.length = n ∧ (sto n l j).steps ≤ j
  | 0 => ⟨newDv_good h1 h2, rfl, newDv_len n, Nat.le_refl _⟩
  | j + 1 => by
    obtain ⟨a, b, c, d⟩ := sto_ok h1 h2 l j
    have hs := St.steps (.store (8 * ((j * 7 % (8 * n) : Nat) : Int)) (l.getD j 0)) (sto n l j)
    have hl := St.len (.store (8 * ((j * 7 % (8 * n) : Nat) : Int)) (l.getD j 0)) (sto n l j)
    refine ⟨a.store _ _, ?_, by show ((St.store _ _).run _).lines.length = n; rw [hl, c], by show ((St.store _ _).run _).steps ≤ _; omega⟩
    show ((sto n l j).store (8 * ((j * 7 % (8 * n) : Nat) : Int)) (l.getD j 0)).left = -1
    unfold Dv.store
    split
    · show (if 0 < (sto n l j).left then (sto n l j).left - 1 else (sto n l j).left) = -1
      rw [if_neg (by omega), b]
    · exact b
theorem formats {d : Dv} {n : Nat} (hg : d.Good) (hlen : d.lines.length = n) (hleft : d.left = -1) (hn : 19 ≤ n) (ps : List Int) :
    d.format.2.1 = 0 ∧ d.format.2.2 = Sh.at n ∧ d.format.1.image = formed n ∧ (d.format.1.crash ps).left ≠ 0 ∧ (d.format.1.crash ps).opens = (Sh.at n, 0) ∧ (d.format.1.crash ps).image = formed n := by
  have hgo := format_goes hg (by omega) (by omega)
  obtain ⟨_, hsh, hw, h0, hh⟩ := format_done hg hgo.1
  have hfl := format_len d
  have hfg := format_good hg
  have hcl := crash_len d.format.1 ps
  have hcw := crash_head (d := d.format.1) (by omega) (by rw [hfl]; exact hw) h0 ps
  have hcg := hfg.crash ps
  have hch := hh.crash hfg ps
  subst hlen
  rw [hfl] at hcw
  refine ⟨hgo.1, hsh, ?_, by show (-1 : Int) ≠ 0; decide, ?_, ?_⟩
  · rw [image_bts hfg, head_all (by omega) (wrds_length _) hw hh, hfl]; rfl
  · have := opens_yes (d := d.format.1.crash ps) (by omega) (by show (-1 : Int) ≠ 0; decide) (by rw [hcl, hfl]; exact hcw)
    rw [this, hcl, hfl]
  · rw [image_bts hcg, head_all (by omega) (wrds_length _) hcw hch, hcl, hfl]; rfl
end V

theorem k_crash {w0 wr : World} {v : Value} {d : V.Dv} {K : List Nat} (h : DevK w0 v d K wr) (PA : Option Addr) (pn pc : Nat) (pz : List Int) (hp : IsBytes w0 (.slice PA pn pc) pz) (hp2 : pz ≠ [] → ∀ a, PA = some a → a.block < w0.heap.size) (hs : d.steps ≤ 1000000000) :
    Calls Tryd.prog 22 #[v, .slice PA pn pc] wr fun e w' => e = .returned (.tuple #[]) ∧ DevK w0 v (d.crash pz) K w' ∧ KeepB K wr w' := by
  obtain ⟨F, h1, h2, h3, h4⟩ := h
  refine (dev_crash h1 PA pn pc pz (hp.below h3) (fun hz a e hf => by have := hp2 hz a e; have := h2 _ hf; omega) hs).mono ?_
  rintro e w' ⟨hR, F', k1, k2, k3⟩
  refine ⟨hR, ⟨F', k1, fun k hk => ?_, h3.trans (k2.below h3.size h2), fun k hk => ⟨fun hf => ?_, Nat.lt_of_lt_of_le (h4 k hk).2 k2.size⟩⟩, fun k hk => k2.block k (h4 k hk).2 (h4 k hk).1⟩
  · rcases k3 k hk with e | e
    · exact h2 k e
    · exact Nat.le_trans h3.size e
  · rcases k3 k hf with e | e
    · exact (h4 k hk).1 e
    · have := (h4 k hk).2; omega
end Go.Proofs.YtmelmiookkeoaaaDoor
