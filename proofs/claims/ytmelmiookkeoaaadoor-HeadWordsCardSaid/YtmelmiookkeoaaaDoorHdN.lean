
/- Plain mathematics of layer 5, more: what Format leaves, and what a crash leaves of that. -/
import Derived.Test.YtmelmiookkeoaaaDoorHdH

namespace Go.Proofs.YtmelmiookkeoaaaDoor.V

open Go.Proofs.YtmelmiookkeoaaaDoor

theorem clear_eq {d : Dv} (hg : d.Good) : d.clear 0 d.lines.length = runL d (puts 0 (List.replicate (8 * d.lines.length) 0)) := by
  have hm := hg.most
  unfold Dv.clear
  rw [if_pos ⟨by omega, by omega, by decide⟩, Int.toNat_natCast]
  exact if_pos (room_zero.2 ⟨by omega, by omega, by omega, by rw [List.length_replicate]; omega⟩)
theorem head_eq {d : Dv} (hg : d.Good) (n : Nat) : d.putAll 0 (wrds n) = runL d (puts 0 (wrds n)) := by
  have h1 := hg.some
  exact if_pos (room_zero.2 ⟨by omega, by omega, by omega, by rw [wrds_length]; omega⟩)
theorem puts_fits0 {n : Nat} {l : List Nat} (hl : 8 * l.length ≤ 64 * n) : ∀ s ∈ puts 0 l, s.fits n := puts_fits (by decide) (by decide) (by omega)
/-- What stands behind the first line is nothing. -/
def Q0 (a x : Nat) : Prop := a < 64 ∨ x = 0
theorem zeros_hold {d : Dv} (hg : d.Good) (h : Holds Q0 d) (k : Nat) : Holds Q0 (runL d (puts 0 (List.replicate k 0))).1 :=
  h.runL _ hg (fun off m hm => by
    obtain ⟨i, h1, _⟩ := puts_mem hm
    have := (List.mem_replicate.1 (List.mem_of_getElem? h1)).2
    subst this
    exact ⟨by decide, fun a _ => .inr rfl⟩)
theorem head_holds {d : Dv} (hg : d.Good) (h : Holds Q0 d) {n : Nat} (hn : n ≤ 1024) : Holds Q0 (runL d (puts 0 (wrds n))).1 :=
  h.runL _ hg (fun off m hm => by
    obtain ⟨i, h1, h2⟩ := puts_mem hm
    have hi := (List.getElem?_eq_some_iff.1 h1).1
    rw [wrds_length] at hi
    exact ⟨wrds_lt hn m (List.mem_of_getElem? h1), fun a ha => .inl (by omega)⟩)
theorem format_holds {d : Dv} (hg : d.Good) (h : Holds Q0 d) : Holds Q0 d.format.1 := by
  have hc : Holds Q0 (d.clear 0 d.lines.length).1 := by rw [clear_eq hg]; exact zeros_hold hg h _
  have hp : Holds Q0 ((d.clear 0 d.lines.length).1.putAll 0 (wrds d.lines.length)).1 := by
    rw [head_eq (clear_good hg _ _)]; exact head_holds (clear_good hg _ _) hc hg.most
  unfold Dv.format
  split
  · split
    · split <;> exact hp
    · exact hc
  · exact h
/-- All words nothing, durable. -/
theorem clear_done {d : Dv} (hg : d.Good) (h : (d.clear 0 d.lines.length).2 = 0) : Holds Q0 (d.clear 0 d.lines.length).1 := by
  rw [clear_eq hg] at h ⊢
  have hd := (puts_done hg (by decide) (by decide) (by rw [List.length_replicate]; omega) (fun n hn => by rw [(List.mem_replicate.1 hn).2]; decide) h).1
  have hlen := runL_len (puts 0 (List.replicate (8 * d.lines.length) 0)) d
  generalize (runL d (puts 0 (List.replicate (8 * d.lines.length) 0))).1 = d1 at *
  intro j hj
  have hz : ∀ k, k < 8 * d.lines.length → d1.word (8 * k) = 0 ∧ (d1.at (8 * k / 64)).over = [] := by
    intro k hk
    have := hd k 0 (by rw [List.getElem?_replicate, if_pos hk])
    rwa [show (0 + 8 * (k : Int)).toNat = 8 * k by omega] at this
  refine ⟨fun a ha ha2 => .inr ?_, fun c hc => ?_⟩
  · have h1 := (hz (8 * j + a / 8) (by omega)).1
    unfold Dv.word at h1
    rwa [show 8 * (8 * j + a / 8) / 64 = j by omega, show 8 * (8 * j + a / 8) % 64 = a by omega] at h1
  · have h2 := (hz (8 * j) (by omega)).2
    rw [show 8 * (8 * j) / 64 = j by omega] at h2
    rw [h2] at hc; cases hc
theorem format_done {d : Dv} (hg : d.Good) (he : d.format.2.1 = 0) :
    19 ≤ d.lines.length ∧ d.format.2.2 = Sh.at d.lines.length ∧ (∀ k x, (wrds d.lines.length)[k]? = some x → d.format.1.word (8 * k) = x) ∧ (d.format.1.at 0).over = [] ∧ Holds Q0 d.format.1 := by
  unfold Dv.format at he ⊢
  by_cases hn : 19 ≤ d.lines.length
  · rw [if_pos hn] at he ⊢
    by_cases h1 : (d.clear 0 d.lines.length).2 = 0
    · rw [if_pos h1] at he ⊢
      by_cases h2 : ((d.clear 0 d.lines.length).1.putAll 0 (wrds d.lines.length)).2 = 0
      · rw [if_pos h2]
        have hc := clear_done hg h1
        have hcg := clear_good hg 0 d.lines.length
        have hcl := clear_len d 0 d.lines.length
        rw [head_eq hcg] at h2
        dsimp only
        rw [head_eq hcg]
        have hp := (puts_done hcg (by decide) (by decide) (by rw [wrds_length, hcl]; omega) (wrds_lt hg.most) h2).1
        refine ⟨hn, rfl, fun k x hk => ?_, ?_, head_holds hcg hc hg.most⟩
        · have := (hp k x hk).1
          rwa [show (0 + 8 * (k : Int)).toNat = 8 * k by omega] at this
        · exact (hp 0 465675318387 rfl).2
      · rw [if_neg h2] at he; exact absurd he h2
    · rw [if_neg h1] at he; exact absurd he h1
  · rw [if_neg hn] at he; exact absurd he (show ¬ (2 : Int) = 0 by decide)
theorem format_goes {d : Dv} (hg : d.Good) (hn : 19 ≤ d.lines.length) (hl : d.left < 0) : d.format.2.1 = 0 ∧ d.format.1.left < 0 := by
  have hc := runL_goes (n := d.lines.length) (puts 0 (List.replicate (8 * d.lines.length) 0)) (d := d) (puts_fits0 (by rw [List.length_replicate]; omega)) rfl (.inl hl)
  rw [← clear_eq hg, if_pos hl] at hc
  have hcg := clear_good hg 0 d.lines.length
  have hcl := clear_len d 0 d.lines.length
  have hp := runL_goes (n := d.lines.length) (puts 0 (wrds d.lines.length)) (d := (d.clear 0 d.lines.length).1) (puts_fits0 (by rw [wrds_length]; omega)) hcl (.inl (by rw [hc.2.1]; exact hl))
  rw [← head_eq hcg, if_pos (by rw [hc.2.1]; exact hl)] at hp
  unfold Dv.format
  rw [if_pos hn, if_pos hc.1, if_pos hp.1]
  exact ⟨rfl, by dsimp only; rw [hp.2.1, hc.2.1]; exact hl⟩
theorem format_no {d : Dv} (hn : ¬ 19 ≤ d.lines.length) : d.format = (d, 2, Sh.zero) := if_neg hn
theorem format_err {d : Dv} (he : d.format.2.1 ≠ 0) : d.format.2.2 = Sh.zero := by
  unfold Dv.format at he ⊢
  split
  · split
    · split
      · rename_i h1 h2 h3
        rw [if_pos h1, if_pos h2, if_pos h3] at he
        exact absurd rfl he
      · rfl
    · rfl
  · rfl
/-- Words one by one, and all of them. -/
theorem head_words {d : Dv} (h1 : 1 ≤ d.lines.length) (hl : d.left ≠ 0) {w : List Nat} (hw8 : w.length = 8) (hw : ∀ k x, w[k]? = some x → d.word (8 * k) = x) : d.words 0 8 = w := by
  have hr : d.room 0 (8 : Nat) = 0 := room_zero.2 ⟨by omega, by omega, by omega, by omega⟩
  apply List.ext_getElem?
  intro i
  by_cases hi : i < 8
  · rw [words_eq hr hl i hi]
    obtain ⟨x, hx⟩ : ∃ x, w[i]? = some x := ⟨_, List.getElem?_eq_getElem (by omega)⟩
    rw [hx, show (0 + 8 * (i : Int)).toNat = 8 * i by omega, hw i x hx]
  · rw [List.getElem?_eq_none (by rw [words_length]; omega), List.getElem?_eq_none (by omega)]
theorem head_all {d : Dv} (h1 : 1 ≤ d.lines.length) {w : List Nat} (hw8 : w.length = 8) (hw : ∀ k x, w[k]? = some x → d.word (8 * k) = x) (hh : Holds Q0 d) : d.all = w ++ List.replicate (8 * d.lines.length - 8) 0 := by
  apply List.ext_getElem?
  intro i
  by_cases hi : i < 8 * d.lines.length
  · have hL : d.all[i]? = some (d.word (8 * i)) := by
      unfold Dv.all
      rw [List.getElem?_map, List.getElem?_range hi]; rfl
    rw [hL]
    by_cases h8 : i < 8
    · obtain ⟨x, hx⟩ : ∃ x, w[i]? = some x := ⟨_, List.getElem?_eq_getElem (by omega)⟩
      rw [List.getElem?_append_left (by omega), hx, hw i x hx]
    · rw [List.getElem?_append_right (by omega), List.getElem?_replicate, if_pos (by omega)]
      rcases hh.word (8 * i) (by omega) (by omega) with h | h
      · omega
      · rw [h]
  · rw [List.getElem?_eq_none (by rw [all_length]; omega), List.getElem?_eq_none (by rw [List.length_append, List.length_replicate]; omega)]
theorem opens_yes {d : Dv} (hn : 19 ≤ d.lines.length) (hl : d.left ≠ 0) (hw : ∀ k x, (wrds d.lines.length)[k]? = some x → d.word (8 * k) = x) : d.opens = (Sh.at d.lines.length, 0) := by
  unfold Dv.opens
  rw [if_pos ⟨hn, head_words (by omega) hl (wrds_length _) hw⟩]
/-- Behind a crash. -/
theorem crash_head {d : Dv} (hn : 19 ≤ d.lines.length) (hw : ∀ k x, (wrds d.lines.length)[k]? = some x → d.word (8 * k) = x) (h0 : (d.at 0).over = []) (ps : List Int) :
    ∀ k x, (wrds d.lines.length)[k]? = some x → (d.crash ps).word (8 * k) = x := by
  intro k x hk
  have hk8 := (List.getElem?_eq_some_iff.1 hk).1
  rw [wrds_length] at hk8
  rw [crash_word ps (8 * k) (by omega) (by rw [show 8 * k / 64 = 0 by omega]; exact h0)]
  exact hw k x hk
theorem opens_form (d : Dv) : d.opens = (Sh.at d.lines.length, 0) ∧ 19 ≤ d.lines.length ∨ d.opens = (Sh.zero, 5) := by
  unfold Dv.opens
  split
  · rename_i h; exact .inl ⟨rfl, h.1⟩
  · exact .inr rfl
end Go.Proofs.YtmelmiookkeoaaaDoor.V
