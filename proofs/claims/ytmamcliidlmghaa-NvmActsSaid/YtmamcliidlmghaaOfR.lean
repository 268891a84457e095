/- The reference of layer 3: the contract of Of. -/
import Derived.Test.YtmamcliidlmghaaOfQ
namespace Go.Proofs.Ytmamcliidlmghaa
open Go.RowKit
section
variable {w : World} {F : List Nat}
set_option maxHeartbeats 4000000 in
set_option maxRecDepth 100000 in
theorem rf_of (hF : ∀ k ∈ F, k < w.heap.size) (PA : Option Addr) (pn pc : Nat) (zs : List Int) (hp : IsBytes w (.slice PA pn pc) zs) (h64 : 64 ≤ pn) (h0 : pn % 64 = 0) (hmax : pn ≤ 65536) :
    Calls Try.prog 8 #[.slice PA pn pc] w (RetRef w F (dvOf zs)) := by
  obtain ⟨i0, hi, hz0, hz1, hz2⟩ := info_parts info_u8
  obtain ⟨i5, hi5, hz5, hz6, hz7⟩ := info_parts info_cell
  obtain ⟨hpl, hpc, hpm⟩ := IsInts.len' hp
  unfold maxLen at hpm
  have hz : ∀ z ∈ zs, 0 ≤ z ∧ z ≤ 255 := by obtain ⟨_, _, _, _, _, _, h⟩ := hp; exact byte_range h
  obtain ⟨n, hn⟩ : ∃ n, pn / 64 = n := ⟨_, rfl⟩
  have hn1 : 1 ≤ n := by omega
  have hn2 : n ≤ 1024 := by omega
  have hpn : pn = 64 * n := by omega
  have HQ : Hid (zs.length / 64 = n) := by show _ = _; rw [hpl]; exact hn
  have HPZ := Lib.hid (fun W (hb : Below w.heap.size w W) => (IsInts.below hp hb : IsBytes W (.slice PA pn pc) zs))
  have HL64 : Hid (∀ j, j < n → (lnOf zs j).now.length = 64) := fun j hj => (lnOf_good hz (by omega)).len
  have HWF : Hid (∀ j, j < n → ∀ z ∈ (lnOf zs j).now, (Lit.int .u8 z).wf = true) := fun j hj z h => wf_byte ((lnOf_good hz (i := j) (by omega)).byte z h)
  have HPN := Lib.hid hpn
  have HFF := Lib.hid hF
  have HST : Hid (∀ (a b : Obj), a = .cells #[.slice none 0 0, .bool false, .int .i64 0, .int .i64 0] 31 (0, 0) → b = .cells #[.slice none 0 0, .bool false, .int .i64 (-1), .int .i64 0] 31 (0, 0) → Ofed w F zs 0 (.slice none 0 0) [] ((w.alloc a).alloc b)) := by
    intro a b ha hb
    subst ha hb
    obtain ⟨z0, z1, hbw⟩ := two_new w _ _ _ (Below.refl _ _)
    exact ⟨z0, z1, hbw, rfl, ⟨by simp [rowVals], .inl ⟨rfl, rfl⟩⟩, fun i p hp => by simp at hp⟩
  clear hp hn h0 hpn hF hz
  go_enter Try.func8, Try.ntmps8
  go_wp2_with fail
  go_loopw [4] (fun x wr => ∃ j t : Nat, ∃ v cs, j ≤ n ∧ Hid (t = 64 * j) ∧ x = .int .i64 t ∧ Hid (Ofed w F zs j v cs wr)) (fun x _ => pn - (intOf x).toNat)
  case atStart => exact ⟨0, 0, _, _, by omega, rfl, rfl, HST.out _ _ rfl rfl⟩
  case round =>
    obtain ⟨j, t, v, cs, hj, ht, rfl, ho⟩ := hrel
    have z1 := ho.out.z1
    have z0 := ho.out.z0
    obtain ⟨u, hu⟩ : ∃ u, u = t + 64 := ⟨_, rfl⟩
    have hu1 : (t : Int) + 64 = (u : Int) := by omega
    have ht9 : t ≤ 65536 := by have := ht.out; have := HPN.out; omega
    have hu2 : IntKind.i64.wrap ((t : Int) + 64) = (u : Int) := by rw [IntWalk.i64_in _ (by omega)]; exact hu1
    have hu3 : IntKind.i64.wrap (u : Int) = (u : Int) := IntWalk.i64_in _ (by omega)
    by_cases hlt : j < n
    · have hpn9 : 64 * j + 64 ≤ pn := by have := HPN.out; omega
      obtain ⟨b, o, rfl, hline⟩ := bytes_line (HPZ.out wr ho.out.bw) j hpn9
      rw [← ht.out] at hline
      rw [← ht.out] at hpn9
      have HZ : Hid (IsBytes (wr.alloc (.cells #[] 5)) (.slice (some ⟨b, o + t, none⟩) 64 (pc - t)) (lnOf zs j).now) := IsInts.below hline ((Below.refl _ _).alloc (Nat.le_refl _) _)
      have HOW0 : Hid ((wr.alloc (.cells #[] 5)).ownsRow wr.heap.size 5 1 (.slice (some ⟨wr.heap.size, 0, none⟩) 0 0) 0 (([] : List Int).map (Value.int .u8))) := World.ownsRow_made wr #[] 0 (Nat.le_refl _) (by decide) rfl
      have HWJ := Lib.hid (HWF.out j hlt); have HLJ := Lib.hid (HL64.out j hlt)
      have hut : u - t = 64 := by omega
      have htu : (t : Int) ≤ (u : Int) := by omega
      have htu2 : t ≤ u := by omega
      have hup : (u : Int) ≤ (pn : Int) := by omega
      have hupc : (u : Int) ≤ (pc : Int) := by omega
      have hupd : u ≤ pc := by omega
      have hne : ¬ pc = t := by omega
      have hwl : w.heap.size + 1 < wr.heap.size := (Array.getElem?_eq_some_iff.1 z1).1
      have HU := Lib.hid hu
      clear hline hpn9 z0 z1 hu
      go_wp2_with (at_builtin; refine wpList_append_ints rfl (.tmp 14) (.tmp 19) 22 rfl .u8 wr.heap.size 5 i0 _ 1 Try.underlying22 hi hz0 hz1 hz2 rfl _ _ _ rfl HOW0.out _ 64 _ _ rfl HZ.out (by unfold maxLen; omega) (by omega) (by simp) ?_)
      intro v3 w3 hown3 hgrow
      have hown3' : w3.ownsRow wr.heap.size 5 1 v3 64 ((lnOf zs j).now.map (Value.int .u8)) := by simpa using hown3
      have hb3 : Below wr.heap.size wr w3 := ((Below.refl _ _).alloc (Nat.le_refl _) _).grown hgrow (by simp) (fun k hk => by simp only [Value.ownBlock, Option.some.injEq] at hk; omega)
      rcases hown3'.2 with ⟨_, h0⟩ | ⟨g, c, cur, rfl, hgb, hgl, hgc, hcm, _⟩
      · omega
      have HZ3 : Hid (IsBytes w3 (.slice (some ⟨g, 0, none⟩) 64 c) (lnOf zs j).now) := IsInts.of_own hown3' HWJ.out
      have z1 := (hb3.block (w.heap.size + 1) hwl).trans ho.out.z1
      obtain ⟨⟨x0, x1, x2, x3⟩, _⟩ := four z1
      have HG : Hid (wr.heap.size ≤ g ∧ g < w3.heap.size) := ⟨hgb, (Array.getElem?_eq_some_iff.1 hgl).1⟩
      have HB3 := Lib.hid hb3
      have hs3 := hb3.size
      have HOW4 : Hid (∀ a b : Obj, ((w3.alloc a).alloc b).ownsRow (w.heap.size + 2) 68 2 v j (rowVals cs)) := fun a b =>
        owns_only (F := []) ho.out.own (Only.of_below ((hb3.alloc hs3 _).alloc (by simp; omega) _)) (fun _ _ hk => by cases hk)
      have HN4 : Hid (∀ (a : Obj) (x y : Value) (j : Nat) (u : Value), ([x, y] : List Value)[j]? = some u → ((w3.alloc a).alloc (.cells #[x, y] 68)).cell? ((⟨w3.heap.size + 1, 0, none⟩ : Addr).add j) = some u) := fun a x y j u hu => by
        have h := cell_two_new (w3.alloc a) x y 68 j u hu
        simpa using h
      clear hown3 hown3' hgrow hgb hgl hb3 z1 HOW0
      go_wp2_with (at_builtin; refine wpList_append_own_at _ rfl (.tmp 22) (.tmp 26) 29 rfl (w.heap.size + 2) 68 i5 _ 2 32 Try.underlying29 hi5 hz5 hz6 hz7 rfl (by decide) _ _ _ rfl (HOW4.out _ _) ⟨w3.heap.size + 1, 0, none⟩ 1 1 [.slice (some ⟨w3.heap.size, 0, none⟩) 1 1, .int .i64 (-1)] rfl rfl (HN4.out _ _ _) (fun x hx => by rcases List.mem_cons.1 hx with rfl | hx; rfl; obtain rfl := List.mem_singleton.1 hx; rfl) (by unfold maxLen; omega) (by omega) (by simp; omega) ?_)
      intro v4 w4 hown4 hgrow hnil hat
      obtain ⟨g4, c4, rfl, hg4⟩ := own_some hown4 hnil
      have HNX := Lib.hid (ho.out.next HFF.out HB3.out HZ3.out HLJ.out HG.out.1 HG.out.2 hown4 hgrow (by simpa using hat))
      have hvb : ∀ k, v.ownBlock = some k → w.heap.size + 2 ≤ k := fun k e => owns_block ho.out.own k e
      have z1 : w4.heap[w.heap.size + 1]? = some (.cells #[v, .bool false, .int .i64 (-1), .int .i64 0] 31 (0, 0)) :=
        (hgrow.block _ (by simp; omega) (fun e => by have := hvb _ e.symm; omega)).trans ((Below.heap_alloc _ _ _ (by simp; omega)).trans ((Below.heap_alloc _ _ _ (by omega)).trans ((HB3.out.block _ hwl).trans ho.out.z1)))
      obtain ⟨⟨x0, x1, x2, x3⟩, ⟨e0, e1, e2, e3⟩⟩ := four z1
      clear hown4 hgrow hnil hat hvb z1 HOW4 HN4 hg4
      go_wp2
      go_roundw
      case rel => exact ⟨j + 1, u, _, _, by omega, by show u = _; rw [HU.out, ht.out]; omega, by go_num, HNX⟩
      case measure => simp [intOf]; omega
    · obtain rfl : j = n := by omega
      have htp : t = pn := by rw [ht.out, HPN.out]
      have hup : ¬ ((u : Int) ≤ (pn : Int)) := by omega
      have hvl := ho.out.own
      rcases hvl.2 with ⟨_, h0⟩ | ⟨C, cap, cur, rfl, _, hgl, hnc, hcm, _⟩
      · omega
      have hcm' : cap ≤ 2 ^ 63 - 1 := hcm
      obtain ⟨⟨x0, x1, x2, x3⟩, _⟩ := four z1
      obtain ⟨⟨y0, y1, y2, y3⟩, ⟨e0, e1, e2, e3⟩⟩ := four z0
      have HREF : Hid (∀ v0 v1 v2 v3 : Value, RefAt ((((wr.setCell ⟨w.heap.size, 0, none⟩ v0).setCell ⟨w.heap.size, 1, none⟩ v1).setCell ⟨w.heap.size, 2, none⟩ v2).setCell ⟨w.heap.size, 3, none⟩ v3) F (.agg #[.slice (some ⟨C, 0, none⟩) j cap, .bool false, .int .i64 (-1), .int .i64 0]) (dvOf zs) ∧ Below w.heap.size w ((((wr.setCell ⟨w.heap.size, 0, none⟩ v0).setCell ⟨w.heap.size, 1, none⟩ v1).setCell ⟨w.heap.size, 2, none⟩ v2).setCell ⟨w.heap.size, 3, none⟩ v3)) := by
        intro v0 v1 v2 v3
        have h1 : ∀ (W : World) i v, Only [w.heap.size] W (W.setCell ⟨w.heap.size, i, none⟩ v) := fun W i v => Only.setCell W ⟨w.heap.size, i, none⟩ v
        exact ho.out.ref HFF.out HQ.out ((((h1 _ _ _).trans' (h1 _ _ _)).trans' (h1 _ _ _)).trans' (h1 _ _ _))
      clear hu z0 z1 hgl hvl htp hcm hlt
      go_wp2
      exact bodyPost_ret (v := .agg #[.slice (some ⟨C, 0, none⟩) j cap, .bool false, .int .i64 (-1), .int .i64 0]) (by simp [results, Try.results8, go_sem, y0, y1, y2, y3]) rfl ⟨_, rfl, (HREF.out _ _ _ _).1, (HREF.out _ _ _ _).2⟩
end
end Go.Proofs.Ytmamcliidlmghaa
