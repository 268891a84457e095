
/- Layer 7: the contracts for a pool beside its device; two pools of one device; the statements' own 'alive'. -/
import Derived.Test.YtaceogpdjbikiaaGreatDoorPoS
namespace Go.Proofs.YtaceogpdjbikiaaGreatDoor

open Go.RowKit

theorem rsv_good {ws xs : List Nat} (hg : Good7 ws xs) (da : Nat) (c : Int) : Good7 ws (rsv da ws xs c).1 := by
  unfold rsv
  split
  · rename_i hc
    split
    · rename_i i hi
      obtain ⟨h1, h2⟩ := P.pick_some hi
      rw [both_len] at h1
      rw [both_get h1] at h2
      obtain ⟨b, b1, _, b3, _⟩ := held_of hg h1 hc h2
      rw [b1]; exact b3
    · exact hg
  · exact hg
/-- A pool that is only read. -/
def PoolR (pv : Value) (p : Option Addr) (sh : V.Sh) (ws xs K : List Nat) (w : World) : Prop := ∃ y, pv = .pointer (some ⟨y.P, 0, none⟩) ∧ K = kfoot y ws.length ∧ PoAt w y (.pointer p) sh ws xs ∧ Good7 ws xs
section

variable {w0 w w' : World} {pv : Value} {a : Addr} {d : V.Dv} {sh : V.Sh} {ws xs X K : List Nat} {da : Nat} {p : Option Addr}

theorem PoolR.keep (h : PoolR pv p sh ws xs K w) (hk : KeepB K w w') : PoolR pv p sh ws xs K w' := by
  obtain ⟨y, h1, rfl, h3, h4⟩ := h
  exact ⟨y, h1, rfl, h3.keep hk, h4⟩
theorem PoolR.below (h : PoolR pv p sh ws xs K w) (hb : Below w.heap.size w w') : PoolR pv p sh ws xs K w' := by
  obtain ⟨y, h1, rfl, h3, h4⟩ := h
  exact ⟨y, h1, rfl, h3.below hb, h4⟩
theorem PoolK.reads (h : PoolK w0 pv p d sh ws xs X w) : ∃ K, PoolR pv p sh ws xs K w := by
  obtain ⟨y, h1, h2, h3, h4, _⟩ := h
  exact ⟨_, y, h1, rfl, h2, h4⟩
theorem r_all (h : PoolR pv (some a) sh ws xs K w) (hs : ShOk sh da) : Calls Tryz.prog 19 #[pv] w (LsPost w (P.all da ws ws.length)) := by
  obtain ⟨y, rfl, rfl, h3, h4⟩ := h
  exact po_all h3 hs h4
theorem r_held (h : PoolR pv (some a) sh ws xs K w) : Calls Tryz.prog 16 #[pv] w fun e w' => e = .returned (.int .i64 (P.count xs ws.length : Nat)) ∧ Below w.heap.size w w' := by
  obtain ⟨y, rfl, rfl, h3, h4⟩ := h
  exact po_held h3 h4
theorem r_class (h : PoolR pv (some a) sh ws xs K w) (hs : ShOk sh da) (x : Int) (hx : I64 x) : Calls Tryz.prog 28 #[pv, .int .i64 x] w fun e w' => e = .returned (.int .i64 (clsOf da ws x : Nat)) ∧ Below w.heap.size w w' := by
  obtain ⟨y, rfl, rfl, h3, h4⟩ := h
  exact po_class h3 hs h4 x hx
theorem r_shape (h : PoolR pv (some a) sh ws xs K w) : Calls Tryz.prog 24 #[pv] w fun e w' => e = .returned (shV sh) ∧ Below w.heap.size w w' := by
  obtain ⟨y, rfl, rfl, h3, h4⟩ := h
  exact po_shape h3
theorem k_all (h : PoolK w0 pv (some a) d sh ws xs X w) (hs : ShOk sh da) : Calls Tryz.prog 19 #[pv] w fun e w' => LsPost w (P.all da ws ws.length) e w' ∧ PoolK w0 pv (some a) d sh ws xs X w' ∧ KeepB X w w' := by
  obtain ⟨K, hr⟩ := h.reads
  refine (r_all hr hs).mono ?_
  rintro e w' ⟨A, c, h1, h2, h3⟩
  exact ⟨⟨A, c, h1, h2, h3⟩, h.same h3, fun k hk => h3.block k (h.xlt k hk)⟩
theorem k_held (h : PoolK w0 pv (some a) d sh ws xs X w) : Calls Tryz.prog 16 #[pv] w fun e w' => e = .returned (.int .i64 (P.count xs ws.length : Nat)) ∧ PoolK w0 pv (some a) d sh ws xs X w' ∧ KeepB X w w' := by
  obtain ⟨K, hr⟩ := h.reads
  exact (r_held hr).mono fun e w' ⟨h1, h3⟩ => ⟨h1, h.same h3, fun k hk => h3.block k (h.xlt k hk)⟩
theorem k_class (h : PoolK w0 pv (some a) d sh ws xs X w) (hs : ShOk sh da) (x : Int) (hx : I64 x) : Calls Tryz.prog 28 #[pv, .int .i64 x] w fun e w' => e = .returned (.int .i64 (clsOf da ws x : Nat)) ∧ PoolK w0 pv (some a) d sh ws xs X w' ∧ KeepB X w w' := by
  obtain ⟨K, hr⟩ := h.reads
  exact (r_class hr hs x hx).mono fun e w' ⟨h1, h3⟩ => ⟨h1, h.same h3, fun k hk => h3.block k (h.xlt k hk)⟩
theorem k_shape (h : PoolK w0 pv (some a) d sh ws xs X w) : Calls Tryz.prog 24 #[pv] w fun e w' => e = .returned (shV sh) ∧ PoolK w0 pv (some a) d sh ws xs X w' ∧ Below w.heap.size w w' := by
  obtain ⟨K, hr⟩ := h.reads
  exact (r_shape hr).mono fun e w' ⟨h1, h3⟩ => ⟨h1, h.same h3, h3⟩
/-- What Reserve leaves, beside the device. -/
def RkPost (w0 : World) (pv : Value) (p : Option Addr) (d : V.Dv) (sh : V.Sh) (ws X : List Nat) (w : World) (r : List Nat × Int × Int) (e : Ending) (w' : World) : Prop :=
  e = .returned (.tuple #[.int .i64 r.2.1, .int .i64 r.2.2]) ∧ PoolK w0 pv p d sh ws r.1 X w' ∧ KeepB X w w'
theorem k_reserve (h : PoolK w0 pv (some a) d sh ws xs X w) (hs : ShOk sh da) (hT : Tab7 w0) (c : Int) : Calls Tryz.prog 10 #[pv, .int .i64 c] w (RkPost w0 pv (some a) d sh ws X w (rsv da ws xs c)) := by
  obtain ⟨y, rfl, h2, h3, h4, h5, h6, h7⟩ := h
  have hT' : Tab7 w := hT.block (h5.devIn.below.block _ hT.lt)
  refine (po_reserve h2 hs h4 h3 hT' (fun hm => by have := h7 _ hm; have := hT.lt; omega) c).mono ?_
  rintro e w' ⟨he, hst⟩
  obtain ⟨r1, r2⟩ := pool_step rfl h2.lt h5 h6 h7 rfl (rsv_good h4 da c) hst
  exact ⟨he, r1, r2⟩
theorem k_crash7 (h : PoolK w0 pv p d sh ws xs X w) (A : Option Addr) (len cap : Nat) (zs : List Int) (hp : IsBytes w0 (.slice A len cap) zs) (hA : zs ≠ [] → ∀ b, A = some b → b.block < w0.heap.size) (hs : d.steps ≤ 1000000000) :
    Calls Tryz.prog 22 #[.pointer p, .slice A len cap] w fun e w' => e = .returned (.tuple #[]) ∧ PoolK w0 pv p (d.crash zs) sh ws xs X w' ∧ KeepB X w w' := by
  have hb := h.below0
  obtain ⟨y, rfl, h2, h3, h4, h5, h6, h7⟩ := h
  have hlo : ∀ F, Dev w (.pointer p) d F → (∀ k ∈ F, w0.heap.size ≤ k) → Calls Tryz.prog 22 #[.pointer p, .slice A len cap] w fun e w' => e = .returned (.tuple #[]) ∧ DevStep w (.pointer p) (d.crash zs) F w' := fun F hd hF =>
    dev_crash hd A len cap zs (hp.below hb) (fun hz b e hf => by have := hA hz b e; have := hF _ hf; omega) hs
  obtain ⟨F, k1, k2, k3, k4⟩ := h5
  refine (hlo F k1 k2).mono ?_
  rintro e w' ⟨he, F', f1, f2, f3⟩
  have hkk : ∀ k ∈ X ++ kfoot y ws.length, w'.heap[k]? = w.heap[k]? := fun k hk => f2.block k (k4 k hk).2 (k4 k hk).1
  refine ⟨he, ⟨y, rfl, h2.keep (fun k hk => hkk k (List.mem_append_right _ hk)), h3, h4, ⟨F', f1, fun k hk => ?_, k3.trans (f2.below k3.size k2), fun k hk => ⟨fun hf => ?_, Nat.lt_of_lt_of_le (k4 k hk).2 f2.size⟩⟩, h6, h7⟩, fun k hk => hkk k (List.mem_append_left _ hk)⟩
  · rcases f3 k hk with e | e
    · exact k2 k e
    · exact Nat.le_trans k3.size e
  · rcases f3 k hf with e | e
    · exact (k4 k hk).1 e
    · have := (k4 k hk).2; omega
/-- A second pool of the device: the first one stays, to be read. -/
theorem k_open (h : PoolK w0 pv p d sh ws xs X w) (hleft : d.left ≠ 0) (hT : TabT w0) (hg : 0 < w0.heap.size) :
    Calls Tryz.prog 23 #[.pointer p] w fun e w' => ∃ K, PoolR pv p sh ws xs K w' ∧ OpnPost w0 p d (X ++ K) w e w' := by
  obtain ⟨y, rfl, h2, h3, h4, h5, h6, h7⟩ := h
  refine (po_open h5 hleft hT hg).mono ?_
  rintro e w' hp
  exact ⟨_, ⟨y, rfl, rfl, h2.below hp.1, h4⟩, hp⟩
end

/-! ### alive -/
def E0 : V.Dv := (V.newDv 19).format.1
def E1 : V.Dv := (E0.put 128 65537).1
def E2 : V.Dv := E1.crash []
def E3 : V.Dv := (E2.put 128 0).1
theorem e_sh : V.Sh.at 19 = ⟨19, 1, 128, 192⟩ ∧ V.slabs 19 = 1 := by decide +kernel
theorem e_one : (E0.put 128 65537).2 = 0 ∧ E2.opens.2 = 0 ∧ E2.left ≠ 0 ∧ tableOf E2 = [65537] ∧ E2.lines.length = 19 ∧ (E2.put 128 0).2 = 0 ∧ E0.steps ≤ 1000000 ∧ E1.steps ≤ 1000000 ∧ E2.steps ≤ 1000000 ∧ E3.steps ≤ 1000000 := by decide +kernel
theorem e_rsv : rsv 192 [0] [0] 1 = ([65537], 192, 0) ∧ rsv 192 [0] [65537] 2 = ([65537], 0, 6) := by decide +kernel
theorem sh19 : ShOk ⟨19, 1, 128, 192⟩ 192 := ⟨rfl, by decide, by decide⟩
theorem e_find : P.find 192 [65537] 192 = some (0, 0) := P.find_some ⟨by decide, by decide, by decide⟩
theorem e_find0 : P.find 192 [0] 192 = none := P.find_none (fun i b h => by
  have h1 := h.2.1
  have hi : i = 0 := by have := h.1; simp at this; exact this
  rw [hi] at h1
  simp [show S.tkn 0 = 0 from rfl] at h1)
theorem e_take : takeR E0 ⟨19, 1, 128, 192⟩ 192 [0] [65537] 192 = (E1, [65537], [0], 0) := by
  unfold takeR
  rw [e_find]
  dsimp only
  have h1 : S.tkW ([0].getD 0 0) (S.cls (used [0] [65537] 0) : Int) ((0 : Nat) : Int) = 65537 := by decide
  have h2 : S.drW ([65537].getD 0 0) ((0 : Nat) : Int) = 0 := by decide
  rw [h1, h2, show (128 : Int) + 8 * ((0 : Nat) : Int) = 128 from rfl, if_pos e_one.1]
  rfl
theorem e_drop : dropR E2 ⟨19, 1, 128, 192⟩ 192 [65537] [0] 192 = (E3, [0], [0], 0) := by
  unfold dropR
  rw [e_find0, e_find]
  dsimp only
  have h2 : S.drW ([65537].getD 0 0) ((0 : Nat) : Int) = 0 := by decide
  rw [h2, show (128 : Int) + 8 * ((0 : Nat) : Int) = 128 from rfl, if_pos e_one.2.2.2.2.2.1]
  rfl
theorem e_drop2 : dropR E3 ⟨19, 1, 128, 192⟩ 192 [0] [0] 192 = (E3, [0], [0], 7) := by
  unfold dropR
  rw [e_find0]
theorem e_all : P.all 192 [65537] 1 = [192] ∧ P.all 192 [0] 1 = [] ∧ P.count [65537] 1 = 1 ∧ P.count [0] 1 = 0 := by decide
theorem e_cls : clsOf 192 [65537] 192 = 1 := by
  unfold clsOf
  rw [e_find]; decide
end Go.Proofs.YtaceogpdjbikiaaGreatDoor
