
/- PoolFills: what filling leaves, by reckoning over one to four slabs; the walk. -/
import Derived.Test.YtaceogpdjbikiaaGreatDoorPoU
namespace Go.Proofs.YtaceogpdjbikiaaGreatDoor

open Go.RowKit

/-- The reserved words behind k small blocks. -/
def fill7 (s k : Nat) : List Nat := (List.range s).map fun i => if k ≤ 16 * i then 0 else 65536 + (2 ^ min 16 (k - 16 * i) - 1)
def one7 (s j : Nat) : List Nat := (fill7 s (16 * s)).set (j / 16) (S.drW ((fill7 s (16 * s)).getD (j / 16) 0) ((j % 16 : Nat) : Int))
theorem fill_rsv : ∀ s, s < 5 → ∀ k, k < 16 * s → rsv 192 (List.replicate s 0) (fill7 s k) 1 = (fill7 s (k + 1), ((192 + 64 * k : Nat) : Int), 0) := by decide +kernel
theorem full_rsv : ∀ s, s < 5 → rsv 192 (List.replicate s 0) (fill7 s (16 * s)) 1 = (fill7 s (16 * s), 0, 6) := by decide +kernel
theorem one_rsv : ∀ s, s < 5 → ∀ j, j < 16 * s → rsv 192 (List.replicate s 0) (one7 s j) 1 = (fill7 s (16 * s), ((192 + 64 * j : Nat) : Int), 0) := by decide +kernel
theorem one_count : ∀ s, s < 5 → ∀ j, j < 16 * s → P.count (one7 s j) s = 16 * s - 1 := by decide +kernel
theorem full_find : ∀ s, s < 5 → ∀ j, j < 16 * s → P.FindIs 192 (fill7 s (16 * s)) ((192 + 64 * j : Nat) : Int) (j / 16) (j % 16) := by unfold P.FindIs; decide +kernel
theorem fill_zero : ∀ s, s < 5 → fill7 s 0 = List.replicate s 0 := by decide +kernel
theorem fill_all : ∀ s, s < 5 → P.all 192 (List.replicate s 0) s = [] := by decide +kernel
theorem fill_sh : ∀ s, s < 5 → 1 ≤ s → V.Sh.at (3 + 16 * s) = ⟨((3 + 16 * s : Nat) : Int), (s : Int), 128, 192⟩ ∧ V.slabs (3 + 16 * s) = s := by decide +kernel
theorem full_drop (d : V.Dv) (sh : V.Sh) (s : Nat) (hs : s < 5) (j : Nat) (hj : j < 16 * s) : dropR d sh 192 (List.replicate s 0) (fill7 s (16 * s)) ((192 + 64 * j : Nat) : Int) = (d, List.replicate s 0, one7 s j, 0) := by
  unfold dropR
  rw [P.find_some (full_find s hs j hj)]
  rfl
theorem lines_any (n : Nat) (w : World) (hn : n ≤ 255) : Calls Tryz.prog 7 #[.int .u8 (n : Int)] w fun e w' => e = .returned (.int .i64 ((3 + 16 * (1 + n % 4) : Nat) : Int)) ∧ w = w' := by
  obtain ⟨m, hm⟩ : ∃ m, n % 4 = m := ⟨_, rfl⟩
  have hm4 : m < 4 := by omega
  have e1 : (n : Int) % 4 = (m : Int) := by omega
  have HE : Hid (((3 + 16 * (1 + n % 4) : Nat) : Int) = 3 + 16 * (1 + (m : Int))) := by show _ = _; rw [hm]; omega
  rw [HE.out]
  clear hm
  go_enter Tryz.func7, Tryz.ntmps7
  go_wp2
  go_ret
  exact ⟨rfl, rfl⟩
/-- The shape's own cells, in a block. -/
def shObj (a b c d : Int) : Obj := .cells #[.int .i64 a, .int .i64 b, .int .i64 c, .int .i64 d] 60 (0, 0)

end Go.Proofs.YtaceogpdjbikiaaGreatDoor
