/-
  What stands where in a pad: no program here. No conditions.
-/
import Derived.Test.YtmnhdjjedppkmaaDoorSum
namespace Go.Proofs.YtmnhdjjedppkmaaDoor.Sum
open Go.RowKit

theorem pad_get_first (n : Nat) : (padI n).getD 0 0 = 128 := by simp [padI]
theorem pad_get_zero (n : Nat) {i : Nat} (h1 : 1 ≤ i) (h2 : i < 1 + (119 - n % 64) % 64) : (padI n).getD i 0 = 0 := by
  unfold padI
  obtain ⟨j, rfl⟩ : ∃ j, i = j + 1 := ⟨i - 1, by omega⟩
  rw [List.getD_cons_succ, List.getD_eq_getElem?_getD, List.getElem?_append_left (by simp; omega)]
  simp [show j < (119 - n % 64) % 64 by omega]
theorem pad_get_last (n : Nat) {j : Nat} (h : j < 8) : (padI n).getD (1 + (119 - n % 64) % 64 + j) 0 = ((8 * n : Nat) : Int) / 2 ^ (56 - 8 * j) % 256 := by
  unfold padI
  rw [show 1 + (119 - n % 64) % 64 + j = ((119 - n % 64) % 64 + j) + 1 by omega, List.getD_cons_succ, List.getD_eq_getElem?_getD, List.getElem?_append_right (by simp)]
  simp [h]

end Go.Proofs.YtmnhdjjedppkmaaDoor.Sum

