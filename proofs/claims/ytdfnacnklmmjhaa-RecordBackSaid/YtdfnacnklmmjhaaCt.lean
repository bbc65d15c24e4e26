/-
  The functions of package ct, each by its contract: what it returns for any numbers. Conditions: the numbers fit their kinds.
-/
import Derived.Test.YtdfnacnklmmjhaaRows
import Derived.Test.YtdfnacnklmmjhaaBit
import Derived.WalkKit
import Derived.ProofKit
import Derived.OpenShut
import Derived.Lib.Hide
namespace Go.Proofs.Ytdfnacnklmmjhaa.Ct
open Go.RowKit Go.Proofs.Ytdfnacnklmmjhaa.Bit

theorem sub64_nat (x y : Nat) (w : World) : (callFunc 41 #[.int .u64 (x : Int), .int .u64 (y : Int), .int .u64 0]).run Try.prog w =
    .ok (.value (.tuple #[.int .u64 (((x + 18446744073709551616 - y - 0) % 18446744073709551616 : Nat) : Int), .int .u64 ((if x < y + 0 then 1 else 0 : Nat) : Int)])) w := by
  kernel_rfl

theorem sub64_0 (x y : Int) (hx : 0 ≤ x) (hy : 0 ≤ y) (hy' : y < 18446744073709551616) (w : World) : (callFunc 41 #[.int .u64 x, .int .u64 y, .int .u64 0]).run Try.prog w =
    .ok (.value (.tuple #[.int .u64 ((x - y) % 18446744073709551616), .int .u64 (low x y)])) w := by
  obtain ⟨x, rfl⟩ := Int.eq_ofNat_of_zero_le hx
  obtain ⟨y, rfl⟩ := Int.eq_ofNat_of_zero_le hy
  have e1 : (((x + 18446744073709551616 - y - 0) % 18446744073709551616 : Nat) : Int) = ((x : Int) - y) % 18446744073709551616 := by omega
  have e2 : ((if x < y + 0 then 1 else 0 : Nat) : Int) = low x y := by unfold low; split <;> split <;> omega
  rw [← e1, ← e2]
  exact sub64_nat x y w

theorem less_any (x y : Int) (hx : 0 ≤ x) (hy : 0 ≤ y) (hy' : y < 18446744073709551616) (w : World) :
    Calls Try.prog 40 #[.int .u64 x, .int .u64 y] w fun e w' => e = .returned (.int .u64 (low x y)) ∧ w = w' := by
  go_enter Try.func40, Try.ntmps40
  go_wp2_with (simp only [sub64_0 x y hx hy hy'])
  go_ret
  exact ⟨rfl, rfl⟩

theorem ret_int {k : IntKind} {a b : Int} (h : a = b) : Ending.returned (.int k a) = .returned (.int k b) := by rw [h]

theorem below_any (x y : Int) (hx : -9223372036854775808 ≤ x) (hx' : x ≤ 9223372036854775807) (hy : -9223372036854775808 ≤ y) (hy' : y ≤ 9223372036854775807) (w : World) :
    Calls Try.prog 31 #[.int .i64 x, .int .i64 y] w fun e w' => e = .returned (.int .u64 (low x y)) ∧ w = w' := by
  have rx := xor_u64_range (IntKind.u64.wrap x) 9223372036854775808 (by rw [IntKind.wrap_u64]; omega) (by rw [IntKind.wrap_u64]; omega) (by omega) (by omega)
  have ry := xor_u64_range (IntKind.u64.wrap y) 9223372036854775808 (by rw [IntKind.wrap_u64]; omega) (by rw [IntKind.wrap_u64]; omega) (by omega) (by omega)
  go_enter Try.func31, Try.ntmps31
  go_wp2_with fail
  refine (less_any _ _ rx.1 ry.1 ry.2 _).mono ?_
  rintro e w' ⟨rfl, rfl⟩
  go_wp2_with fail
  go_ret
  exact ⟨ret_int (below_eq x y hx hx' hy hy'), rfl⟩

theorem same_any (x y : Int) (hx : 0 ≤ x) (hx' : x < 18446744073709551616) (hy : 0 ≤ y) (hy' : y < 18446744073709551616) (w : World) :
    Calls Try.prog 32 #[.int .u64 x, .int .u64 y] w fun e w' => e = .returned (.int .u64 (alike x y)) ∧ w = w' := by
  go_enter Try.func32, Try.ntmps32
  go_wp2_with fail
  go_ret
  exact ⟨ret_int (same_eq x y hx hx' hy hy'), rfl⟩

theorem pick_any (c x y : Int) (hc : 0 ≤ c) (hc' : c < 18446744073709551616) (hx : 0 ≤ x) (hx' : x < 18446744073709551616) (hy : 0 ≤ y) (hy' : y < 18446744073709551616) (w : World) :
    Calls Try.prog 35 #[.int .u64 c, .int .u64 x, .int .u64 y] w fun e w' => e = .returned (.int .u64 (pickI c x y)) ∧ w = w' := by
  go_enter Try.func35, Try.ntmps35
  go_wp2_with fail
  go_ret
  exact ⟨ret_int (pick_eq c x y hc hc' hx hx' hy hy'), rfl⟩

/-- the number that tells a truth -/
def oneI (b : Bool) : Int := if b = true then 1 else 0
theorem oneI_low (x y : Int) : oneI (decide (x < y)) = low x y := by unfold oneI low; simp
theorem oneI_alike (x y : Int) : oneI (x == y) = alike x y := by unfold oneI alike; simp

end Go.Proofs.Ytdfnacnklmmjhaa.Ct
