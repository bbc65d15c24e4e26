/-
  The small functions of package sha and of the document's own, each by its contract: what it returns for any numbers. Conditions: the numbers fit their kinds.
-/
import Derived.Test.YtbfdhbobokfbhaaDoorRows
import Derived.Test.YtbfdhbobokfbhaaDoorHelp
import Derived.Test.YtbfdhbobokfbhaaDoorSum
import Derived.WalkLawsBesides
namespace Go.Proofs.YtbfdhbobokfbhaaDoor.Sha
open Go.RowKit Go.Proofs.YtbfdhbobokfbhaaDoor.Mem Go.Proofs.YtbfdhbobokfbhaaDoor.Help Go.Proofs.YtbfdhbobokfbhaaDoor.Sum
set_option linter.unusedVariables false

theorem mask31 : ∀ p : Fin 32, ((2 ^ 64 - p.val) &&& 31) = (32 - p.val) % 32 := by decide +kernel

theorem rot_any (x : Int) (p : Nat) (w : World) (hx : R32 x) (hk : 1 ≤ p) (hk' : p ≤ 31) :
    Calls Tryd.prog 45 #[.int .u32 x, .int .i64 (-(p : Int))] w fun e w' => e = .returned (.int .u32 (rotI x p)) ∧ w = w' := by
  have h1 : IntKind.u64.wrap (-(p : Int)) = 18446744073709551616 - p := by rw [IntKind.wrap_u64]; omega
  have h2 : bits .and .u64 (18446744073709551616 - (p : Int)) 31 = 32 - (p : Int) := by
    rw [u64_and _ _ (by omega) (by omega) (by omega) (by omega)]
    have e := mask31 ⟨p, by omega⟩
    have e1 : (18446744073709551616 - (p : Int)).toNat = 2 ^ 64 - p := by omega
    have e2 : (31 : Int).toNat = 31 := rfl
    rw [e1, e2]
    simp only at e
    rw [e]
    omega
  have e3 : 32 - (32 - p) = p := by omega
  have H : Hid (bits .or .u32 (x * 2 ^ (32 - p) % 4294967296) (x / 2 ^ (32 - (32 - p))) = rotI x p) := Lib.hid (by
    rw [e3]
    exact or_comm32 ⟨by omega, by omega⟩ (r32_shr hx p))
  clear e3
  go_enter Tryd.func45, Tryd.ntmps45
  go_wp2
  go_ret
  exact ⟨ret_int H.out, rfl⟩

theorem rturn_any (x : Int) (p : Nat) (w : World) (hx : R32 x) (hk : 1 ≤ p) (hk' : p ≤ 31) :
    Calls Tryd.prog 29 #[.int .u32 x, .int .i64 (p : Int)] w fun e w' => e = .returned (.int .u32 (rotI x p)) ∧ w = w' := by
  go_enter Tryd.func29, Tryd.ntmps29
  go_wp2
  go_ret
  exact ⟨rfl, rfl⟩

theorem rturn_i (x P : Int) (w : World) (hx : R32 x) (hk : 1 ≤ P) (hk' : P ≤ 31) :
    Calls Tryd.prog 29 #[.int .u32 x, .int .i64 P] w fun e w' => e = .returned (.int .u32 (rotI x P.toNat)) ∧ w = w' := by
  obtain ⟨p, rfl⟩ := Int.eq_ofNat_of_zero_le (show 0 ≤ P by omega)
  exact rturn_any x p w hx (by omega) (by omega)

theorem turned_any (x : Int) (p q r : Nat) (w : World) (hx : R32 x) (hp : 1 ≤ p ∧ p ≤ 31) (hq : 1 ≤ q ∧ q ≤ 31) (hr : 1 ≤ r ∧ r ≤ 31) :
    Calls Tryd.prog 39 #[.int .u32 x, .int .i64 (p : Int), .int .i64 (q : Int), .int .i64 (r : Int)] w fun e w' => e = .returned (.int .u32 (bigI x p q r)) ∧ w = w' := by
  go_enter Tryd.func39, Tryd.ntmps39
  go_wp2_with fail
  refine (rot_any x p _ hx hp.1 hp.2).mono ?_
  rintro e w' ⟨rfl, rfl⟩
  go_wp2_with fail
  refine (rot_any x q _ hx hq.1 hq.2).mono ?_
  rintro e w' ⟨rfl, rfl⟩
  go_wp2_with fail
  refine (rot_any x r _ hx hr.1 hr.2).mono ?_
  rintro e w' ⟨rfl, rfl⟩
  go_wp2_with fail
  go_ret
  exact ⟨rfl, rfl⟩

theorem shifted_any (x : Int) (p q r : Nat) (w : World) (hx : R32 x) (hp : 1 ≤ p ∧ p ≤ 31) (hq : 1 ≤ q ∧ q ≤ 31) (hr : 1 ≤ r ∧ r ≤ 31) :
    Calls Tryd.prog 42 #[.int .u32 x, .int .i64 (p : Int), .int .i64 (q : Int), .int .u64 (r : Int)] w fun e w' => e = .returned (.int .u32 (smallI x p q r)) ∧ w = w' := by
  have hx1 := hx.1
  have hx2 := hx.2
  go_enter Tryd.func42, Tryd.ntmps42
  go_wp2_with fail
  refine (rot_any x p _ hx hp.1 hp.2).mono ?_
  rintro e w' ⟨rfl, rfl⟩
  go_wp2_with fail
  refine (rot_any x q _ hx hq.1 hq.2).mono ?_
  rintro e w' ⟨rfl, rfl⟩
  go_wp2_with fail
  go_ret
  exact ⟨rfl, rfl⟩

theorem choice_any (x y z : Int) (w : World) :
    Calls Tryd.prog 40 #[.int .u32 x, .int .u32 y, .int .u32 z] w fun e w' => e = .returned (.int .u32 (chI x y z)) ∧ w = w' := by
  go_enter Tryd.func40, Tryd.ntmps40
  go_wp2
  go_ret
  exact ⟨rfl, rfl⟩

theorem majority_any (x y z : Int) (w : World) :
    Calls Tryd.prog 41 #[.int .u32 x, .int .u32 y, .int .u32 z] w fun e w' => e = .returned (.int .u32 (majI x y z)) ∧ w = w' := by
  go_enter Tryd.func41, Tryd.ntmps41
  go_wp2
  go_ret
  exact ⟨rfl, rfl⟩
end Go.Proofs.YtbfdhbobokfbhaaDoor.Sha

