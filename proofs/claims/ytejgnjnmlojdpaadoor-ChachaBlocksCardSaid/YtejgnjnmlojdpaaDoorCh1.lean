/-
  The small functions of package chacha and of the document's own, each by its contract: turning, the quarter round, four bytes as a number, a number as four bytes. Conditions: the numbers fit their kinds.
-/
import Derived.Test.YtejgnjnmlojdpaaDoorRows
import Derived.Test.YtejgnjnmlojdpaaDoorHelp
import Derived.Test.YtejgnjnmlojdpaaDoorCc3
import Derived.Test.YtejgnjnmlojdpaaDoorArr
import Derived.WalkLawsBesides
import Derived.IntWalk
namespace Go.Proofs.YtejgnjnmlojdpaaDoor.Cha
open Go.RowKit Go.Proofs.YtejgnjnmlojdpaaDoor.Mem Go.Proofs.YtejgnjnmlojdpaaDoor.Help Go.Proofs.YtejgnjnmlojdpaaDoor.Sum Go.Proofs.YtejgnjnmlojdpaaDoor.Cc
set_option linter.unusedVariables false
attribute [local irreducible] wpList wpListIn

theorem wf_byte {z : Int} (h : 0 ≤ z ∧ z ≤ 255) : (Lit.int .u8 z).wf = true := by simp [Lit.wf, IntKind.min, IntKind.max, IntKind.signed, IntKind.bits]; omega
theorem mask_p : ∀ p : Fin 32, (p.val &&& 31) = p.val := by decide +kernel

theorem lft_any (x : Int) (p : Nat) (w : World) (hx : R32 x) (hk : 1 ≤ p) (hk' : p ≤ 31) :
    Calls Tryd.prog 20 #[.int .u32 x, .int .i64 (p : Int)] w fun e w' => e = .returned (.int .u32 (lft x p)) ∧ w = w' := by
  have h2 : bits .and .u64 (p : Int) 31 = (p : Int) := by
    rw [u64_and _ _ (by omega) (by omega) (by omega) (by omega)]
    have e := mask_p ⟨p, by omega⟩
    simp only at e
    have e2 : (31 : Int).toNat = 31 := rfl
    rw [Int.toNat_natCast, e2, e]
  have e3 : 32 - (32 - p) = p := by omega
  have H : Hid (bits .or .u32 (x * 2 ^ p % 4294967296) (x / 2 ^ (32 - p)) = lft x p) := Lib.hid (by
    unfold lft rotI
    rw [e3]
    exact or_comm32 ⟨by omega, by omega⟩ (r32_shr hx (32 - p)))
  clear e3
  go_enter Tryd.func20, Tryd.ntmps20
  go_wp2
  go_ret
  exact ⟨ret_int H.out, rfl⟩
theorem rleft_any (x : Int) (p : Nat) (w : World) (hx : R32 x) (hk : 1 ≤ p) (hk' : p ≤ 31) :
    Calls Tryd.prog 21 #[.int .u32 x, .int .i64 (p : Int)] w fun e w' => e = .returned (.int .u32 (lft x p)) ∧ w = w' := by
  have e3 : 32 - (32 - p) = p := by omega
  have H : Hid (bits .or .u32 (x * 2 ^ p % 4294967296) (x / 2 ^ (32 - p)) = lft x p) := Lib.hid (by
    unfold lft rotI
    rw [e3]
    exact or_comm32 ⟨by omega, by omega⟩ (r32_shr hx (32 - p)))
  clear e3
  go_enter Tryd.func21, Tryd.ntmps21
  go_wp2
  go_ret
  exact ⟨ret_int H.out, rfl⟩
end Go.Proofs.YtejgnjnmlojdpaaDoor.Cha

