/-
  The quarter round, of package chacha and of the document's own, each by its contract. No conditions beyond those stated.
-/
import Derived.Test.YtejgnjnmlojdpaaDoorCh1
namespace Go.Proofs.YtejgnjnmlojdpaaDoor.Cha
open Go.RowKit Go.Proofs.YtejgnjnmlojdpaaDoor.Mem Go.Proofs.YtejgnjnmlojdpaaDoor.Help Go.Proofs.YtejgnjnmlojdpaaDoor.Sum Go.Proofs.YtejgnjnmlojdpaaDoor.Cc
set_option linter.unusedVariables false
attribute [local irreducible] wpList wpListIn
theorem lft_16 (x : Int) (w : World) (hx : R32 x) : Calls Tryd.prog 20 #[.int .u32 x, .int .i64 16] w fun e w' => e = .returned (.int .u32 (lft x 16)) ∧ w = w' := lft_any x 16 w hx (by omega) (by omega)
theorem lft_12 (x : Int) (w : World) (hx : R32 x) : Calls Tryd.prog 20 #[.int .u32 x, .int .i64 12] w fun e w' => e = .returned (.int .u32 (lft x 12)) ∧ w = w' := lft_any x 12 w hx (by omega) (by omega)
theorem lft_8 (x : Int) (w : World) (hx : R32 x) : Calls Tryd.prog 20 #[.int .u32 x, .int .i64 8] w fun e w' => e = .returned (.int .u32 (lft x 8)) ∧ w = w' := lft_any x 8 w hx (by omega) (by omega)
theorem lft_7 (x : Int) (w : World) (hx : R32 x) : Calls Tryd.prog 20 #[.int .u32 x, .int .i64 7] w fun e w' => e = .returned (.int .u32 (lft x 7)) ∧ w = w' := lft_any x 7 w hx (by omega) (by omega)
theorem results_tmp4 {fn : Func} {t u v x : Tmp} (h : fn.results = #[.tmp t, .tmp u, .tmp v, .tmp x]) (tmps : Array Value) (P : Program) (w : World) :
    (results fn tmps).run P w = .ok (.tuple #[tmps.getD t undef, tmps.getD u undef, tmps.getD v undef, tmps.getD x undef]) w := by
  simp [results, h]
theorem addI3 (a b c : Int) : (a + b + c) % 4294967296 = addI (addI a b) c := by unfold addI; omega

theorem quarter_any (a b c d : Int) (w : World) :
    Calls Tryd.prog 7 #[.int .u32 a, .int .u32 b, .int .u32 c, .int .u32 d] w fun e w' => e = .returned (.tuple #[.int .u32 (qr a b c d).1, .int .u32 (qr a b c d).2.1, .int .u32 (qr a b c d).2.2.1, .int .u32 (qr a b c d).2.2.2]) ∧ w = w' := by
  go_enter Tryd.func7, Tryd.ntmps7
  go_wp2_with fail
  refine (lft_16 _ _ (r32_bits _ _ _)).mono ?_
  rintro e w' ⟨rfl, rfl⟩
  go_wp2_with fail
  refine (lft_12 _ _ (r32_bits _ _ _)).mono ?_
  rintro e w' ⟨rfl, rfl⟩
  go_wp2_with fail
  refine (lft_8 _ _ (r32_bits _ _ _)).mono ?_
  rintro e w' ⟨rfl, rfl⟩
  go_wp2_with fail
  refine (lft_7 _ _ (r32_bits _ _ _)).mono ?_
  rintro e w' ⟨rfl, rfl⟩
  go_wp2_with fail
  refine bodyPost_ret (results_tmp4 rfl _ _ _) rfl ?_
  exact ⟨by simp only [addI3]; rfl, rfl⟩
theorem rlft_16 (x : Int) (w : World) (hx : R32 x) : Calls Tryd.prog 21 #[.int .u32 x, .int .i64 16] w fun e w' => e = .returned (.int .u32 (lft x 16)) ∧ w = w' := rleft_any x 16 w hx (by omega) (by omega)
theorem rlft_12 (x : Int) (w : World) (hx : R32 x) : Calls Tryd.prog 21 #[.int .u32 x, .int .i64 12] w fun e w' => e = .returned (.int .u32 (lft x 12)) ∧ w = w' := rleft_any x 12 w hx (by omega) (by omega)
theorem rlft_8 (x : Int) (w : World) (hx : R32 x) : Calls Tryd.prog 21 #[.int .u32 x, .int .i64 8] w fun e w' => e = .returned (.int .u32 (lft x 8)) ∧ w = w' := rleft_any x 8 w hx (by omega) (by omega)
theorem rlft_7 (x : Int) (w : World) (hx : R32 x) : Calls Tryd.prog 21 #[.int .u32 x, .int .i64 7] w fun e w' => e = .returned (.int .u32 (lft x 7)) ∧ w = w' := rleft_any x 7 w hx (by omega) (by omega)

theorem rquarter_any (a b c d : Int) (w : World) :
    Calls Tryd.prog 8 #[.int .u32 a, .int .u32 b, .int .u32 c, .int .u32 d] w fun e w' => e = .returned (.tuple #[.int .u32 (qr a b c d).1, .int .u32 (qr a b c d).2.1, .int .u32 (qr a b c d).2.2.1, .int .u32 (qr a b c d).2.2.2]) ∧ w = w' := by
  go_enter Tryd.func8, Tryd.ntmps8
  go_wp2_with fail
  refine (rlft_16 _ _ (r32_bits _ _ _)).mono ?_
  rintro e w' ⟨rfl, rfl⟩
  go_wp2_with fail
  refine (rlft_12 _ _ (r32_bits _ _ _)).mono ?_
  rintro e w' ⟨rfl, rfl⟩
  go_wp2_with fail
  refine (rlft_8 _ _ (r32_bits _ _ _)).mono ?_
  rintro e w' ⟨rfl, rfl⟩
  go_wp2_with fail
  refine (rlft_7 _ _ (r32_bits _ _ _)).mono ?_
  rintro e w' ⟨rfl, rfl⟩
  go_wp2_with fail
  refine bodyPost_ret (results_tmp4 rfl _ _ _) rfl ?_
  exact ⟨by simp only [addI3]; rfl, rfl⟩
end Go.Proofs.YtejgnjnmlojdpaaDoor.Cha

