/-
  What the laws on package chacha share: their first line returns true; what the rows' condition on the table gives. Conditions beyond those stated: none.
-/
import Derived.Test.YtejgnjnmlojdpaaDoorCh7
import Derived.Test.YtejgnjnmlojdpaaDoorKept
namespace Go.Proofs.YtejgnjnmlojdpaaDoor.Cha
open Go.RowKit Go.Shelf Go.Proofs.YtejgnjnmlojdpaaDoor.Mem Go.Proofs.YtejgnjnmlojdpaaDoor.Help Go.Proofs.YtejgnjnmlojdpaaDoor.Sum Go.Proofs.YtejgnjnmlojdpaaDoor.Cc Go.Proofs.YtejgnjnmlojdpaaDoor.Sha Go.Proofs.YtejgnjnmlojdpaaDoor
set_option linter.unusedVariables false
attribute [local irreducible] wpList wpListIn

theorem quarter_ex (w : World) : Calls Tryd.prog 7 #[.int .u32 286331153, .int .u32 16909060, .int .u32 2609737539, .int .u32 19088743] w fun e w' => e = .returned (.tuple #[.int .u32 3928658676, .int .u32 3407673550, .int .u32 1166100270, .int .u32 1484899515]) ∧ w = w' := by
  have h := quarter_any 286331153 16909060 2609737539 19088743 w
  rw [show qr 286331153 16909060 2609737539 19088743 = (3928658676, 3407673550, 1166100270, 1484899515) from example_qr] at h
  exact h
theorem awake5_any (w : World) : Calls Tryd.prog 9 #[] w fun e w' => e = .returned (.bool true) ∧ w = w' := by
  go_enter Tryd.func9, Tryd.ntmps9
  go_wp2_with fail
  refine (quarter_ex _).mono ?_
  rintro e w' ⟨rfl, rfl⟩
  go_wp2_with fail
  go_ret
  exact ⟨rfl, rfl⟩
theorem awake5_b (w : World) : Calls Tryd.prog 9 #[] w fun e w' => e = .returned (.bool true) ∧ Below w.heap.size w w' :=
  (awake5_any w).mono fun _ _ ⟨h1, h2⟩ => ⟨h1, h2 ▸ Below.refl _ _⟩

theorem row_ints3 {w : World} {g n : Nat} {zs : List Int} {f : Int} (hr : Row w g 5 .u8 (zs ++ [f, f, f])) (hl : zs.length = n) : Ints w .u8 w.heap.size (some ⟨g, 0, none⟩) n zs := by
  have := hr.ints (n := n) (by simp; omega)
  rwa [List.take_append_of_le_length (by omega), List.take_of_length_le (by omega)] at this
theorem bs_of_wf {zs : List Int} (h : ∀ z ∈ zs, (Lit.int .u8 z).wf = true) : Bs zs := fun z hz => wf_u8 (h z hz)
theorem r32_of_wf {x : Int} (h : (Lit.int .u32 x).wf = true) : R32 x := by
  simp [Lit.wf, IntKind.min, IntKind.max, IntKind.signed, IntKind.bits] at h
  exact ⟨h.1, by omega⟩

set_option maxRecDepth 100000
def chaLaid : List (String × DataW Unit) := [("domino/chacha.start", Rows.laid_domino_chacha_start)]
theorem chacha_of_laid {w : World} (h : laidMetH Tryd.prog chaLaid w) : Tab w 0 sigma := by
  rw [MakeChecks.laidMetH_plain _ _ _ (by kernel_rfl)] at h
  have h1 : Lib.TabIs Tryd.prog w "domino/chacha.start" .u32 sigma := Lib.tabIs_of_head (e := 23) (n := 4) (zs := sigma) (t := 25) (g := 0) (by kernel_rfl) (by kernel_rfl) Tryd.underlying25 Tryd.underlying23 (by kernel_rfl) (by kernel_rfl) h
  exact tab_of_var (by kernel_rfl) h1
end Go.Proofs.YtejgnjnmlojdpaaDoor.Cha

