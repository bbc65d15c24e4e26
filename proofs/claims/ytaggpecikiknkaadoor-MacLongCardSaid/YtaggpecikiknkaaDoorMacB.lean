/-
  The laws' first line on package mac: it returns true. Conditions: the two tables of package sha lie where the program's text lays them.
-/
import Derived.Test.YtaggpecikiknkaaDoorMacC
import Derived.Test.YtaggpecikiknkaaDoorMacA
import Derived.Test.YtaggpecikiknkaaDoorConst
namespace Go.Proofs.YtaggpecikiknkaaDoor.Mac
open Go.RowKit Go.Proofs.YtaggpecikiknkaaDoor.Mem Go.Proofs.YtaggpecikiknkaaDoor.Help Go.Proofs.YtaggpecikiknkaaDoor.Sum Go.Proofs.YtaggpecikiknkaaDoor.Sha
set_option linter.unusedVariables false

set_option maxRecDepth 100000 in
set_option maxHeartbeats 1000000 in
theorem awake3_any (w : World) (hT0 : Tab w 0 Sum.H0) (hT1 : Tab w 1 Sum.K) :
    Calls Tryd.prog 15 #[] w fun e w' => e = .returned (.bool true) ∧ Below w.heap.size w w' := by
  have hft : (tag [107, 101, 121] fox) = foxTag := fox_tag
  have HFT := Lib.hid hft
  clear hft
  go_enter Tryd.func15, Tryd.ntmps15
  go_wp2_with (first
    | (refine wpList_text (w := w) rfl rfl 24 5 3 _ _ rfl rfl [107, 101, 121] Tryd.underlying24 Tryd.underlying5 (by kernel_rfl) (by kernel_rfl) rfl (by omega) (by omega) rfl (by decide) rfl ?_; intro w1 i1 b1 z1)
    | (refine wpList_text (w := w1) rfl rfl 24 5 43 _ _ rfl rfl fox Tryd.underlying24 Tryd.underlying5 (by kernel_rfl) (by kernel_rfl) rfl (by omega) (by omega) rfl (by decide) rfl ?_; intro w2 i2 b2 z2))
  have c2 : Below w.heap.size w w2 := b1.trans (b2.mono b1.size)
  refine (tag_one w2 w1.heap.size _ _ _ 3 3 43 43 1 [107, 101, 121] fox (i1.below b2) b2.size (Nat.le_refl _) (by simp [maxLen]) (by omega) i2 (Nat.le_refl _) (Nat.le_refl _) (by simp [maxLen]) (by omega) (hT0.below c2 hT0.lt) (hT1.below c2 hT1.lt)).mono ?_
  rw [HFT.out]
  rintro e w3 ⟨rfl, hb3⟩
  have b3 := c2.trans (hb3.mono c2.size)
  clear i1 i2 b1 b2 c2 hb3 z1 z2
  have hfw : ∀ z ∈ foxTag, (Lit.int .u8 z).wf = true := by decide
  have HFW := Lib.hid hfw
  clear hfw
  go_wp2_with (first
    | (refine wpList_alloc_Row (w := w3) rfl 26 rfl .u8 32 zero_32 ?_; intro w4 r4 g4 z4)
    | (refine wpList_store_RowTo (w := w4) rfl 26 _ _ rfl w3.heap.size rfl 26 .u8 _ foxTag rfl r4 32 info_32 rfl (by simp) HFW.out ?_; intro w5 r5 g5 z5; have c0 : w5.cell? ⟨w3.heap.size, 0, none⟩ = some (.int .u8 247) := r5.cell (i := 0) (by decide); have c1 : w5.cell? ⟨w3.heap.size, 1, none⟩ = some (.int .u8 188) := r5.cell (i := 1) (by decide); have c31 : w5.cell? ⟨w3.heap.size, 31, none⟩ = some (.int .u8 216) := r5.cell (i := 31) (by decide)))
  go_ret
  exact ⟨rfl, (b3.grown g4 b3.size (by simp)).grown g5 (by have := g4.size; have := b3.size; omega) (fun r e => by have := b3.size; cases e; omega)⟩
end Go.Proofs.YtaggpecikiknkaaDoor.Mac

