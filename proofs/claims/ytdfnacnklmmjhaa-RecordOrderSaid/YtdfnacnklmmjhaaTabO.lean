/-
  A table stays where only other blocks change: no program here. No conditions beyond those stated.
-/
import Derived.Test.YtdfnacnklmmjhaaTab
import Derived.Test.YtdfnacnklmmjhaaIn
namespace Go.Proofs.Ytdfnacnklmmjhaa.Sha
open Go.RowKit Go.Proofs.Ytdfnacnklmmjhaa.Mem
theorem Tab.only {S : Nat → Prop} {w w' : World} {g : Nat} {zs : List Int} (h : Tab w g zs) (ho : Only S w w') (hg : ¬ S g) : Tab w' g zs := by
  obtain ⟨t, fr, h⟩ := h
  exact ⟨t, fr, ho.block g _ hg h rfl⟩
end Go.Proofs.Ytdfnacnklmmjhaa.Sha

