/-
  A table stays where only other blocks change: no program here. No conditions beyond those stated.
-/
import Derived.Test.YtebkicikpeicmaaDoorTab
import Derived.Test.YtebkicikpeicmaaDoorIn
namespace Go.Proofs.YtebkicikpeicmaaDoor.Sha
open Go.RowKit Go.Proofs.YtebkicikpeicmaaDoor.Mem
theorem Tab.only {S : Nat → Prop} {w w' : World} {g : Nat} {zs : List Int} (h : Tab w g zs) (ho : Only S w w') (hg : ¬ S g) : Tab w' g zs := by
  obtain ⟨t, fr, h⟩ := h
  exact ⟨t, fr, ho.block g _ hg h rfl⟩
end Go.Proofs.YtebkicikpeicmaaDoor.Sha

