/-
  What the rows' condition on package sha's two tables gives: they hold the numbers that the program's text lays. No conditions beyond those stated.
-/
import Derived.Test.YtbfdhbobokfbhaaDoorSha8
import Derived.Lib.LaidTab
import Derived.LaidMore
import Derived.Stop.Joined
import Derived.Stop.LaidErr
namespace Go.Proofs.YtbfdhbobokfbhaaDoor.Sha
open Go.RowKit Go.Proofs.YtbfdhbobokfbhaaDoor.Mem Go.Proofs.YtbfdhbobokfbhaaDoor.Sum
set_option linter.unusedVariables false
set_option maxRecDepth 100000

def shaLaid : List (String × DataW Unit) := [("domino/sha.start", Rows.laid_domino_sha_start), ("domino/sha.words", Rows.laid_domino_sha_words)]

theorem tab_of_var {w : World} {name : String} {g : Nat} {zs : List Int} (hg : Tryd.prog.globalNamed name = some g) (h : Lib.TabIs Tryd.prog w name .u32 zs) : Tab w g zs := by
  unfold Lib.TabIs World.var? at h
  rw [hg, Option.bind_some] at h
  cases hb : w.heap[g]? with
  | none => rw [hb] at h; cases h
  | some o =>
    rw [hb] at h
    cases o with
    | cells cs t fr => simp only [Option.some.injEq] at h; exact ⟨t, fr, by rw [hb, h]; rfl⟩
    | _ => cases h

theorem sha_of_laid {w : World} (h : laidMetH Tryd.prog shaLaid w) : Tab w 0 Sum.H0 ∧ Tab w 1 Sum.K := by
  rw [MakeChecks.laidMetH_plain _ _ _ (by kernel_rfl)] at h
  have h1 : Lib.TabIs Tryd.prog w "domino/sha.start" .u32 Sum.H0 := Lib.tabIs_of_head (e := 50) (n := 8) (zs := Sum.H0) (t := 53) (g := 0) (by kernel_rfl) (by kernel_rfl) Tryd.underlying53 Tryd.underlying50 (by kernel_rfl) (by kernel_rfl) h
  have h2 : Lib.TabIs Tryd.prog w "domino/sha.words" .u32 Sum.K := Lib.tabIs_of_head (e := 50) (n := 64) (zs := Sum.K) (t := 51) (g := 1) (by kernel_rfl) (by kernel_rfl) Tryd.underlying51 Tryd.underlying50 (by kernel_rfl) (by kernel_rfl) (laidMet.tail h)
  exact ⟨tab_of_var (by kernel_rfl) h1, tab_of_var (by kernel_rfl) h2⟩

theorem door_met (os : Os) (args : Array Value) : laidMetH Tryd.prog shaLaid ((World.doorLaid Tryd.prog 400 os).forCall (fun _ _ => 0) ⟨#[], args, []⟩).memory :=
  laidMetH_of_parts3 (fuel := 8) (laidMet_of_run' 8 (by kernel_rfl) (by kernel_rfl)) (by kernel_rfl) (by kernel_rfl)
end Go.Proofs.YtbfdhbobokfbhaaDoor.Sha

