/-
  s[l:h] of a slice at a block's start, and what it reads as: no program here. No conditions beyond those stated.
-/
import Derived.Test.YtdfnacnklmmjhaaArr
import Derived.Laws.Slices
namespace Go.Proofs.Ytdfnacnklmmjhaa.Mem
open Go.RowKit
set_option linter.unusedVariables false
theorem run_mid {P : Program} {t e : TypeId} (ht : P.underlying t = some (.slice e)) (hs : (P.info? e).map (·.size) = some 1) (g n : Nat) {cap l h : Nat} (hl : l ≤ h) (hh : h ≤ cap) (hlc : l < cap) (w : World) :
    (Instr.sliceAt t (.slice (some ⟨g, 0, none⟩) n cap) (some (.int .i64 (l : Int))) (some (.int .i64 (h : Int))) none).run P w = .ok (.slice (some ⟨g, l, none⟩) (h - l) (cap - l)) w := by
  have he : P.elem t = e := by simp [Program.elem, ht]
  have ht' : P.underlying t = some (.slice (P.elem t)) := by rw [he]; exact ht
  obtain ⟨inf, hi, h1⟩ := Option.map_eq_some_iff.1 hs
  rw [run_sliceAt_slice w t _ _ _ _ ht', run_slice_lh w t (some ⟨g, 0, none⟩) n cap ht' .i64 .i64 _ _ (by omega) (by omega) (by omega), he]
  have hz : (sizeOf e).run P w = .ok 1 w := by simp [sizeOf, typeInfo, hi, h1]
  have hne : ¬ cap = l := by omega
  rw [hz]
  simp [Result.andThen, sliced, Addr.add, hne]
  omega
theorem Row.mid {w : World} {g : Nat} {t : TypeId} {k : IntKind} {zs : List Int} (h : Row w g t k zs) {l m : Nat} (hm : l + m ≤ zs.length) : Ints w k w.heap.size (some ⟨g, l, none⟩) m ((zs.drop l).take m) := by
  refine ⟨by rw [List.length_take, List.length_drop]; omega, fun z hz => h.1 z (List.mem_of_mem_drop (List.mem_of_mem_take hz)), fun _ => ⟨g, l, rfl, h.lt, fun i hi => ?_⟩⟩
  rw [h.cell (by omega)]
  simp [List.getD_eq_getElem?_getD, hi]
end Go.Proofs.Ytdfnacnklmmjhaa.Mem

