/-
  What the frame of a proof says of an array of numbers that came in by value. No program here. No conditions beyond those stated.
-/
import Derived.Test.YtdfnacnklmmjhaaArr
import Derived.WideShapes
import Derived.ChangeArms
namespace Go.Proofs.Ytdfnacnklmmjhaa.Mem
open Go.RowKit Go.ChangeShapes Go.WideShapes
set_option linter.unusedVariables false

def numOf' : Value → Int
  | .int _ z => z
  | _ => 0
theorem open_arr {H : Type} {enc : TypeId × Value → H} {P : Program} {w : World} {base : Nat} {spare : Nat → Bool} {held : Bool} {r : Reach} {b0 n : Nat} {t e : TypeId} {k : IntKind} {v : Value} {d : DataW H} {p : List MemPlace}
    (ht : P.underlying t = some (.array n e)) (he : P.underlying e = some (.int k)) (ce : P.cellsOf e = 1) (ct : P.cellsOf t = n) (hval : Value.okWide P w r b0 t v) (h : DataW.Trod enc P w base spare held t v d p) :
    ∃ zs, v = .agg (arr k zs) ∧ zs.length = n ∧ ∀ z ∈ zs, (Lit.int k z).wf = true := by
  simp only [Value.okWide, ht] at hval
  obtain ⟨cs, rfl, hsz, _⟩ := hval
  obtain ⟨fuel, hf⟩ := h
  simp only [Value.cells] at hf
  obtain ⟨xs, m, _, _, hl, hxl, hel⟩ := DataW.trod_array ht hf
  have hn : cs.toList.length = n := by rw [hl, ct]
  have each : ∀ i (hi : i < cs.toList.length), ∃ z, cs.toList[i] = .int k z ∧ (Lit.int k z).wf = true := by
    intro i hi
    have h1 := hel i (by omega)
    rw [ce, Nat.mul_one, List.getElem?_eq_getElem (by omega)] at h1
    obtain ⟨z, h2, _, h3⟩ := DataW.trod_int he h1
    rw [List.drop_eq_getElem_cons hi] at h2
    simp only [List.take_succ_cons, List.take_zero] at h2
    exact ⟨z, (List.cons.inj h2).1, h3⟩
  refine ⟨cs.toList.map numOf', ?_, by simpa using hn, fun z hz => ?_⟩
  · congr 1
    unfold arr
    rw [List.map_map]
    have : cs.toList.map (Value.int k ∘ numOf') = cs.toList := by
      apply List.ext_getElem
      · simp
      · intro i h1 h2
        obtain ⟨z, hz, _⟩ := each i h2
        rw [List.getElem_map, hz]
        rfl
    rw [this]
  · obtain ⟨v, hv, rfl⟩ := List.mem_map.1 hz
    obtain ⟨i, hi, rfl⟩ := List.mem_iff_getElem.1 hv
    obtain ⟨z, hz', hw⟩ := each i hi
    rw [hz']
    exact hw
end Go.Proofs.Ytdfnacnklmmjhaa.Mem

