/-
  The functions of package dominohelp on bytes, each by its contract. Conditions: the slices read as lists of bytes, of at most 2^44 bytes.
-/
import Derived.Test.YtejgnjnmlojdpaaRows
import Derived.Test.YtejgnjnmlojdpaaOwn
namespace Go.Proofs.Ytejgnjnmlojdpaa.Help
open Go.RowKit Go.Proofs.Ytejgnjnmlojdpaa.Mem
set_option linter.unusedVariables false

theorem info_u8 : (Try.prog.info? 5).map (fun i => (i.zero, i.size, i.bytes)) = some (some (.int .u8 0), 1, 1) := by kernel_rfl

/-- nothing has turned, but for a count of draws -/
def Still (w w' : World) : Prop := ∃ m, w' = w.drewN m
section
variable {w w' w'' : World}
theorem Still.refl (w : World) : Still w w := ⟨0, rfl⟩
theorem Still.drewN (h : Still w w') (n : Nat) : Still w (w'.drewN n) := by obtain ⟨m, rfl⟩ := h; exact ⟨m + n, by simp⟩
theorem Still.trans (h : Still w w') (k : Still w' w'') : Still w w'' := by obtain ⟨m, rfl⟩ := h; obtain ⟨n, rfl⟩ := k; exact ⟨m + n, by simp⟩
theorem Still.below (h : Still w w') (B : Nat) : Below B w w' := by obtain ⟨m, rfl⟩ := h; exact below_drewN (Below.refl _ _) m
theorem Still.size (h : Still w w') : w'.heap.size = w.heap.size := by obtain ⟨m, rfl⟩ := h; rfl
theorem Still.cell (h : Still w w') (p : Addr) : w'.cell? p = w.cell? p := by obtain ⟨m, rfl⟩ := h; rfl
theorem Still.heap (h : Still w w') : w'.heap = w.heap := by obtain ⟨m, rfl⟩ := h; rfl
theorem Still.ints (h : Still w w') {k : IntKind} {B n : Nat} {A : Option Addr} {zs : List Int} (hi : Ints w k B A n zs) : Ints w' k B A n zs := hi.below (h.below B)
theorem Still.own (h : Still w w') {base : Nat} {t : TypeId} {k : IntKind} {v : Value} {zs : List Int} (hi : Own w base t k v zs) : Own w' base t k v zs := hi.below (h.below _)
end

theorem take_step {xs ys : List Int} {k : Nat} (hx : k < xs.length) (hy : k < ys.length) (h : xs.take k = ys.take k) (e : xs.getD k 0 = ys.getD k 0) : xs.take (k + 1) = ys.take (k + 1) := by
  rw [List.take_add_one, List.take_add_one, h]
  simp only [List.getD_eq_getElem?_getD, List.getElem?_eq_getElem hx, List.getElem?_eq_getElem hy, Option.getD_some] at e
  rw [List.getElem?_eq_getElem hx, List.getElem?_eq_getElem hy, e]

end Go.Proofs.Ytejgnjnmlojdpaa.Help
