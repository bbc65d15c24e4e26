/-
  []byte("..") of a text that the program's text says: no program here. No conditions beyond those stated.
-/
import Derived.Test.YtaggpecikiknkaaDoorArr
import Derived.Lib.SlBytesConst
import Derived.Great.BuildSlice
import Derived.Laws.IdiomStrings
namespace Go.Proofs.YtaggpecikiknkaaDoor.Mem
open Go.RowKit
set_option linter.unusedVariables false

theorem wpList_text {P : Program} {ops : Array Oper} {rest : List Oper} {o1 o2 : Oper} {a : Act} {w : World} {Q : Exit → Act → World → Prop} (hg1 : o1.guard = none) (hg2 : o2.guard = none) (t e : TypeId) (len : Nat) (parts : Array (Nat × Operand)) (x : Operand)
    (ho1 : o1.op = .buildSlice t len parts) (ho2 : o2.op = .convert t t x) (zs : List Int) (hu : P.underlying t = some (.slice e)) (he : P.underlying e = some (.int .u8)) (hsz : (P.info? e).map (·.size) = some 1) (hz : ((P.info? e).bind (·.zero)).isSome = true)
    (hlen : len = zs.length) (hpos : 0 < len) (hsmall : len ≤ 2 ^ 24) (hparts : parts.toList = (zs.zipIdx 0).map fun x => (x.2, Operand.const (Value.int .u8 x.1))) (hwf : ∀ z ∈ zs, (Lit.int .u8 z).wf = true)
    (hx : (a.put o1.dst (.slice (some ⟨w.heap.size, 0, none⟩) len len)).eval x = .slice (some ⟨w.heap.size, 0, none⟩) len len)
    (h : ∀ w', Ints w' .u8 w'.heap.size (some ⟨w.heap.size, 0, none⟩) len zs → Below w.heap.size w w' → Hid (w'.heap.size = w.heap.size + 1) → wpList P ops Q rest ((a.put o1.dst (.slice (some ⟨w.heap.size, 0, none⟩) len len)).put o2.dst (.slice (some ⟨w.heap.size, 0, none⟩) len len)) w') :
    wpList P ops Q (o1 :: o2 :: rest) a w := by
  refine wpList_buildFlat hg1 t e len parts ho1 .u8 zs hu hsz hz hlen hpos hsmall hparts ?_
  refine wpList_plain hg2 fun K hK => ?_
  unfold Oper.wp execOp
  simp only [ho2, hx, Sem.run_bind, Lib.run_convert_bytes_const w t e _ len len hu he, Sem.run_pure, Result.andThen_ok]
  refine hK _ _ (h _ ⟨hlen.symm, hwf, fun _ => ⟨w.heap.size, 0, rfl, by simp, fun i hi => ?_⟩⟩ ((Below.refl _ w).alloc (Nat.le_refl _) _) (Lib.hid (by simp)))
  rw [World.cell?_alloc_mark, Nat.zero_add]
  exact arr_get .u8 zs (by omega)
end Go.Proofs.YtaggpecikiknkaaDoor.Mem

