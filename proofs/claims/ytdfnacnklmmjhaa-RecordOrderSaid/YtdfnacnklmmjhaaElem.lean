/-
  A store of one number into a block that is known whole, the new world a letter: no program here. No conditions beyond those stated.
-/
import Derived.Test.YtdfnacnklmmjhaaCopy
namespace Go.Proofs.Ytdfnacnklmmjhaa.Mem
open Go.RowKit Go.Shelf
set_option linter.unusedVariables false

theorem run_store_elem {P : Program} {w : World} (ty : TypeId) (g i : Nat) (u v : Value) (hc : w.cell? ⟨g, i, none⟩ = some u) (hf : w.frozen? ⟨g, i, none⟩ = false) (hsz : (P.info? ty).map (·.size) = some 1) (h1 : v.cells = #[v]) (ho1 : v.oneCell' = true) :
    (storeVar ty ⟨g, i, none⟩ v).run P w = .ok () (w.setCell ⟨g, i, none⟩ v) := by
  have hz : (sizeOf ty).run P w = .ok 1 w := by
    cases hq : P.info? ty with
    | none => simp [hq] at hsz
    | some q => simp [hq] at hsz; simp [sizeOf, typeInfo, hq, hsz]
  have ea : (Addr.mk g i none).add 0 = ⟨g, i, none⟩ := by unfold Addr.add; split <;> simp_all
  simp [storeVar, hz, h1, Sem.run_bind, Result.andThen, storeCells, run_store P w _ v _ ho1, ea, hc, hf]
/-- a store of one number into a block that is known whole, the new world a letter -/
theorem wpList_store_elem {P : Program} {ops : Array Oper} {rest : List Oper} {o : Oper} {a : Act} {w : World} {Q : Exit → Act → World → Prop} (hgd : o.guard = none) (ty : TypeId) (x y : Operand) (ho : o.op = .store ty x y) (g i : Nat) (hx : a.eval x = .pointer (some ⟨g, i, none⟩)) (t : TypeId) (k : IntKind) (zs : List Int) (z : Int) (hy : a.eval y = .int k z)
    (hr : Row w g t k zs) (hi : i < zs.length) (hsz : (P.info? ty).map (·.size) = some 1) (hz : (Lit.int k z).wf = true)
    (h : ∀ w', Row w' g t k (zs.set i z) → w.grownBy w' (some g) → Hid (w'.heap.size = w.heap.size) → wpList P ops Q rest (a.put o.dst undef) w') : wpList P ops Q (o :: rest) a w := by
  refine wpList_plain hgd fun K hK => ?_
  unfold Oper.wp execOp
  simp only [ho, hx, hy, Instr.storeAt, Instr.sureAddr, Sem.run_bind, Sem.run_pure, Result.andThen_ok, run_store_elem ty g i _ (.int k z) (hr.cell hi) (hr.frozen i) hsz rfl rfl]
  exact hK _ _ (h _ (hr.set i hz) (grown_setCell _ _ _ _) (Lib.hid (by simp [World.setCell])))
/-- a whole array read, by an operation that may bear a guard -/
theorem wpList_load_RowG {P : Program} {ops : Array Oper} {rest : List Oper} {o : Oper} {a : Act} {w : World} {Q : Exit → Act → World → Prop} (hw : Region.wanted o (yielded ops a.tmps) = true) (ty : TypeId) (x : Operand) (ho : o.op = .load ty x) (g : Nat) (hx : a.eval x = .pointer (some ⟨g, 0, none⟩)) (t : TypeId) (k : IntKind) (zs : List Int) (hr : Row w g t k zs)
    (n : Nat) (e : TypeId) (hu : P.underlying ty = some (.array n e)) (hi : (P.info? ty).map (·.size) = some n) (hn : zs.length = n)
    (h : wpList P ops Q rest (a.put o.dst (.agg (arr k zs))) w) : wpList P ops Q (o :: rest) a w :=
  wpList_step fun _ hK => by
    rw [if_pos hw]
    exact wp_load_row ty x ho g hx t (arr k zs) (0, 0) _ hr.2 hu rfl (by rw [hi, arr_size, hn]) (hK _ _ h)
end Go.Proofs.Ytdfnacnklmmjhaa.Mem

