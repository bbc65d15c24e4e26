/-
  More operations of a region that draws its order: the address of an element, products, shifts, bits: no program here. No conditions beyond those stated.
-/
import Derived.Test.YtdfnacnklmmjhaaCopyR
import Derived.Test.YtdfnacnklmmjhaaElem
namespace Go.Proofs.Ytdfnacnklmmjhaa.Held
open Go.RowKit Go.Proofs.Ytdfnacnklmmjhaa.Mem
set_option linter.unusedVariables false

section
variable {P : Program}
theorem run_addr_arr (t e : TypeId) (n g i : Nat) (k : IntKind) (ht : P.underlying t = some (.array n e)) (hs : (P.info? e).map (·.size) = some 1) (hi : i < n) (w : World) :
    (Instr.indexAt t (.pointer (some ⟨g, 0, none⟩)) (.int k (i : Int))).run P w = .ok (.pointer (some ⟨g, i, none⟩)) w := by
  have he : P.elem t = e := by simp [Program.elem, ht]
  have hl : P.arrayLen t = n := by simp [Program.arrayLen, ht]
  have hz : (sizeOf e).run P w = .ok 1 w := by
    cases hq : P.info? e with
    | none => simp [hq] at hs
    | some q => simp [hq] at hs; simp [sizeOf, typeInfo, hq, hs]
  have ea : (Addr.mk g 0 none).add i = ⟨g, i, none⟩ := by unfold Addr.add; split <;> simp_all
  rw [run_indexAt_array w t ⟨g, 0, none⟩ k (i : Int) (by rw [he, hl]; exact ht), he, hl, if_pos ⟨by omega, by omega⟩, hz]
  simp [Result.andThen, ea]
theorem run_addr_slice (t e : TypeId) (b off len cap i : Nat) (k : IntKind) (ht : P.underlying t = some (.slice e)) (hs : (P.info? e).map (·.size) = some 1) (hi : i < len) (w : World) :
    (Instr.indexAt t (.slice (some ⟨b, off, none⟩) len cap) (.int k (i : Int))).run P w = .ok (.pointer (some ⟨b, off + i, none⟩)) w := by
  have he : P.elem t = e := by simp [Program.elem, ht]
  have hz : (sizeOf e).run P w = .ok 1 w := by
    cases hq : P.info? e with
    | none => simp [hq] at hs
    | some q => simp [hq] at hs; simp [sizeOf, typeInfo, hq, hs]
  have ea : (Addr.mk b off none).add i = ⟨b, off + i, none⟩ := by unfold Addr.add; split <;> simp_all
  rw [run_indexAt_slice w t ⟨b, off, none⟩ len cap k (i : Int) (by rw [he]; exact ht), he, if_pos ⟨by omega, by omega⟩, hz]
  simp [Result.andThen, ea]
theorem run_mul (t : TypeId) (k : IntKind) {a b r : Int} (hr : k.wrap (a * b) = r) (w : World) : (binOp .mul t (.int k a) (.int k b)).run P w = .ok (.int k r) w := by simp [binOp, Op.intArith, hr]
end
section
variable {P : Program} {S : World → Prop} {ρ : Operand → Value} {o : Oper}
theorem y_addr {t : TypeId} {x ix : Operand} {u v r : Value} (ho : o.op = .indexAddr t x ix) (hx : ρ x = u) (hi : ρ ix = v) (hr : ∀ w, (Instr.indexAt t u v).run P w = .ok r w) : ∀ w, S w → (execOp ρ o).run P w = .ok (.value r) w := fun w _ => by
  simp [execOp, ho, hx, hi, hr w]
theorem y_index {t : TypeId} {x ix : Operand} {u v r : Value} (ho : o.op = .index t x ix) (hx : ρ x = u) (hi : ρ ix = v) (hr : ∀ w, (Instr.index t u v).run P w = .ok r w) : ∀ w, S w → (execOp ρ o).run P w = .ok (.value r) w := fun w _ => by
  simp [execOp, ho, hx, hi, hr w]
end
theorem run_bitop {P : Program} {op : BinOp} (hop : op = .xor ∨ op = .or ∨ op = .and) (t : TypeId) (k : IntKind) {a b r : Int} (hr : bits op k a b = r) (w : World) : (binOp op t (.int k a) (.int k b)).run P w = .ok (.int k r) w := by
  subst hr; rcases hop with rfl | rfl | rfl <;> simp [binOp, Op.intBits, bits]
theorem run_shr {P : Program} (t : TypeId) (k k' : IntKind) {a r : Int} (n : Nat) (hn : n ≤ k.bits) (hr : a / 2 ^ n = r) (w : World) : (binOp .shr t (.int k a) (.int k' (n : Int))).run P w = .ok (.int k r) w := by
  subst hr
  rw [binOp_shr, shift_shr k k' a (n : Int) (by omega) (by omega), Int.toNat_natCast]
  rfl
/-- a store of one number into a block that is known whole -/
theorem op_store_elem {P : Program} {ops : Array Oper} {Q : Exit → Act → World → Prop} (i : Nat) (d : Option Tmp) {o : Oper} {a : Act} {w : World} {K : Act → World → Prop} (ty : TypeId) {x y : Operand} (g j : Nat) (t : TypeId) (k : IntKind) (zs : List Int) (z : Int) (hi : ops[i]? = some o) (hd : o.dst = d) (hw : Region.wanted o (yielded ops a.tmps) = true)
    (ho : o.op = .store ty x y) (hx : a.eval x = .pointer (some ⟨g, j, none⟩)) (hy : a.eval y = .int k z) (hr : Row w g t k zs) (hj : j < zs.length) (hsz : (P.info? ty).map (·.size) = some 1) (hz : (Lit.int k z).wf = true)
    (h : ∀ w', Row w' g t k (zs.set j z) → w.grownBy w' (some g) → K (a.put d undef) w') : wpOp P ops Q i K a w := by
  subst hd
  refine op_wp i hi hw ?_
  unfold Oper.wp execOp
  simp only [ho, hx, hy, Instr.storeAt, Instr.sureAddr, Sem.run_bind, Sem.run_pure, Result.andThen_ok, run_store_elem ty g j _ (.int k z) (hr.cell hj) (hr.frozen j) hsz rfl rfl]
  exact h _ (hr.set j hz) (grown_setCell _ _ _ _)
end Go.Proofs.Ytdfnacnklmmjhaa.Held

