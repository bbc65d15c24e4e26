/-
  Within a fence: a store of one number into a block that is known whole, a built array, a copy, a whole array's address out of a slice, the new world a letter: no program here. No conditions beyond those stated.
-/
import Derived.Test.YtdfnacnklmmjhaaPy0
namespace Go.Proofs.Ytdfnacnklmmjhaa.Mem
open Go.RowKit Go.Shelf Go.Proofs.Ytdfnacnklmmjhaa.Range
set_option linter.unusedVariables false

section
variable {F : Fence} {n : Nat} {P : Program} {ops : Array Oper} {rest : List Oper} {o : Oper} {a : Act} {w : World} {Q : Exit → Act → World → Prop}
theorem wpListIn_store_elem (hw : Region.wanted o (yielded ops a.tmps) = true) (ty : TypeId) (x y : Operand) (ho : o.op = .store ty x y) (g i : Nat) (hx : a.eval x = .pointer (some ⟨g, i, none⟩)) (t : TypeId) (k : IntKind) (zs : List Int) (z : Int) (hy : a.eval y = .int k z)
    (hr : Row w g t k zs) (hi : i < zs.length) (hsz : (P.info? ty).map (·.size) = some 1) (hz : (Lit.int k z).wf = true)
    (h : ∀ w', Row w' g t k (zs.set i z) → w.grownBy w' (some g) → Hid (w'.heap.size = w.heap.size) → wpListIn F n P ops Q rest (a.put o.dst undef) w') : wpListIn F n P ops Q (o :: rest) a w := by
  refine wpListIn_step fun K hK => ?_
  rw [if_pos hw]
  unfold Oper.wpIn
  refine ⟨fun f hf => by simp [Oper.about, ho] at hf, ?_⟩
  rw [Oper.semAt_plain F _ _ (by rw [ho]; intro c hc'; cases hc')]
  unfold execOp
  simp only [ho, hx, hy, Instr.storeAt, Instr.sureAddr, Sem.run_bind, Sem.run_pure, Result.andThen_ok, run_store_elem ty g i _ (.int k z) (hr.cell hi) (hr.frozen i) hsz rfl rfl]
  exact hK _ _ (h _ (hr.set i hz) (grown_setCell _ _ _ _) (Lib.hid (by simp [World.setCell])))
theorem wpListIn_build_Row (hw : Region.wanted o (yielded ops a.tmps) = true) (t : TypeId) (parts : Array (Nat × Operand)) (ho : o.op = .build t parts) (k : IntKind) (zs : List Int)
    (hf : P.built t (parts.map fun (i, x) => (i, a.eval x)).toList = some (arr k zs)) (h : wpListIn F n P ops Q rest (a.put o.dst (.agg (arr k zs))) w) : wpListIn F n P ops Q (o :: rest) a w := by
  refine wpListIn_step fun K hK => ?_
  rw [if_pos hw]
  unfold Oper.wpIn
  refine ⟨fun f hf => by simp [Oper.about, ho] at hf, ?_⟩
  rw [Oper.semAt_plain F _ _ (by rw [ho]; intro c hc'; cases hc')]
  unfold execOp
  simp only [ho, Sem.run_bind, run_build w t _ _ hf, Result.andThen_ok]
  exact hK _ _ h
theorem wpListIn_copy_RowTo (hw : Region.wanted o (yielded ops a.tmps) = true) (d s : Operand) (dT sT : TypeId) (ho : o.op = .call { callee := .builtin .copy, args := #[d, s], argTypes := #[dT, sT] }) (e : TypeId) (hu : P.underlying dT = some (.slice e)) (hsz : (P.info? e).map (·.size) = some 1)
    (g off dLen dCap : Nat) (A : Option Addr) (sLen sCap : Nat) (hd : a.eval d = .slice (some ⟨g, off, none⟩) dLen dCap) (hs : a.eval s = .slice A sLen sCap)
    (t : TypeId) (k : IntKind) (cur xs : List Int) (hr : Row w g t k cur) (hx : 0 < sLen → ∃ b o2, A = some ⟨b, o2, none⟩ ∧ ∀ i, i < sLen → w.cell? ⟨b, o2 + i, none⟩ = some (.int k (xs.getD i 0))) (hxl : xs.length = sLen)
    (hxw : ∀ z ∈ xs, (Lit.int k z).wf = true) (m : Nat) (hm : m = min sLen dLen) (h0 : 0 < m) (hfit : off + m ≤ cur.length)
    (h : ∀ w', Row w' g t k (cur.take off ++ (xs.take m ++ cur.drop (off + m))) → w.grownBy w' (some g) → Hid (w'.heap.size = w.heap.size) → wpListIn F n P ops Q rest (a.put o.dst (.int .i64 (m : Int))) w') : wpListIn F n P ops Q (o :: rest) a w :=
  wpListIn_copy_Row hw d s dT sT ho e hu hsz g off dLen dCap A sLen sCap hd hs t k cur xs hr hx hxl m hm h0 hfit
    (h _ (hr.setRow fun z hz => by
      rcases List.mem_append.1 hz with h1 | h1
      · exact hr.1 z (List.mem_of_mem_take h1)
      · rcases List.mem_append.1 h1 with h1 | h1
        · exact hxw z (List.mem_of_mem_take h1)
        · exact hr.1 z (List.mem_of_mem_drop h1)) (grown_setRow _ _ _) (Lib.hid (by simp)))
/-- an array out of a slice: its address -/
theorem wpListIn_arrayAt (hw : Region.wanted o (yielded ops a.tmps) = true) (ty : TypeId) (x : Operand) (ho : o.op = .sliceToArrayPointer ty x) (A : Option Addr) (len cap m : Nat) (e : TypeId) (hx : a.eval x = .slice A len cap) (hu : P.underlying ty = some (.array m e)) (hm : m ≤ len)
    (h : wpListIn F n P ops Q rest (a.put o.dst (.pointer A)) w) : wpListIn F n P ops Q (o :: rest) a w := by
  have hl : ¬ len < m := by omega
  refine wpListIn_step fun K hK => ?_
  rw [if_pos hw]
  unfold Oper.wpIn
  refine ⟨fun f hf => by simp [Oper.about, ho] at hf, ?_⟩
  rw [Oper.semAt_plain F _ _ (by rw [ho]; intro c hc'; cases hc')]
  unfold execOp
  simp only [ho, hx, Instr.arrayAt, Sem.run_bind, run_underlying hu, Result.andThen_ok, hl, if_false, Sem.run_pure]
  exact hK _ _ h
/-- some numbers of a block that is known whole, as an array -/
theorem wpListIn_load_midRow (hw : Region.wanted o (yielded ops a.tmps) = true) (ty : TypeId) (x : Operand) (ho : o.op = .load ty x) (g off : Nat) (hx : a.eval x = .pointer (some ⟨g, off, none⟩)) (t : TypeId) (k : IntKind) (zs : List Int) (hr : Row w g t k zs) (m : Nat) (e : TypeId)
    (hu : P.underlying ty = some (.array m e)) (hi : (P.info? ty).map (·.size) = some m) (hn : off + m ≤ zs.length) (h : wpListIn F n P ops Q rest (a.put o.dst (.agg (arr k ((zs.drop off).take m)))) w) : wpListIn F n P ops Q (o :: rest) a w := by
  refine wpListIn_step fun K hK => ?_
  rw [if_pos hw]
  unfold Oper.wpIn
  refine ⟨fun f hf => by simp [Oper.about, ho] at hf, ?_⟩
  rw [Oper.semAt_plain F _ _ (by rw [ho]; intro c hc'; cases hc')]
  unfold execOp
  simp only [ho, hx, Instr.loadAt, Instr.sureAddr, Sem.run_bind, Sem.run_pure, Result.andThen_ok, run_loadVar_mid w g off ty (((zs.drop off).take m).map (Value.int k)) _ (Po.rangeAt_row hr off m) hu rfl (by rw [hi]; simp; omega)]
  exact hK _ _ h
end
end Go.Proofs.Ytdfnacnklmmjhaa.Mem

