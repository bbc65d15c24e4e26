/-
  copy within a region that draws its order: no program here. No conditions beyond those stated.
  A store of one number into a block that is known whole, the new world a letter: no program here. No conditions beyond those stated.
  More operations of a region that draws its order: the address of an element, products, shifts, bits: no program here. No conditions beyond those stated.
  Variables of one cell, the new world a letter; a function value held against nil; what is unlike, elements of several cells, within a region that draws its order: no program here. No conditions beyond those stated.
  A table of numbers of 32 bits, at a package-level variable's block, and what a row's condition on it gives: no program here. No conditions beyond those stated.
  A table stays where only other blocks change: no program here. No conditions beyond those stated.
  A table of numbers of any kind at a package-level variable's block; an array out of a slice, and out of the middle of a block: no program here. No conditions beyond those stated.
  Small functions of package poly, each by its contract: Clamp, withoutOne, plus. Conditions: bytes, and the table of kept bits lies where the program's text lays it.
  Texts within a drawn region, and small lists of numbers as rows of their own: no program here. No conditions beyond those stated.
  The functions of package dominohelp on bytes, each by its contract. Conditions: the slices read as lists of bytes, of at most 2^44 bytes.
  The document's own eight and padded (package dominoref07) by their contracts: a number's eight bytes, the lowest first; bytes, and zeros up to a multiple of 16. Conditions: a number from 0 below 2^56, at most 2^40 bytes.
  The small functions of package chacha and of the document's own, each by its contract: turning, the quarter round, four bytes as a number, a number as four bytes. Conditions: the numbers fit their kinds.
  The quarter round, of package chacha and of the document's own, each by its contract. No conditions beyond those stated.
  Four bytes as a number and back, and a round at four places, each by its contract. Conditions: the numbers fit their kinds.
  s[l:h] of a slice at a block's start, and what it reads as: no program here. No conditions beyond those stated.
  The functions state, mixed and Block of package chacha by their contracts. Conditions: a key of 32 bytes, a nonce of 12, a counter of 32 bits; the table of package chacha lies where the program's text lays it.
  The functions mixed and Block of package chacha by their contracts. Conditions: a key of 32 bytes, a nonce of 12, a counter of 32 bits; the table of package chacha lies where the program's text lays it.
  The document's own Block by its contract. Conditions: a key of 32 bytes, a nonce of 12, a counter of 32 bits.
  More operations of a drawn region, one by one: make, append with new room, texts that are not alike; dominohelp.Bytes of like texts. No conditions beyond those stated.
  The document's own Xor by its contract. Conditions: a key of 32 bytes, a nonce of 12, a counter of 32 bits, at most 2^40 bytes.
  Numbers in forty bytes, carried and reduced modulo 2^130 - 5: no program here. No conditions beyond those stated.
-/
import Derived.Test.YtebcejncjljmhaaDoorB1
import Derived.Deep.MidRow
import Derived.Test.YtebcejncjljmhaaDoorRows
import Derived.Lib.LaidTab
import Derived.LaidMore
import Derived.Stop.Joined
import Derived.Stop.LaidErr
import Derived.Lib.EndianBits
import Derived.WalkLawsBesides
import Derived.IntWalk
import Derived.Lib.BufferOwn
import Derived.StillTailTactics
import Derived.Laws.Slices
import Derived.Deep.OwnRows
namespace Go.Proofs.YtebcejncjljmhaaDoor.Held
open Go.RowKit Go.Proofs.YtebcejncjljmhaaDoor.Mem
set_option linter.unusedVariables false
theorem op_copy_Row {P : Program} {ops : Array Oper} {Q : Exit → Act → World → Prop} (i : Nat) (dst : Option Tmp) {o : Oper} {a : Act} {w : World} {K : Act → World → Prop} {d s : Operand} (dT sT : TypeId) (hi : ops[i]? = some o) (hdst : o.dst = dst) (hw : Region.wanted o (yielded ops a.tmps) = true)
    (ho : o.op = .call { callee := .builtin .copy, args := #[d, s], argTypes := #[dT, sT] }) (e : TypeId) (hu : P.underlying dT = some (.slice e)) (hsz : (P.info? e).map (·.size) = some 1)
    (g off dLen dCap : Nat) (B : Nat) (A : Option Addr) (sLen sCap : Nat) (hd : a.eval d = .slice (some ⟨g, off, none⟩) dLen dCap) (hs : a.eval s = .slice A sLen sCap)
    (t : TypeId) (k : IntKind) (cur xs : List Int) (hr : Row w g t k cur) (hx : Ints w k B A sLen xs) (hfit : off + dLen ≤ cur.length)
    (h : ∀ w', Row w' g t k (laidOver cur off (xs.take (min sLen dLen))) → w.grownBy w' (some g) → K (a.put dst (.int .i64 ((min sLen dLen : Nat) : Int))) w') : wpOp P ops Q i K a w := by
  subst hdst
  refine op_wp i hi hw ?_
  obtain ⟨m, hm⟩ : ∃ m, min sLen dLen = m := ⟨_, rfl⟩
  rw [hm] at h
  have hlen : (xs.take m).length = m := by rw [List.length_take, hx.1]; omega
  by_cases h0 : m = 0
  · subst h0
    have hrun := run_copy_none (P := P) w dT sT o.type e (some ⟨g, off, none⟩) A dLen dCap sLen sCap hu hsz hm
    unfold Oper.wp
    simp [execOp, ho, resolve, invoke, builtin, hd, hs, hrun, Result.andThen]
    exact h w (by rw [List.take_zero, laidOver_nil]; exact hr) (World.grownBy.refl _ _)
  · obtain ⟨b, o2, rfl, _, hc⟩ := hx.2.2 (by omega)
    have hrun := run_copy_row (P := P) w dT sT o.type e g off dLen dCap ⟨b, o2, none⟩ sLen sCap (cur.map (Value.int k)).toArray t ((xs.take m).map (Value.int k)) hu hsz hr.2 (by rw [List.length_map, hlen]; exact hm.symm)
      (fun j v hv => by
        have hj : j < m := by
          have := (List.getElem?_eq_some_iff.1 hv).1
          rw [List.length_map, hlen] at this
          exact this
        have e1 : (Addr.mk b o2 none).add j = ⟨b, o2 + j, none⟩ := by unfold Addr.add; split <;> simp_all
        rw [e1, hc j (by omega), ← hv]
        simp [List.getD_eq_getElem?_getD, hj, show j < xs.length by have := hx.1; omega])
      (by simp [hx.1]; omega) (by intro v hv; obtain ⟨z, _, rfl⟩ := List.mem_map.1 hv; rfl)
    have hcells : (((cur.map (Value.int k)).toArray.toList.take off ++ ((xs.take m).map (Value.int k) ++ (cur.map (Value.int k)).toArray.toList.drop (off + ((xs.take m).map (Value.int k)).length)))).toArray = arr k (laidOver cur off (xs.take m)) := by
      rw [List.length_map, hlen]
      simp [arr, laidOver, List.map_take, List.map_drop, hlen]
    have hrun' : (Builtin.copy_ #[dT, sT] o.type #[.slice (some ⟨g, off, none⟩) dLen dCap, .slice (some ⟨b, o2, none⟩) sLen sCap]).run P w = .ok (.int .i64 (m : Int)) (w.setRow g (arr k (laidOver cur off (xs.take m)))) := by
      rw [← hcells]
      have := hrun
      rw [List.length_map, hlen, List.append_assoc] at this
      rw [List.length_map, hlen]
      exact this
    unfold Oper.wp
    simp [execOp, ho, resolve, invoke, builtin, hd, hs, hrun', Result.andThen]
    exact h _ (hr.setRow (fun z hz => by
      rcases laidOver_mem hz with h1 | h1
      · exact hr.1 z h1
      · exact hx.2.1 z (List.mem_of_mem_take h1))) (grown_setRow _ _ _)
end Go.Proofs.YtebcejncjljmhaaDoor.Held
namespace Go.Proofs.YtebcejncjljmhaaDoor.Mem
open Go.RowKit Go.Shelf
set_option linter.unusedVariables false

theorem run_store_elem {P : Program} {w : World} (ty : TypeId) (g i : Nat) (u v : Value) (hc : w.cell? ⟨g, i, none⟩ = some u) (hf : w.frozen? ⟨g, i, none⟩ = false) (hsz : (P.info? ty).map (·.size) = some 1) (h1 : v.cells = #[v]) (ho1 : v.oneCell' = true) :
    (storeVar ty ⟨g, i, none⟩ v).run P w = .ok () (w.setCell ⟨g, i, none⟩ v) := by
  have hz : (sizeOf ty).run P w = .ok 1 w := by
    cases hq : P.info? ty with
    | none => simp [hq] at hsz
    | some q => simp [hq] at hsz; simp [sizeOf, typeInfo, hq, hsz]
  have ea : (Addr.mk g i none).add 0 = ⟨g, i, none⟩ := by unfold Addr.add; split <;> simp_all
  simp [storeVar, hz, h1, Sem.run_bind, Result.andThen, storeCells, run_store P w _ v _ ho1, ea, hc, hf]
/-- a store of one number into a block that is known whole, the new world a letter -/
theorem wpList_store_elem {P : Program} {ops : Array Oper} {rest : List Oper} {o : Oper} {a : Act} {w : World} {Q : Exit → Act → World → Prop} (hgd : o.guard = none) (ty : TypeId) (x y : Operand) (ho : o.op = .store ty x y) (g i : Nat) (hx : a.eval x = .pointer (some ⟨g, i, none⟩)) (t : TypeId) (k : IntKind) (zs : List Int) (z : Int) (hy : a.eval y = .int k z)
    (hr : Row w g t k zs) (hi : i < zs.length) (hsz : (P.info? ty).map (·.size) = some 1) (hz : (Lit.int k z).wf = true)
    (h : ∀ w', Row w' g t k (zs.set i z) → w.grownBy w' (some g) → Hid (w'.heap.size = w.heap.size) → wpList P ops Q rest (a.put o.dst undef) w') : wpList P ops Q (o :: rest) a w := by
  refine wpList_plain hgd fun K hK => ?_
  unfold Oper.wp execOp
  simp only [ho, hx, hy, Instr.storeAt, Instr.sureAddr, Sem.run_bind, Sem.run_pure, Result.andThen_ok, run_store_elem ty g i _ (.int k z) (hr.cell hi) (hr.frozen i) hsz rfl rfl]
  exact hK _ _ (h _ (hr.set i hz) (grown_setCell _ _ _ _) (Lib.hid (by simp [World.setCell])))
/-- a whole array read, by an operation that may bear a guard -/
theorem wpList_load_RowG {P : Program} {ops : Array Oper} {rest : List Oper} {o : Oper} {a : Act} {w : World} {Q : Exit → Act → World → Prop} (hw : Region.wanted o (yielded ops a.tmps) = true) (ty : TypeId) (x : Operand) (ho : o.op = .load ty x) (g : Nat) (hx : a.eval x = .pointer (some ⟨g, 0, none⟩)) (t : TypeId) (k : IntKind) (zs : List Int) (hr : Row w g t k zs)
    (n : Nat) (e : TypeId) (hu : P.underlying ty = some (.array n e)) (hi : (P.info? ty).map (·.size) = some n) (hn : zs.length = n)
    (h : wpList P ops Q rest (a.put o.dst (.agg (arr k zs))) w) : wpList P ops Q (o :: rest) a w :=
  wpList_step fun _ hK => by
    rw [if_pos hw]
    exact wp_load_row ty x ho g hx t (arr k zs) (0, 0) _ hr.2 hu rfl (by rw [hi, arr_size, hn]) (hK _ _ h)
end Go.Proofs.YtebcejncjljmhaaDoor.Mem
namespace Go.Proofs.YtebcejncjljmhaaDoor.Held
open Go.RowKit Go.Proofs.YtebcejncjljmhaaDoor.Mem
set_option linter.unusedVariables false

section
variable {P : Program}
theorem run_addr_arr (t e : TypeId) (n g i : Nat) (k : IntKind) (ht : P.underlying t = some (.array n e)) (hs : (P.info? e).map (·.size) = some 1) (hi : i < n) (w : World) :
    (Instr.indexAt t (.pointer (some ⟨g, 0, none⟩)) (.int k (i : Int))).run P w = .ok (.pointer (some ⟨g, i, none⟩)) w := by
  have he : P.elem t = e := by simp [Program.elem, ht]
  have hl : P.arrayLen t = n := by simp [Program.arrayLen, ht]
  have hz : (sizeOf e).run P w = .ok 1 w := by
    cases hq : P.info? e with
    | none => simp [hq] at hs
    | some q => simp [hq] at hs; simp [sizeOf, typeInfo, hq, hs]
  have ea : (Addr.mk g 0 none).add i = ⟨g, i, none⟩ := by unfold Addr.add; split <;> simp_all
  rw [run_indexAt_array w t ⟨g, 0, none⟩ k (i : Int) (by rw [he, hl]; exact ht), he, hl, if_pos ⟨by omega, by omega⟩, hz]
  simp [Result.andThen, ea]
theorem run_addr_slice (t e : TypeId) (b off len cap i : Nat) (k : IntKind) (ht : P.underlying t = some (.slice e)) (hs : (P.info? e).map (·.size) = some 1) (hi : i < len) (w : World) :
    (Instr.indexAt t (.slice (some ⟨b, off, none⟩) len cap) (.int k (i : Int))).run P w = .ok (.pointer (some ⟨b, off + i, none⟩)) w := by
  have he : P.elem t = e := by simp [Program.elem, ht]
  have hz : (sizeOf e).run P w = .ok 1 w := by
    cases hq : P.info? e with
    | none => simp [hq] at hs
    | some q => simp [hq] at hs; simp [sizeOf, typeInfo, hq, hs]
  have ea : (Addr.mk b off none).add i = ⟨b, off + i, none⟩ := by unfold Addr.add; split <;> simp_all
  rw [run_indexAt_slice w t ⟨b, off, none⟩ len cap k (i : Int) (by rw [he]; exact ht), he, if_pos ⟨by omega, by omega⟩, hz]
  simp [Result.andThen, ea]
theorem run_mul (t : TypeId) (k : IntKind) {a b r : Int} (hr : k.wrap (a * b) = r) (w : World) : (binOp .mul t (.int k a) (.int k b)).run P w = .ok (.int k r) w := by simp [binOp, Op.intArith, hr]
end
section
variable {P : Program} {S : World → Prop} {ρ : Operand → Value} {o : Oper}
theorem y_addr {t : TypeId} {x ix : Operand} {u v r : Value} (ho : o.op = .indexAddr t x ix) (hx : ρ x = u) (hi : ρ ix = v) (hr : ∀ w, (Instr.indexAt t u v).run P w = .ok r w) : ∀ w, S w → (execOp ρ o).run P w = .ok (.value r) w := fun w _ => by
  simp [execOp, ho, hx, hi, hr w]
theorem y_index {t : TypeId} {x ix : Operand} {u v r : Value} (ho : o.op = .index t x ix) (hx : ρ x = u) (hi : ρ ix = v) (hr : ∀ w, (Instr.index t u v).run P w = .ok r w) : ∀ w, S w → (execOp ρ o).run P w = .ok (.value r) w := fun w _ => by
  simp [execOp, ho, hx, hi, hr w]
end
theorem run_bitop {P : Program} {op : BinOp} (hop : op = .xor ∨ op = .or ∨ op = .and) (t : TypeId) (k : IntKind) {a b r : Int} (hr : bits op k a b = r) (w : World) : (binOp op t (.int k a) (.int k b)).run P w = .ok (.int k r) w := by
  subst hr; rcases hop with rfl | rfl | rfl <;> simp [binOp, Op.intBits, bits]
theorem run_shr {P : Program} (t : TypeId) (k k' : IntKind) {a r : Int} (n : Nat) (hn : n ≤ k.bits) (hr : a / 2 ^ n = r) (w : World) : (binOp .shr t (.int k a) (.int k' (n : Int))).run P w = .ok (.int k r) w := by
  subst hr
  rw [binOp_shr, shift_shr k k' a (n : Int) (by omega) (by omega), Int.toNat_natCast]
  rfl
/-- a store of one number into a block that is known whole -/
theorem op_store_elem {P : Program} {ops : Array Oper} {Q : Exit → Act → World → Prop} (i : Nat) (d : Option Tmp) {o : Oper} {a : Act} {w : World} {K : Act → World → Prop} (ty : TypeId) {x y : Operand} (g j : Nat) (t : TypeId) (k : IntKind) (zs : List Int) (z : Int) (hi : ops[i]? = some o) (hd : o.dst = d) (hw : Region.wanted o (yielded ops a.tmps) = true)
    (ho : o.op = .store ty x y) (hx : a.eval x = .pointer (some ⟨g, j, none⟩)) (hy : a.eval y = .int k z) (hr : Row w g t k zs) (hj : j < zs.length) (hsz : (P.info? ty).map (·.size) = some 1) (hz : (Lit.int k z).wf = true)
    (h : ∀ w', Row w' g t k (zs.set j z) → w.grownBy w' (some g) → K (a.put d undef) w') : wpOp P ops Q i K a w := by
  subst hd
  refine op_wp i hi hw ?_
  unfold Oper.wp execOp
  simp only [ho, hx, hy, Instr.storeAt, Instr.sureAddr, Sem.run_bind, Sem.run_pure, Result.andThen_ok, run_store_elem ty g j _ (.int k z) (hr.cell hj) (hr.frozen j) hsz rfl rfl]
  exact h _ (hr.set j hz) (grown_setCell _ _ _ _)
end Go.Proofs.YtebcejncjljmhaaDoor.Held
namespace Go.Proofs.YtebcejncjljmhaaDoor.Held
open Go.RowKit Go.Proofs.YtebcejncjljmhaaDoor.Mem
set_option linter.unusedVariables false

theorem wpList_store_box {P : Program} {ops : Array Oper} {rest : List Oper} {o : Oper} {a : Act} {w : World} {Q : Exit → Act → World → Prop} (hw : Region.wanted o (yielded ops a.tmps) = true) (ty : TypeId) (x y : Operand) (ho : o.op = .store ty x y) (g : Nat) (hx : a.eval x = .pointer (some ⟨g, 0, none⟩)) (t : TypeId) (old v : Value) (hy : a.eval y = v)
    (hb : w.heap[g]? = some (.cells #[old] t (0, 0))) (hsz : (P.info? ty).map (·.size) = some 1) (h1 : v.cells = #[v]) (ho1 : v.oneCell' = true)
    (h : ∀ w', w'.heap[g]? = some (.cells #[v] t (0, 0)) → w.grownBy w' (some g) → wpList P ops Q rest (a.put o.dst undef) w') : wpList P ops Q (o :: rest) a w :=
  wpList_step fun _ hK => by
    rw [if_pos hw]
    unfold Oper.wp execOp
    simp only [ho, hx, hy, Instr.storeAt, Instr.sureAddr, Sem.run_bind, Sem.run_pure, Result.andThen_ok, run_store_box ty g t old v hb hsz h1 ho1]
    exact hK _ _ (h _ (one_setCell hb) (grown_setCell _ _ _ _))
theorem row_form {w : World} {base : Nat} {e : TypeId} {s n : Nat} {v : Value} {xs : List Value} (h : w.ownsRow base e s v n xs) : ∃ A c, v = .slice A n c ∧ n ≤ c ∧ c ≤ maxLen := by
  rcases h.2 with ⟨rfl, hn⟩ | ⟨g, cap, cur, rfl, _, _, h1, h2, _⟩
  · exact ⟨none, 0, by rw [hn], by omega, by simp [maxLen]⟩
  · exact ⟨_, cap, rfl, h1, h2⟩
theorem run_equalIn_func {P : Program} (d : Nat) (t : TypeId) {ps rs : Array TypeId} {v : Bool} (ht : P.underlying t = some (.func ps rs v)) (f : Fn) (xs ys : Array Value) (w : World) : (Op.equalIn (d + 1) t (.func f xs ys) .nilFunc).run P w = .ok false w := by
  simp [Op.equalIn, run_underlying ht]
theorem run_func_nil {P : Program} (t : TypeId) {ps rs : Array TypeId} {v : Bool} (ht : P.underlying t = some (.func ps rs v)) (f : Fn) (xs ys : Array Value) (w : World) : (binOp .eql t (.func f xs ys) .nilFunc).run P w = .ok (.bool false) w := by
  have h : (Op.equal t (.func f xs ys) .nilFunc).run P w = .ok false w := run_equalIn_func 9999 t ht f xs ys w
  simp only [binOp]
  simp [h]
/-- a new variable of one cell, the new world a letter -/
theorem wpList_alloc_cell {P : Program} {ops : Array Oper} {rest : List Oper} {o : Oper} {a : Act} {w : World} {Q : Exit → Act → World → Prop} (hw : Region.wanted o (yielded ops a.tmps) = true) (ty : TypeId) (ho : o.op = .alloc ty) (z : Value) (hz : (P.info? ty).bind (·.zero) = some z) (h1 : z.cells = #[z])
    (h : ∀ w', w'.heap[w.heap.size]? = some (.cells #[z] ty (0, 0)) → w.grownBy w' none → Hid (w'.heap.size = w.heap.size + 1) → wpList P ops Q rest (a.put o.dst (.pointer (some ⟨w.heap.size, 0, none⟩))) w') : wpList P ops Q (o :: rest) a w :=
  wpList_step fun _ hK => by
    rw [if_pos hw]
    unfold Oper.wp execOp
    simp only [ho, run_alloc_one ty z hz h1, Sem.run_bind, Sem.run_pure, Result.andThen_ok]
    exact hK _ _ (h _ (heap_alloc_new w _) (World.grownBy_alloc w _ none) (Lib.hid (by simp)))
theorem y_nei {P : Program} {S : World → Prop} {ρ : Operand → Value} {o : Oper} {t ty : TypeId} {x y : Operand} {k : IntKind} {a : Int} (ho : o.op = .binOp .neq t x y ty) (hx : ρ x = .int k a) (hy : ρ y = .int k a) :
    ∀ w, S w → (execOp ρ o).run P w = .ok (.value (.bool false)) w := y_bin ho hx hy (fun w => by simp [eqGuard]) (fun w => by simp [binOp, Op.intCmp])
theorem eq_arr {P : Program} (w : World) (t e : TypeId) (n : Nat) (k : IntKind) (zs : List Int) (ht : P.underlying t = some (.array n e)) (he : P.underlying e = some (.int k)) (hs : (P.info? e).map (·.size) = some 1) (hx : zs.length = n) :
    (Op.equal t (.agg (arr k zs)) (.agg (arr k zs))).run P w = .ok true w := by
  have h := eql_arr (P := P) w t e n k zs ht he hs hx
  rw [run_eql_struct] at h
  have e1 : (Op.equal t (.agg (arr k zs)) (.agg (arr k zs))).run P w = (Op.equalIn 10000 t (.agg (arr k zs)) (.agg (arr k zs))).run P w := rfl
  rw [e1]
  generalize (Op.equalIn 10000 t (.agg (arr k zs)) (.agg (arr k zs))).run P w = r at h
  cases r with
  | ok b w' =>
    simp only [Result.andThen_ok, Result.ok.injEq, Value.bool.injEq] at h
    rw [h.1, h.2]
  | halt h' w' => simp [Result.andThen] at h
theorem y_neql {P : Program} {S : World → Prop} {ρ : Operand → Value} {o : Oper} {t e ty : TypeId} {x y : Operand} {k : IntKind} {zs : List Int} {n : Nat} (ho : o.op = .binOp .neq t x y ty) (hx : ρ x = .agg (arr k zs)) (hy : ρ y = .agg (arr k zs)) (hq : P.eqGuardType P.depth t = false) (ht : P.underlying t = some (.array n e)) (he : P.underlying e = some (.int k)) (hs : (P.info? e).map (·.size) = some 1) (hn : zs.length = n) :
    ∀ w, S w → (execOp ρ o).run P w = .ok (.value (.bool false)) w := y_bin ho hx hy (fun w => by simp [eqGuard, hq]) (fun w => by
      have h := eq_arr (P := P) w t e n k zs ht he hs hn
      simp only [binOp]
      simp [h])
theorem run_addr_block {P : Program} (t e : TypeId) (g len cap i s : Nat) (k : IntKind) (ht : P.underlying t = some (.slice e)) (hs : (P.info? e).map (·.size) = some s) (hi : i < len) (w : World) :
    (Instr.indexAt t (.slice (some ⟨g, 0, none⟩) len cap) (.int k (i : Int))).run P w = .ok (.pointer (some ⟨g, i * s, none⟩)) w := by
  have he : P.elem t = e := by simp [Program.elem, ht]
  have hz : (sizeOf e).run P w = .ok s w := by
    cases hq : P.info? e with
    | none => simp [hq] at hs
    | some q => simp [hq] at hs; simp [sizeOf, typeInfo, hq, hs]
  have ea : (Addr.mk g 0 none).add (i * s) = ⟨g, i * s, none⟩ := by unfold Addr.add; split <;> simp_all
  rw [run_indexAt_slice w t ⟨g, 0, none⟩ len cap k (i : Int) (by rw [he]; exact ht), he, if_pos ⟨by omega, by omega⟩, hz]
  simp [Result.andThen, ea]
theorem y_load_mid {P : Program} {S : World → Prop} {ρ : Operand → Value} {o : Oper} {ty : TypeId} {x : Operand} {b off n : Nat} {e : TypeId} {k : IntKind} {zs : List Int} (ho : o.op = .load ty x) (hx : ρ x = .pointer (some ⟨b, off, none⟩)) (hu : P.underlying ty = some (.array n e)) (hi : (P.info? ty).map (·.size) = some n) (hn : zs.length = n)
    (hr : ∀ w, S w → w.rangeAt b off (zs.map (Value.int k))) : ∀ w, S w → (execOp ρ o).run P w = .ok (.value (.agg (arr k zs))) w := fun w hw => by
  have h := run_loadAt_mid (P := P) w b off ty (zs.map (Value.int k)) _ (hr w hw) hu rfl (by rw [hi, List.length_map, hn])
  simp [execOp, ho, hx, h, arr]
theorem range_below {B : Nat} {w w' : World} {b o : Nat} {cs : List Value} (h : w.rangeAt b o cs) (hb : Below B w w') (hB : b < B) : w'.rangeAt b o cs := fun j v hv => (hb.cell (p := ⟨b, o + j, none⟩) hB).trans (h j v hv)
end Go.Proofs.YtebcejncjljmhaaDoor.Held
namespace Go.Proofs.YtebcejncjljmhaaDoor.Sha
open Go.RowKit Go.Proofs.YtebcejncjljmhaaDoor.Mem
set_option linter.unusedVariables false

/-- a table of numbers of 32 bits, at a variable's block -/
def Tab (w : World) (g : Nat) (zs : List Int) : Prop := ∃ t fr, w.heap[g]? = some (.cells (arr .u32 zs) t fr)
section
variable {w w' : World} {g : Nat} {zs : List Int}
theorem Tab.lt (h : Tab w g zs) : g < w.heap.size := by obtain ⟨t, fr, h⟩ := h; exact (Array.getElem?_eq_some_iff.1 h).1
theorem Tab.below {B : Nat} (h : Tab w g zs) (hb : Below B w w') (hg : g < B) : Tab w' g zs := by obtain ⟨t, fr, h⟩ := h; exact ⟨t, fr, (hb.block g hg).trans h⟩
theorem Tab.cell (h : Tab w g zs) {i : Nat} (hi : i < zs.length) : w.cell? ⟨g, i, none⟩ = some (.int .u32 (zs.getD i 0)) := by
  obtain ⟨t, fr, h⟩ := h
  rw [cell_of_row w g i _ t fr h, arr_get _ _ hi]
end

theorem tab_of_var {w : World} {name : String} {g : Nat} {zs : List Int} (hg : Tryd.prog.globalNamed name = some g) (h : Lib.TabIs Tryd.prog w name .u32 zs) : Tab w g zs := by
  unfold Lib.TabIs World.var? at h
  rw [hg, Option.bind_some] at h
  cases hb : w.heap[g]? with
  | none => rw [hb] at h; cases h
  | some o =>
    rw [hb] at h
    cases o with
    | cells cs t fr => simp only [Option.some.injEq] at h; exact ⟨t, fr, by rw [hb, h]; rfl⟩
    | _ => cases h
end Go.Proofs.YtebcejncjljmhaaDoor.Sha
namespace Go.Proofs.YtebcejncjljmhaaDoor.Sha
open Go.RowKit Go.Proofs.YtebcejncjljmhaaDoor.Mem
theorem Tab.only {S : Nat → Prop} {w w' : World} {g : Nat} {zs : List Int} (h : Tab w g zs) (ho : Only S w w') (hg : ¬ S g) : Tab w' g zs := by
  obtain ⟨t, fr, h⟩ := h
  exact ⟨t, fr, ho.block g _ hg h rfl⟩
end Go.Proofs.YtebcejncjljmhaaDoor.Sha
namespace Go.Proofs.YtebcejncjljmhaaDoor.Po
open Go.RowKit Go.Proofs.YtebcejncjljmhaaDoor.Mem Go.Proofs.YtebcejncjljmhaaDoor.Sum
set_option linter.unusedVariables false

/-- a table of numbers of kind k, at a variable's block -/
def TabK (w : World) (g : Nat) (k : IntKind) (zs : List Int) : Prop := ∃ t fr, w.heap[g]? = some (.cells (arr k zs) t fr)
section
variable {w w' : World} {g : Nat} {k : IntKind} {zs : List Int}
theorem TabK.lt (h : TabK w g k zs) : g < w.heap.size := by obtain ⟨t, fr, h⟩ := h; exact (Array.getElem?_eq_some_iff.1 h).1
theorem TabK.below {B : Nat} (h : TabK w g k zs) (hb : Below B w w') (hg : g < B) : TabK w' g k zs := by obtain ⟨t, fr, h⟩ := h; exact ⟨t, fr, (hb.block g hg).trans h⟩
theorem TabK.cell (h : TabK w g k zs) {i : Nat} (hi : i < zs.length) : w.cell? ⟨g, i, none⟩ = some (.int k (zs.getD i 0)) := by
  obtain ⟨t, fr, h⟩ := h
  rw [cell_of_row w g i _ t fr h, arr_get _ _ hi]
theorem TabK.only {S : Nat → Prop} (h : TabK w g k zs) (ho : Only S w w') (hg : ¬ S g) : TabK w' g k zs := by
  obtain ⟨t, fr, h⟩ := h
  exact ⟨t, fr, ho.block g _ hg h rfl⟩
end
theorem tabK_of_var {P : Program} {w : World} {name : String} {g : Nat} {k : IntKind} {zs : List Int} (hg : P.globalNamed name = some g) (h : Lib.TabIs P w name k zs) : TabK w g k zs := by
  unfold Lib.TabIs World.var? at h
  rw [hg, Option.bind_some] at h
  cases hb : w.heap[g]? with
  | none => rw [hb] at h; cases h
  | some o =>
    rw [hb] at h
    cases o with
    | cells cs t fr => simp only [Option.some.injEq] at h; exact ⟨t, fr, by rw [hb, h]; rfl⟩
    | _ => cases h

section
variable {P : Program} {ops : Array Oper} {rest : List Oper} {o : Oper} {a : Act} {w : World} {Q : Exit → Act → World → Prop}
/-- an array out of a slice: its address -/
theorem wpList_arrayAt (hgd : o.guard = none) (ty : TypeId) (x : Operand) (ho : o.op = .sliceToArrayPointer ty x) (A : Option Addr) (len cap n : Nat) (e : TypeId) (hx : a.eval x = .slice A len cap) (hu : P.underlying ty = some (.array n e)) (hn : n ≤ len)
    (h : wpList P ops Q rest (a.put o.dst (.pointer A)) w) : wpList P ops Q (o :: rest) a w := by
  refine wpList_plain hgd fun K hK => ?_
  have hl : ¬ len < n := by omega
  unfold Oper.wp execOp
  simp only [ho, hx, Instr.arrayAt, Sem.run_bind, run_underlying hu, Result.andThen_ok, hl, if_false, Sem.run_pure]
  exact hK _ _ h
theorem rangeAt_row {g : Nat} {t : TypeId} {k : IntKind} {zs : List Int} (hr : Row w g t k zs) (off n : Nat) : w.rangeAt g off (((zs.drop off).take n).map (Value.int k)) := fun j v hv => by
  have hj := (List.getElem?_eq_some_iff.1 hv).1
  simp only [List.length_map, List.length_take, List.length_drop] at hj
  rw [hr.cell (by omega), ← hv]
  simp [List.getD_eq_getElem?_getD, show j < n by omega, show off + j < zs.length by omega]
/-- some numbers of a block that is known whole, as an array -/
theorem wpList_load_midRow (hgd : o.guard = none) (ty : TypeId) (x : Operand) (ho : o.op = .load ty x) (g off : Nat) (hx : a.eval x = .pointer (some ⟨g, off, none⟩)) (t : TypeId) (k : IntKind) (zs : List Int) (hr : Row w g t k zs) (n : Nat) (e : TypeId)
    (hu : P.underlying ty = some (.array n e)) (hi : (P.info? ty).map (·.size) = some n) (hn : off + n ≤ zs.length) (h : wpList P ops Q rest (a.put o.dst (.agg (arr k ((zs.drop off).take n)))) w) : wpList P ops Q (o :: rest) a w := by
  refine wpList_load_mid hgd ty x ho g off hx (((zs.drop off).take n).map (Value.int k)) _ (rangeAt_row hr off n) hu rfl (by rw [hi]; simp; omega) ?_
  exact h
end

/-! ### Masks -/
theorem mask_u64 (x : Int) (n : Nat) (hx : 0 ≤ x) (hx' : x < 18446744073709551616) (hn : n ≤ 63) : bits .and .u64 x (2 ^ n - 1) = x % 2 ^ n := by
  obtain ⟨a, rfl⟩ := Int.eq_ofNat_of_zero_le hx
  have hp : (2 : Nat) ^ n ≤ 2 ^ 63 := Nat.pow_le_pow_right (by omega) hn
  have h1 : 0 < 2 ^ n := Nat.pow_pos (by omega)
  have e : ((2 : Int) ^ n - 1) = ((2 ^ n - 1 : Nat) : Int) := by
    rw [Int.natCast_sub h1, Int.natCast_pow]
    rfl
  rw [e, u64_and _ _ hx hx' (by omega) (by omega), Int.toNat_natCast, Int.toNat_natCast, Nat.and_two_pow_sub_one_eq_mod, Int.natCast_emod, Int.natCast_pow]
  rfl
theorem mask_limb (x : Int) (hx : 0 ≤ x) (hx' : x < 18446744073709551616) : bits .and .u64 x 67108863 = x % 67108864 := mask_u64 x 26 hx hx' (by omega)
theorem mask_u32 (x : Int) (n : Nat) (hx : 0 ≤ x) (hx' : x < 4294967296) (hn : n ≤ 31) : bits .and .u32 x (2 ^ n - 1) = x % 2 ^ n := by
  obtain ⟨a, rfl⟩ := Int.eq_ofNat_of_zero_le hx
  have hp : (2 : Nat) ^ n ≤ 2 ^ 31 := Nat.pow_le_pow_right (by omega) hn
  have h1 : 0 < 2 ^ n := Nat.pow_pos (by omega)
  have e : ((2 : Int) ^ n - 1) = ((2 ^ n - 1 : Nat) : Int) := by
    rw [Int.natCast_sub h1, Int.natCast_pow]
    rfl
  rw [e, u32_and _ _ hx hx' (by omega) (by omega), Int.toNat_natCast, Int.toNat_natCast, Nat.and_two_pow_sub_one_eq_mod, Int.natCast_emod, Int.natCast_pow]
  rfl
theorem mask_byte (x : Int) (hx : 0 ≤ x) (hx' : x < 4294967296) : bits .and .u32 x 255 = x % 256 := mask_u32 x 8 hx hx' (by omega)
theorem mask_two (x : Int) (hx : 0 ≤ x) (hx' : x < 4294967296) : bits .and .u32 x 3 = x % 4 := mask_u32 x 2 hx hx' (by omega)
theorem and8 : ∀ x : Fin 256, bits .and .u8 (x.val : Int) 15 = x.val % 16 ∧ bits .and .u8 (x.val : Int) 252 = x.val / 4 * 4 ∧ bits .and .u8 (x.val : Int) 255 = x.val ∧ bits .and .u8 (x.val : Int) 127 = x.val % 128 := by decide +kernel
theorem and_byte {x : Int} (h : 0 ≤ x ∧ x ≤ 255) : bits .and .u8 x 15 = x % 16 ∧ bits .and .u8 x 252 = x / 4 * 4 ∧ bits .and .u8 x 255 = x ∧ bits .and .u8 x 127 = x % 128 := by
  have := and8 ⟨x.toNat, by omega⟩
  rwa [show ((x.toNat : Nat) : Int) = x by omega] at this
def keptI : List Int := [255, 255, 255, 15, 252, 255, 255, 15, 252, 255, 255, 15, 252, 255, 255, 15]
theorem kept_get : ∀ i : Fin 16, keptI.getD i.val 0 = if i.val % 4 = 3 then 15 else if i.val = 4 ∨ i.val = 8 ∨ i.val = 12 then 252 else 255 := by decide
theorem clamp_kept {key : List Int} (h : Bs key) {i : Nat} (hi : i < 16) : bits .and .u8 (key.getD i 0) (keptI.getD i 0) = (clamp key).getD i 0 := by
  have e : (clamp key).getD i 0 = clampAt key i := by simp [clamp, List.getD_eq_getElem?_getD, hi]
  have k := kept_get ⟨i, hi⟩
  simp only at k
  have a := and_byte (h.at_ i)
  rw [e, k, clampAt]
  split
  · exact a.1
  · split
    · exact a.2.1
    · exact a.2.2.1
theorem wf_byte {z : Int} (h : 0 ≤ z ∧ z ≤ 255) : (Lit.int .u8 z).wf = true := by simp [Lit.wf, IntKind.min, IntKind.max, IntKind.signed, IntKind.bits]; omega
theorem bs_wf {zs : List Int} (h : Bs zs) : ∀ z ∈ zs, (Lit.int .u8 z).wf = true := fun z hz => wf_byte (h z hz)
theorem wf_64 {z : Int} (h : 0 ≤ z ∧ z < 18446744073709551616) : (Lit.int .u64 z).wf = true := by simp [Lit.wf, IntKind.min, IntKind.max, IntKind.signed, IntKind.bits]; omega
theorem wf_32 {z : Int} (h : 0 ≤ z ∧ z < 4294967296) : (Lit.int .u32 z).wf = true := by simp [Lit.wf, IntKind.min, IntKind.max, IntKind.signed, IntKind.bits]; omega
end Go.Proofs.YtebcejncjljmhaaDoor.Po
namespace Go.Proofs.YtebcejncjljmhaaDoor.Po
open Go.RowKit Go.Shelf Go.Proofs.YtebcejncjljmhaaDoor.Mem Go.Proofs.YtebcejncjljmhaaDoor.Sum
set_option linter.unusedVariables false
attribute [local irreducible] wpList wpListIn

theorem info_16b : (Tryd.prog.info? 41).map (·.size) = some 16 := by kernel_rfl
theorem info_17 : (Tryd.prog.info? 65).map (·.size) = some 17 := by kernel_rfl
theorem info_num : (Tryd.prog.info? 63).map (·.size) = some 5 := by kernel_rfl
theorem info_ten : (Tryd.prog.info? 68).map (·.size) = some 10 := by kernel_rfl
theorem info_u8 : (Tryd.prog.info? 5).map (·.size) = some 1 := by kernel_rfl
theorem info_u64 : (Tryd.prog.info? 43).map (·.size) = some 1 := by kernel_rfl
theorem zero_16b : (Tryd.prog.info? 41).bind (·.zero) = some (.agg (arr .u8 (List.replicate 16 0))) := by kernel_rfl
theorem zero_17 : (Tryd.prog.info? 65).bind (·.zero) = some (.agg (arr .u8 (List.replicate 17 0))) := by kernel_rfl
theorem zero_num : (Tryd.prog.info? 63).bind (·.zero) = some (.agg (arr .u64 (List.replicate 5 0))) := by kernel_rfl
theorem zero_ten : (Tryd.prog.info? 68).bind (·.zero) = some (.agg (arr .u64 (List.replicate 10 0))) := by kernel_rfl

set_option maxRecDepth 100000 in
theorem clamp_any (key : List Int) (w : World) (hk : key.length = 32) (hkb : Bs key) (hT : TabK w 0 .u8 keptI) :
    Calls Tryd.prog 44 #[.agg (arr .u8 key)] w fun e w' => e = .returned (.agg (arr .u8 (clamp key))) ∧ Below w.heap.size w w' := by
  have HK := Lib.hid hk
  have HC := Lib.hid (fun i (h : i < 16) => clamp_kept hkb h)
  have HL := Lib.hid (clamp_length key)
  have HW := Lib.hid (bs_wf (clamp_bytes hkb))
  have HT := Lib.hid (show (key.take 16).length = 16 by simp [hk])
  have HG := Lib.hid (fun i (h : i < 16) => show (key.take 16).getD i 0 = key.getD i 0 by simp [List.getD_eq_getElem?_getD, h])
  clear hk
  go_enter Tryd.func44, Tryd.ntmps44
  go_wp2_with (first
    | (refine wpList_box_Row (w := w) rfl 22 _ rfl .u8 key rfl (bs_wf hkb) ?_; intro w1 r1 g1 z1)
    | (refine wpList_alloc_Row (w := w1) rfl 41 rfl .u8 16 zero_16b ?_; intro w2 r2 g2 z2; have p2 := r1.grown g2 (by simp); have hsl : ∀ W, (Instr.sliceAt 22 (.pointer (some ⟨w.heap.size, 0, none⟩)) none (some (.int .i64 16)) none).run Tryd.prog W = .ok (.slice (some ⟨w.heap.size, 0, none⟩) 16 32) W := fun W => Held.run_slice_arr_h (P := Tryd.prog) 22 5 32 w.heap.size 16 W Tryd.underlying22 (by kernel_rfl) (by omega) (by omega))
    | (refine wpList_arrayAt rfl 41 _ rfl _ 16 32 16 5 rfl Tryd.underlying41 (by omega) ?_)
    | (refine wpList_load_midRow (w := w2) rfl 41 _ rfl w.heap.size 0 rfl 22 .u8 key p2 16 5 Tryd.underlying41 info_16b (by rw [HK.out]; omega) ?_)
    | (refine wpList_alloc_Row (w := w2) rfl 41 rfl .u8 16 zero_16b ?_; intro w3 r3 g3 z3)
    | (refine wpList_store_RowTo (w := w3) rfl 41 _ _ rfl w2.heap.size rfl 41 .u8 _ (key.take 16) rfl r3 16 info_16b HT.out (by simp) (fun z hz => bs_wf hkb z (List.mem_of_mem_take hz)) ?_; intro w4 r4 g4 z4))
  obtain ⟨gr, hgr⟩ : ∃ g, w1.heap.size = g := ⟨_, rfl⟩
  obtain ⟨ga, hga⟩ : ∃ g, w2.heap.size = g := ⟨_, rfl⟩
  have l1 := r1.lt
  have l2 := r2.lt
  have l3 := r3.lt
  have s4 := g4.size
  have b4 : Below w.heap.size w w4 := ((((Below.refl _ w).grown g1 (Nat.le_refl _) (by simp)).grown g2 g1.size (by simp)).grown g3 (by omega) (by simp)).grown g4 (by omega) (fun r e => by cases e; omega)
  have e4 := (r2.grown g3 (by simp)).grown g4 (by intro e; injection e with e; omega)
  rw [hgr] at l2 e4
  rw [hga] at l2 l3 r4 ⊢
  rw [hgr]
  have hwa : w.heap.size < ga := by omega
  have hra : gr < ga := l2
  have hwr : w.heap.size < gr := by omega
  clear hgr hga r1 r2 r3 g1 g2 g3 g4 z1 z2 z3 z4 p2 hsl l1 l2 l3 s4
  go_loopw [8] (fun i wr => ∃ k : Nat, k ≤ 16 ∧ i = .int .i64 k ∧ Below w.heap.size w wr ∧ Row wr gr 41 .u8 (List.replicate 16 0) ∧ Row wr ga 41 .u8 (blend (clamp key) (key.take 16) k)) (fun i _ => 16 - (intOf i).toNat)
  case atStart => exact ⟨0, by omega, rfl, b4, e4, by rw [blend_zero]; exact r4⟩
  case round =>
    clear b4 e4 r4
    obtain ⟨k, hk, rfl, hbl, er, ar⟩ := hrel
    have hk0 : (0 : Int) ≤ (k : Int) := by omega
    by_cases hlt : k < 16
    · have hlt' : (k : Int) < 16 := by omega
      have hLen : (clamp key).length = (key.take 16).length := by rw [HL.out, HT.out]
      have ca := ar.cell (i := k) (by rw [blend_length hLen, HT.out]; exact hlt)
      have ck := (hT.below hbl hT.lt).cell (i := k) hlt
      rw [blend_get hLen (by rw [HT.out]; exact hlt), HG.out k hlt] at ca
      have fa := ar.frozen k
      have HS := Lib.hid (show Row (wr.setCell ⟨ga, k, none⟩ (.int .u8 ((clamp key).getD k 0))) ga 41 .u8 (blend (clamp key) (key.take 16) (k + 1)) by
        rw [← blend_set hLen (by rw [HT.out]; exact hlt)]
        exact ar.set k (HW.out _ (by rw [List.getD_eq_getElem?_getD, List.getElem?_eq_getElem (by rw [HL.out]; exact hlt)]; exact List.getElem_mem _)))
      have HE := er.other (p := ⟨ga, k, none⟩) (by simp; omega) (.int .u8 ((clamp key).getD k 0))
      have hand := HC.out k hlt
      have HB := Lib.hid (hbl.setCell (p := ⟨ga, k, none⟩) (by simp; omega) (.int .u8 ((clamp key).getD k 0)))
      generalize (clamp key).getD k 0 = x at *
      generalize key.getD k 0 = y at *
      generalize keptI.getD k 0 = z at *
      clear hLen ar er hbl
      go_wp2_with fail
      go_still_tail 8, (by kernel_rfl)
      change wpList _ _ _ _ _ wr.drew
      go_wp2_with fail
      go_roundw
      case rel => exact ⟨k + 1, by omega, by go_num, HB.out.drew, HE, HS.out⟩
      case measure => simp [intOf]; omega
    · have hk16 : k = 16 := by omega
      subst hk16
      have hz : blend (clamp key) (key.take 16) 16 = clamp key := by
        have := blend_all (F := clamp key) (a := key.take 16) (by rw [HL.out, HT.out])
        rwa [HT.out] at this
      rw [hz] at ar
      clear hz hk0 hlt
      go_wp2_with (first
        | (refine wpList_load_Row (w := wr) rfl 41 _ rfl ga rfl 41 .u8 _ ar 16 5 Tryd.underlying41 info_16b HL.out ?_)
        | (refine wpList_store_RowTo (w := wr) rfl 41 _ _ rfl gr rfl 41 .u8 _ (clamp key) rfl er 16 info_16b HL.out (by simp) HW.out ?_; intro w8 q8 g8 z8))
      refine bodyPost_ret (results_Row rfl _ _ gr _ _ _ rfl q8 16 5 Tryd.underlying41 info_16b HL.out) rfl ?_
      exact ⟨rfl, hbl.grown g8 hbl.size (fun r e => by cases e; omega)⟩

theorem laid_half {half : List Int} (h : half.length = 16) : laidOver (List.replicate 17 0) 0 half = half ++ [0] := by simp [laidOver, h]
set_option maxRecDepth 100000 in
theorem without_any (half : List Int) (w : World) (hh : half.length = 16) (hb : Bs half) :
    Calls Tryd.prog 43 #[.agg (arr .u8 half)] w fun e w' => e = .returned (.agg (arr .u8 (half ++ [0]))) ∧ Below w.heap.size w w' := by
  have HH := Lib.hid hh
  have HL := Lib.hid (show (half ++ [0]).length = 17 by simp [hh])
  have HW := Lib.hid (show ∀ z ∈ half ++ [0], (Lit.int .u8 z).wf = true from bs_wf (fun z hz => by
    rcases List.mem_append.1 hz with h | h
    · exact hb z h
    · rw [List.mem_singleton.1 h]; omega))
  have HO := Lib.hid (laid_half hh)
  clear hh
  go_enter Tryd.func43, Tryd.ntmps43
  go_wp2_with (first
    | (refine wpList_box_Row (w := w) rfl 41 _ rfl .u8 half rfl (bs_wf hb) ?_; intro w1 r1 g1 z1)
    | (refine wpList_alloc_Row (w := w1) rfl 65 rfl .u8 17 zero_17 ?_; intro w2 r2 g2 z2)
    | (refine wpList_alloc_Row (w := w2) rfl 65 rfl .u8 17 zero_17 ?_; intro w3 r3 g3 z3))
  obtain ⟨gr, hgr⟩ : ∃ g, w1.heap.size = g := ⟨_, rfl⟩
  obtain ⟨gp, hgp⟩ : ∃ g, w2.heap.size = g := ⟨_, rfl⟩
  have l1 := r1.lt
  have l2 := r2.lt
  have b3 : Below w.heap.size w w3 := (((Below.refl _ w).grown g1 (Nat.le_refl _) (by simp)).grown g2 g1.size (by simp)).grown g3 (by omega) (by simp)
  have e3 := r2.grown g3 (by simp)
  have h3 := (r1.grown g2 (by simp)).grown g3 (by simp)
  rw [hgr] at l1 l2 e3
  rw [hgp] at l2 r3
  rw [hgr, hgp]
  clear hgr hgp r1 r2 g1 g2 g3 z1 z2 z3
  have ih := h3.ints (n := 16) (by rw [HH.out]; omega)
  simp only [Act.put, List.setIfInBounds_toArray, List.set_cons_zero, List.set_cons_succ]
  refine wp_region_held (S := fun _ => True) (by kernel_rfl) ?_
  change wpAnyH _ _ _ _ _ _ _ _ w3.drew
  have c0 : True := trivial
  refine Held.take (v := .slice (some ⟨gp, 0, none⟩) 17 17) 0 (some 4) rfl rfl (by kernel_rfl) (by kernel_rfl) (by kernel_rfl) (fun _ _ _ h => h) rfl (Held.y_slice rfl (fun W => run_slice_arr_all (P := Tryd.prog) 65 5 17 gp W Tryd.underlying65 (by kernel_rfl) (by omega))) c0 ?_
  simp only [Act.put, List.setIfInBounds_toArray, List.set_cons_zero, List.set_cons_succ]
  refine Held.take (v := .slice (some ⟨w.heap.size, 0, none⟩) 16 16) 1 (some 5) rfl rfl (by kernel_rfl) (by kernel_rfl) (by kernel_rfl) (fun _ _ _ h => h) rfl (Held.y_slice rfl (fun W => run_slice_arr_all (P := Tryd.prog) 41 5 16 w.heap.size W Tryd.underlying41 (by kernel_rfl) (by omega))) c0 ?_
  simp only [Act.put, List.setIfInBounds_toArray, List.set_cons_zero, List.set_cons_succ]
  refine Held.one 2 (by kernel_rfl) ?_
  refine Held.op_copy_Row 2 (some 6) 24 24 rfl rfl rfl rfl 5 Tryd.underlying24 info_u8 gp 0 17 17 w3.heap.size (some ⟨w.heap.size, 0, none⟩) 16 16 rfl rfl 65 .u8 _ (half.take 16) r3 ih (by simp) ?_
  intro w5 r5 g5'
  have g5 : w3.grownBy w5 (some gp) := ⟨g5'.os, g5'.tape, g5'.output, g5'.size, g5'.block⟩
  clear g5'
  rw [show min 16 17 = 16 from rfl, List.take_take, Nat.min_self, List.take_of_length_le (by rw [HH.out]; omega), HO.out] at r5
  refine ⟨trivial, ?_⟩
  simp only [Act.put, List.setIfInBounds_toArray, List.set_cons_zero, List.set_cons_succ]
  refine wpAnyH_done (by kernel_rfl) ?_ _
  rw [show ((min 16 17 : Nat) : Int) = 16 from rfl]
  have b5 : Below w.heap.size w w5 := b3.grown g5 b3.size (fun r e => by cases e; omega)
  have e5 := e3.grown g5 (by intro e; injection e with e; omega)
  clear b3 e3 h3 r3 ih g5
  go_wp2_with (first
    | (refine wpList_load_Row (w := w5) rfl 65 _ rfl gp rfl 65 .u8 _ r5 17 5 Tryd.underlying65 info_17 HL.out ?_)
    | (refine wpList_store_RowTo (w := w5) rfl 65 _ _ rfl gr rfl 65 .u8 _ (half ++ [0]) rfl e5 17 info_17 HL.out (by simp) HW.out ?_; intro w8 q8 g8 z8))
  refine bodyPost_ret (results_Row rfl _ _ gr _ _ _ rfl q8 17 5 Tryd.underlying65 info_17 HL.out) rfl ?_
  exact ⟨rfl, b5.grown g8 b5.size (fun r e => by cases e; omega)⟩

theorem addL_length {a b : List Int} (ha : a.length = 5) (hb : b.length = 5) : (addL a b).length = 5 := by simp [addL, ha, hb]
theorem addL_get {a b : List Int} (ha : a.length = 5) (hb : b.length = 5) {i : Nat} (hi : i < 5) : (addL a b).getD i 0 = a.getD i 0 + b.getD i 0 := by
  have h1 : i < a.length := by omega
  have h2 : i < b.length := by omega
  simp [addL, List.getD_eq_getElem?_getD, List.getElem?_zipWith, h1, h2]
theorem addL_bound {a b : List Int} {A B : Int} (ha : ∀ x ∈ a, 0 ≤ x ∧ x < A) (hb : ∀ x ∈ b, 0 ≤ x ∧ x < B) : ∀ x ∈ addL a b, 0 ≤ x ∧ x < A + B := by
  intro x hx
  obtain ⟨i, hi, rfl⟩ := List.mem_iff_getElem.1 hx
  simp only [addL, List.length_zipWith] at hi
  simp only [addL, List.getElem_zipWith]
  have h1 := ha _ (List.getElem_mem (show i < a.length by omega))
  have h2 := hb _ (List.getElem_mem (show i < b.length by omega))
  omega
set_option maxRecDepth 100000 in
theorem plus_any (a b : List Int) (w : World) (ha : a.length = 5) (hb : b.length = 5) (hab : ∀ x ∈ a, 0 ≤ x ∧ x < 9223372036854775808) (hbb : ∀ x ∈ b, 0 ≤ x ∧ x < 9223372036854775808) :
    Calls Tryd.prog 48 #[.agg (arr .u64 a), .agg (arr .u64 b)] w fun e w' => e = .returned (.agg (arr .u64 (addL a b))) ∧ Below w.heap.size w w' := by
  have HA := Lib.hid ha
  have HB := Lib.hid hb
  have HL := Lib.hid (addL_length ha hb)
  have HF := Lib.hid (fun i (h : i < 5) => addL_get ha hb h)
  have HW := Lib.hid (show ∀ z ∈ addL a b, (Lit.int .u64 z).wf = true from fun z hz => wf_64 (by have := addL_bound hab hbb z hz; omega))
  have HAB := Lib.hid (fun i => getD_range (P := fun x => 0 ≤ x ∧ x < 9223372036854775808) hab (by omega) i)
  have HBB := Lib.hid (fun i => getD_range (P := fun x => 0 ≤ x ∧ x < 9223372036854775808) hbb (by omega) i)
  have haw : ∀ z ∈ a, (Lit.int .u64 z).wf = true := fun z hz => wf_64 (by have := hab z hz; omega)
  have hbw : ∀ z ∈ b, (Lit.int .u64 z).wf = true := fun z hz => wf_64 (by have := hbb z hz; omega)
  clear ha hb hab hbb
  go_enter Tryd.func48, Tryd.ntmps48
  go_wp2_with (first
    | (refine wpList_box_Row (w := w) rfl 63 _ rfl .u64 a rfl haw ?_; intro w1 r1 g1 z1)
    | (refine wpList_box_Row (w := w1) rfl 63 _ rfl .u64 b rfl hbw ?_; intro w2 r2 g2 z2)
    | (refine wpList_alloc_Row (w := w2) rfl 63 rfl .u64 5 zero_num ?_; intro w3 r3 g3 z3))
  obtain ⟨gb, hgb⟩ : ∃ g, w1.heap.size = g := ⟨_, rfl⟩
  obtain ⟨gr, hgr⟩ : ∃ g, w2.heap.size = g := ⟨_, rfl⟩
  have l1 := r1.lt
  have l2 := r2.lt
  have b3 : Below w.heap.size w w3 := (((Below.refl _ w).grown g1 (Nat.le_refl _) (by simp)).grown g2 g1.size (by simp)).grown g3 (by omega) (by simp)
  have p3 := (r1.grown g2 (by simp)).grown g3 (by simp)
  have q3 := r2.grown g3 (by simp)
  rw [hgb] at l1 l2 q3
  rw [hgr] at l2 r3
  rw [hgb, hgr]
  clear hgb hgr r1 r2 g1 g2 g3 z1 z2 z3
  go_loopw [6] (fun i wr => ∃ k : Nat, k ≤ 5 ∧ i = .int .i64 k ∧ Below w.heap.size w wr ∧ Row wr w.heap.size 63 .u64 (blend (addL a b) a k) ∧ Row wr gb 63 .u64 b ∧ Row wr gr 63 .u64 (List.replicate 5 0)) (fun i _ => 5 - (intOf i).toNat)
  case atStart => exact ⟨0, by omega, rfl, b3, by rw [blend_zero]; exact p3, q3, r3⟩
  case round =>
    clear b3 p3 q3 r3
    obtain ⟨k, hk, rfl, hbl, ar, br, er⟩ := hrel
    have hk0 : (0 : Int) ≤ (k : Int) := by omega
    by_cases hlt : k < 5
    · have hlt' : (k : Int) < 5 := by omega
      have hLen : (addL a b).length = a.length := by rw [HL.out, HA.out]
      have ca := ar.cell (i := k) (by rw [blend_length hLen, HA.out]; exact hlt)
      have cb := br.cell (i := k) (by rw [HB.out]; exact hlt)
      rw [blend_get hLen (by rw [HA.out]; exact hlt)] at ca
      have fa := ar.frozen k
      have HS := Lib.hid (show Row (wr.setCell ⟨w.heap.size, k, none⟩ (.int .u64 ((addL a b).getD k 0))) w.heap.size 63 .u64 (blend (addL a b) a (k + 1)) by
        rw [← blend_set hLen (by rw [HA.out]; exact hlt)]
        exact ar.set k (HW.out _ (by rw [List.getD_eq_getElem?_getD, List.getElem?_eq_getElem (by rw [HL.out]; exact hlt)]; exact List.getElem_mem _)))
      have HE := er.other (p := ⟨w.heap.size, k, none⟩) (by simp; omega) (.int .u64 ((addL a b).getD k 0))
      have HE2 := br.other (p := ⟨w.heap.size, k, none⟩) (by simp; omega) (.int .u64 ((addL a b).getD k 0))
      have ha := HAB.out k
      have hb := HBB.out k
      have HBL := Lib.hid (hbl.setCell (p := ⟨w.heap.size, k, none⟩) (by simp) (.int .u64 ((addL a b).getD k 0)))
      rw [HF.out k hlt] at HS HE HE2 HBL
      generalize a.getD k 0 = x at *
      generalize b.getD k 0 = y at *
      clear hLen ar br er hbl
      have hadd : IntKind.u64.wrap (x + y) = x + y := IntWalk.u64_in _ (by omega)
      go_wp2_with fail
      go_still_tail 8, (by kernel_rfl)
      change wpList _ _ _ _ _ wr.drew
      go_wp2_with fail
      go_roundw
      case rel => exact ⟨k + 1, by omega, by go_num, HBL.out.drew, HS.out, HE2, HE⟩
      case measure => simp [intOf]; omega
    · have hk5 : k = 5 := by omega
      subst hk5
      have hz : blend (addL a b) a 5 = addL a b := by
        have := blend_all (F := addL a b) (a := a) (by rw [HL.out, HA.out])
        rwa [HA.out] at this
      rw [hz] at ar
      clear hz hk0 hlt
      go_wp2_with (first
        | (refine wpList_load_Row (w := wr) rfl 63 _ rfl w.heap.size rfl 63 .u64 _ ar 5 43 Tryd.underlying63 info_num HL.out ?_)
        | (refine wpList_store_RowTo (w := wr) rfl 63 _ _ rfl gr rfl 63 .u64 _ (addL a b) rfl er 5 info_num HL.out (by simp) HW.out ?_; intro w8 q8 g8 z8))
      refine bodyPost_ret (results_Row rfl _ _ gr _ _ _ rfl q8 5 43 Tryd.underlying63 info_num HL.out) rfl ?_
      exact ⟨rfl, hbl.grown g8 hbl.size (fun r e => by cases e; omega)⟩
end Go.Proofs.YtebcejncjljmhaaDoor.Po
namespace Go.Proofs.YtebcejncjljmhaaDoor.Held
open Go.RowKit Go.Proofs.YtebcejncjljmhaaDoor.Mem
set_option linter.unusedVariables false

section
variable {P : Program} {S : World → Prop} {ρ : Operand → Value} {o : Oper}
theorem y_text {src dst e : TypeId} {x : Operand} {B : Nat} {A : Option Addr} {n c : Nat} {zs : List Int} (ho : o.op = .convert src dst x) (hx : ρ x = .slice A n c) (hs : P.underlying src = some (.slice e)) (he : P.underlying e = some (.int .u8)) (hd : P.underlying dst = some .string)
    (hi : ∀ w, S w → Ints w .u8 B A n zs) : ∀ w, S w → (execOp ρ o).run P w = .ok (.value (.string (strOfNums zs))) w := fun w hw => by
  simp [execOp, ho, hx, run_text w src dst e hs he hd B A n c zs (hi w hw)]
theorem y_eqs {t ty : TypeId} {x y : Operand} {s : ByteArray} (ho : o.op = .binOp .eql t x y ty) (hx : ρ x = .string s) (hy : ρ y = .string s) (ht : P.underlying t = some .string) :
    ∀ w, S w → (execOp ρ o).run P w = .ok (.value (.bool true)) w := y_bin ho hx hy (fun w => by simp [eqGuard]) (fun w => by simp [binOp, Op.stringOp])
theorem y_len_ {t : TypeId} {x : Operand} {A : Option Addr} {n c : Nat} {r : Int} (ho : o.op = .call { callee := .builtin .len, args := #[x], argTypes := #[t] }) (hx : ρ x = .slice A n c) (ht : P.underlying t = some (.slice (P.elem t))) (hr : (n : Int) = r) :
    ∀ w, S w → (execOp ρ o).run P w = .ok (.value (.int .i64 r)) w := by subst hr; exact y_len ho hx ht
theorem y_eqi {t ty : TypeId} {x y : Operand} {k : IntKind} {a : Int} (ho : o.op = .binOp .eql t x y ty) (hx : ρ x = .int k a) (hy : ρ y = .int k a) :
    ∀ w, S w → (execOp ρ o).run P w = .ok (.value (.bool true)) w := y_bin ho hx hy (fun w => by simp [eqGuard]) (fun w => by simp [binOp, Op.intCmp])
theorem y_eqn {t ty : TypeId} {x y : Operand} {k : IntKind} {a b : Int} (ho : o.op = .binOp .eql t x y ty) (hx : ρ x = .int k a) (hy : ρ y = .int k b) (hab : a ≠ b) :
    ∀ w, S w → (execOp ρ o).run P w = .ok (.value (.bool false)) w := y_bin ho hx hy (fun w => by simp [eqGuard]) (fun w => by simp [binOp, Op.intCmp, hab])
/-- two arrays of the same numbers, said apart -/
theorem y_eql2 {t e ty : TypeId} {x y : Operand} {k : IntKind} {zs ys : List Int} {n : Nat} (ho : o.op = .binOp .eql t x y ty) (hx : ρ x = .agg (arr k zs)) (hy : ρ y = .agg (arr k ys)) (he' : zs = ys) (hq : P.eqGuardType P.depth t = false) (ht : P.underlying t = some (.array n e)) (he : P.underlying e = some (.int k)) (hs : (P.info? e).map (·.size) = some 1) (hn : zs.length = n) :
    ∀ w, S w → (execOp ρ o).run P w = .ok (.value (.bool true)) w := by subst he'; exact y_eql ho hx hy hq ht he hs hn
end

section
variable {P : Program} {S : World → Prop} {ρ : Operand → Value} {o : Oper}
theorem y_pickF {c x y : Operand} {v : Value} (ho : o.op = .pick c x y) (hc : ρ c = .bool false) (hv : ρ y = v) : ∀ w, S w → (execOp ρ o).run P w = .ok (.value v) w := fun w _ => by simp [execOp, ho, hv, hc, asBool]
theorem y_not {x : Operand} {b r : Bool} {t : TypeId} (ho : o.op = .unOp .not t x) (hx : ρ x = .bool b) (hr : (!b) = r) : ∀ w, S w → (execOp ρ o).run P w = .ok (.value (.bool r)) w := fun w _ => by subst hr; simp [execOp, ho, hx, Op.unary]
theorem y_eqb {t ty : TypeId} {x y : Operand} {a b r : Bool} (ho : o.op = .binOp .eql t x y ty) (hx : ρ x = .bool a) (hy : ρ y = .bool b) (hr : (a == b) = r) (ht : P.underlying t = some .bool) :
    ∀ w, S w → (execOp ρ o).run P w = .ok (.value (.bool r)) w := y_bin ho hx hy (fun w => by simp [eqGuard]) (fun w => by subst hr; simp [binOp, run_equal_bool _ t a b ht])
end
section
variable {P : Program} {ops : Array Oper} {Q : Exit → Act → World → Prop} {md : Region.Mode} {S : World → Prop}
/-- what a guard shuts out is passed over -/
theorem skip (i : Nat) (d : Option Tmp) {oi : Oper} {fuel : Nat} {listed : Array Bool} {a : Act} {w : World} (hi : ops[i]? = some oi) (hd : oi.dst = d)
    (hs : Region.noSelect ops = true) (hf : Region.free md ops listed i = true) (hr : (Region.ready md ops listed).contains i = true)
    (hQ : ∀ c a w, Q (.panic c) (a.put d undef) w → Q (.panic c) a w) (hw : Region.wanted oi (yielded ops a.tmps) = false) (hS : S w)
    (h : wpAnyH P md ops Q S fuel (listed.setIfInBounds i true) (a.put d undef) w) : wpAnyH P md ops Q S (fuel + 1) listed a w := by
  subst hd
  exact wpAnyH_take hi hs hf hr hQ (.inr ⟨hw, rfl⟩) hS h
end

/-- a new list of numbers, as a row of its own, the new world a letter -/
theorem wpList_build_row {P : Program} {ops : Array Oper} {rest : List Oper} {o : Oper} {a : Act} {w : World} {Q : Exit → Act → World → Prop} (hgd : o.guard = none) (t e : TypeId) (len : Nat) (parts : Array (Nat × Operand)) (ho : o.op = .buildSlice t len parts) (k : IntKind) (bytes : Nat) (zs : List Int)
    (hu : P.underlying t = some (.slice e)) (hinfo : (P.info? e).map (fun i => (i.zero, i.size, i.bytes)) = some (some (.int k 0), 1, bytes)) (hp : (parts.map fun (i, x) => (i, a.eval x)).toList = ((zs.map (Value.int k)).zipIdx 0).map fun x => (x.2, x.1))
    (hl : zs.length = len) (h0 : 0 < len) (hlen : len ≤ 1000) (hwf : ∀ z ∈ zs, (Lit.int k z).wf = true)
    (h : ∀ w', Row w' w.heap.size e k zs → w.grownBy w' none → Hid (w'.heap.size = w.heap.size + 1) → wpList P ops Q rest (a.put o.dst (.slice (some ⟨w.heap.size, 0, none⟩) len len)) w') : wpList P ops Q (o :: rest) a w := by
  refine wpList_plain hgd fun K hK => ?_
  obtain ⟨ie, hie, hz, hsz, _⟩ := info_parts hinfo
  have hl' : (zs.map (Value.int k)).length = len := by simpa using hl
  have h' := hK _ _ (h _ (Row.new w e hwf) (World.grownBy_alloc w _ none) (Lib.hid (by simp)))
  unfold arr at h'
  have h1 : ∀ v ∈ zs.map (Value.int k), v.cells = #[v] := by intro v hv; obtain ⟨z, _, rfl⟩ := List.mem_map.1 hv; rfl
  generalize zs.map (Value.int k) = vs at hp hl' h' h1
  subst hl'
  refine Go.wp_buildSlice t e vs.length parts ho vs.toArray ie (.int k 0) hu hie hz (by rw [hsz]; omega) (by rw [hsz]; omega) ?_ h'
  rw [hp]
  simp only [hsz]
  exact Go.Great.fill_flat vs _ h1 (by simp)
end Go.Proofs.YtebcejncjljmhaaDoor.Held
namespace Go.Proofs.YtebcejncjljmhaaDoor.Help
open Go.RowKit Go.Proofs.YtebcejncjljmhaaDoor.Mem
set_option linter.unusedVariables false

theorem info_u8 : (Tryd.prog.info? 5).map (fun i => (i.zero, i.size, i.bytes)) = some (some (.int .u8 0), 1, 1) := by kernel_rfl

/-- nothing has turned, but for a count of draws -/
def Still (w w' : World) : Prop := ∃ m, w' = w.drewN m
section
variable {w w' w'' : World}
theorem Still.refl (w : World) : Still w w := ⟨0, rfl⟩
theorem Still.drewN (h : Still w w') (n : Nat) : Still w (w'.drewN n) := by obtain ⟨m, rfl⟩ := h; exact ⟨m + n, by simp⟩
theorem Still.trans (h : Still w w') (k : Still w' w'') : Still w w'' := by obtain ⟨m, rfl⟩ := h; obtain ⟨n, rfl⟩ := k; exact ⟨m + n, by simp⟩
theorem Still.below (h : Still w w') (B : Nat) : Below B w w' := by obtain ⟨m, rfl⟩ := h; exact below_drewN (Below.refl _ _) m
theorem Still.size (h : Still w w') : w'.heap.size = w.heap.size := by obtain ⟨m, rfl⟩ := h; rfl
theorem Still.cell (h : Still w w') (p : Addr) : w'.cell? p = w.cell? p := by obtain ⟨m, rfl⟩ := h; rfl
theorem Still.heap (h : Still w w') : w'.heap = w.heap := by obtain ⟨m, rfl⟩ := h; rfl
theorem Still.ints (h : Still w w') {k : IntKind} {B n : Nat} {A : Option Addr} {zs : List Int} (hi : Ints w k B A n zs) : Ints w' k B A n zs := hi.below (h.below B)
theorem Still.own (h : Still w w') {base : Nat} {t : TypeId} {k : IntKind} {v : Value} {zs : List Int} (hi : Mem.Own w base t k v zs) : Mem.Own w' base t k v zs := hi.below (h.below _)
end

theorem copy_any (B : Nat) (A : Option Addr) (n c : Nat) (zs : List Int) (w : World) (h : Ints w .u8 B A n zs) (hn : n ≤ 17592186044416) :
    Calls Tryd.prog 20 #[.slice A n c] w fun e w' => ∃ v, e = .returned v ∧ Mem.Own w' w.heap.size 5 .u8 v zs ∧ Below w.heap.size w w' := by
  go_enter Tryd.func20, Tryd.ntmps20
  go_wp2_with (at_builtin; refine wpList_append_ints _ rfl _ _ 24 rfl w.heap.size 5 .u8 1 Tryd.underlying24 info_u8 (.slice none 0 0) [] rfl (Own.nil _ _ _ _) B A n c zs rfl h (by simpa using hn) (by omega) (Nat.le_refl _) ?_; intro v1 w1 hown1 hg1 hat1)
  go_ret
  exact ⟨v1, rfl, by simpa using hown1, (Below.refl _ _).grown hg1 (Nat.le_refl _) (by simp [Value.ownBlock])⟩

theorem bytes_any (B B' : Nat) (A A' : Option Addr) (n n' c c' : Nat) (zs zs' : List Int) (w : World) (h : Ints w .u8 B A n zs) (h' : Ints w .u8 B' A' n' zs') :
    Calls Tryd.prog 14 #[.slice A n c, .slice A' n' c'] w fun e w' => e = .returned (.bool (decide (zs = zs'))) ∧ w = w' := by
  have t1 := run_text (P := Tryd.prog) w 24 9 5 Tryd.underlying24 Tryd.underlying5 Tryd.underlying9 B A n c zs h
  have t2 := run_text (P := Tryd.prog) w 24 9 5 Tryd.underlying24 Tryd.underlying5 Tryd.underlying9 B' A' n' c' zs' h'
  have X := Lib.hid (text_inj h.2.1 h'.2.1)
  clear h h'
  go_enter Tryd.func14, Tryd.ntmps14
  go_wp2
  go_ret
  exact ⟨ret_bool (by rw [Bool.eq_iff_iff]; simp only [beq_iff_eq, decide_eq_true_iff]; exact X.out), rfl⟩

theorem spoil_any (base : Nat) (A : Option Addr) (n c : Nat) (zs : List Int) (w : World) (h : Mem.Own w base 5 .u8 (.slice A n c) zs) (hl : zs.length = n) (hn : n ≤ 17592186044416) :
    Calls Tryd.prog 18 #[.slice A n c] w fun e w' => e = .returned (.tuple #[]) ∧ w.grownBy w' (Value.ownBlock (.slice A n c)) := by
  have HL := Lib.hid hl
  clear hl
  go_enter Tryd.func18, Tryd.ntmps18
  go_wp2_with fail
  go_loopw [2] (fun i wr => ∃ k : Nat, k ≤ n ∧ i = .int .i64 k ∧ w.grownBy wr (Value.ownBlock (.slice A n c)) ∧ ∃ ys : List Int, ys.length = n ∧ Mem.Own wr base 5 .u8 (.slice A n c) ys) (fun i _ => n - (intOf i).toNat)
  case atStart => exact ⟨0, by omega, rfl, World.grownBy.refl _ _, zs, HL.out, h⟩
  case round =>
    obtain ⟨k, hk, rfl, hg, ys, hyl, hown⟩ := hrel
    have HY := Lib.hid hyl
    clear hyl
    by_cases hlt : k < n
    · obtain ⟨g, c', e, hb, hgl, hc1, hc2, hcell, hfr⟩ := hown.at_ (by have := HY.out; omega)
      injection e with e1 e2 e3
      subst e1
      have hck := hcell k (by have := HY.out; omega)
      have hfk := hfr k
      have hset := hown
      rw [e2] at hset
      have hset := hset.set k (wf_bits .xor .u8 (ys.getD k 0) 85)
      have hlt' : (k : Int) < (n : Int) := by omega
      have hk0 : (0 : Int) ≤ (k : Int) := by omega
      have HS := Lib.hid hset
      have HE := Lib.hid e2
      clear hset hcell hfr e2 e3
      generalize hz : ys.getD k 0 = z at hck HS
      go_wp2_with fail
      go_roundw
      case rel =>
        refine ⟨k + 1, by omega, by go_num, ?_, ys.set k (bits .xor .u8 z 85), by have := HY.out; simp; omega, ?_⟩
        · exact hg.trans (grown_setCell _ _ _ _)
        · have := HS.out; rw [← HE.out] at this; exact this
      case measure => simp [intOf]; omega
    · go_wp2_with fail
      go_end0
      exact ⟨rfl, hg⟩

theorem take_step {xs ys : List Int} {k : Nat} (hx : k < xs.length) (hy : k < ys.length) (h : xs.take k = ys.take k) (e : xs.getD k 0 = ys.getD k 0) : xs.take (k + 1) = ys.take (k + 1) := by
  rw [List.take_add_one, List.take_add_one, h]
  simp only [List.getD_eq_getElem?_getD, List.getElem?_eq_getElem hx, List.getElem?_eq_getElem hy, Option.getD_some] at e
  rw [List.getElem?_eq_getElem hx, List.getElem?_eq_getElem hy, e]

theorem eq_byte (x y : Int) (w : World) : Calls Tryd.prog 37 #[.int .u8 x, .int .u8 y] w fun e w' => e = .returned (.bool (x == y)) ∧ w = w' := by
  go_enter Tryd.func37, Tryd.ntmps37
  go_wp2
  go_ret
  exact ⟨rfl, rfl⟩

theorem same_any (B B' : Nat) (A A' : Option Addr) (n n' c c' : Nat) (zs zs' : List Int) (w : World) (h : Ints w .u8 B A n zs) (h' : Ints w .u8 B' A' n' zs') (hn : n ≤ 17592186044416) (hn' : n' ≤ 17592186044416) :
    Calls Tryd.prog 36 #[.slice A n c, .slice A' n' c', .func (Fn.func 37) #[] #[]] w fun e w' => e = .returned (.bool (decide (zs = zs'))) ∧ Still w w' := by
  by_cases hnn : n = n'
  · subst hnn
    have hne : ((n : Int) != (n : Int)) = false := by simp
    have HL := Lib.hid h.1
    have HL' := Lib.hid h'.1
    go_enter Tryd.func36, Tryd.ntmps36
    go_wp2_with fail
    go_loopw [7] (fun i wr => ∃ k : Nat, k ≤ n ∧ i = .int .i64 k ∧ Still w wr ∧ Hid (zs.take k = zs'.take k)) (fun i _ => n - (intOf i).toNat)
    case atStart => exact ⟨0, by omega, rfl, Still.refl _, Lib.hid rfl⟩
    case round =>
      obtain ⟨k, hk, rfl, hst, ht⟩ := hrel
      by_cases hlt : k < n
      · obtain ⟨b, off, rfl, hb, hc⟩ := (hst.ints h).at_ hlt
        obtain ⟨b', off', rfl, hb', hc'⟩ := (hst.ints h').at_ hlt
        have hlt' : (k : Int) < (n : Int) := by omega
        have hk0 : (0 : Int) ≤ (k : Int) := by omega
        by_cases hq : zs.getD k 0 = zs'.getD k 0
        · have HT := Lib.hid (take_step (by have := HL.out; omega) (by have := HL'.out; omega) ht.out hq)
          have q : (zs.getD k 0 == zs'.getD k 0) = true := by simpa using hq
          clear hq
          generalize zs.getD k 0 = x at hc q
          generalize zs'.getD k 0 = y at hc' q
          go_wp2_with fail
          go_quiet ((go_at_call 37; exact quiet_same (eq_byte _ _ _)))
          go_wp2_with fail
          go_roundw
          case rel => exact ⟨k + 1, by omega, by go_num, hst.drewN _, HT⟩
          case measure => simp [intOf]; omega
        · have HF := Lib.hid (show decide (zs = zs') = false by
            rw [decide_eq_false_iff_not]; intro e; exact hq (by rw [e]))
          have q : (zs.getD k 0 == zs'.getD k 0) = false := by simpa using hq
          clear hq
          generalize zs.getD k 0 = x at hc q
          generalize zs'.getD k 0 = y at hc' q
          go_wp2_with fail
          go_quiet ((go_at_call 37; exact quiet_same (eq_byte _ _ _)))
          go_wp2_with fail
          go_ret
          exact ⟨ret_bool HF.out.symm, hst.drewN _⟩
      · have HF := Lib.hid (show decide (zs = zs') = true by
          have e1 := ht.out
          rw [List.take_of_length_le (by have := HL.out; omega), List.take_of_length_le (by have := HL'.out; omega)] at e1
          simpa using e1)
        go_wp2_with fail
        go_ret
        exact ⟨ret_bool HF.out.symm, hst⟩
  · have hne : ((n : Int) != (n' : Int)) = true := by simp; omega
    have HF := Lib.hid (show decide (zs = zs') = false by
      rw [decide_eq_false_iff_not]; intro e; exact hnn (by rw [← h.1, ← h'.1, e]))
    clear h h' hnn
    go_enter Tryd.func36, Tryd.ntmps36
    go_wp2_with fail
    go_ret
    exact ⟨ret_bool HF.out.symm, Still.refl _⟩

theorem plain_any (B B' : Nat) (A A' : Option Addr) (n n' c c' : Nat) (zs zs' : List Int) (w : World) (h : Ints w .u8 B A n zs) (h' : Ints w .u8 B' A' n' zs') (hn : n ≤ 17592186044416) (hn' : n' ≤ 17592186044416) :
    Calls Tryd.prog 25 #[.slice A n c, .slice A' n' c'] w fun e w' => e = .returned (.bool (decide (zs = zs'))) ∧ Still w w' := by
  go_enter Tryd.func25, Tryd.ntmps25
  go_wp2_with fail
  refine (same_any B B' A A' n n' c c' zs zs' _ h h' hn hn').mono ?_
  rintro e w' ⟨rfl, hst⟩
  go_wp2_with fail
  go_ret
  exact ⟨rfl, hst⟩
end Go.Proofs.YtebcejncjljmhaaDoor.Help
namespace Go.Proofs.YtebcejncjljmhaaDoor.Ae
open Go.RowKit Go.Shelf Go.Proofs.YtebcejncjljmhaaDoor.Mem Go.Proofs.YtebcejncjljmhaaDoor.Help Go.Proofs.YtebcejncjljmhaaDoor.Sum Go.Proofs.YtebcejncjljmhaaDoor.Po
set_option linter.unusedVariables false
attribute [local irreducible] wpList wpListIn

/-- a shift to the right by a number of places that the caller names -/
theorem wpList_shr {P : Program} {ops : Array Oper} {rest : List Oper} {o : Oper} {a : Act} {w : World} {Q : Exit → Act → World → Prop} (hgd : o.guard = none) (t u : TypeId) (x y : Operand) (ho : o.op = .binOp .shr t x y u) (k k' : IntKind) (v r : Int) (n : Nat) (hx : a.eval x = .int k v) (hy : a.eval y = .int k' (n : Int)) (hn : n ≤ k.bits) (hr : v / 2 ^ n = r)
    (h : wpList P ops Q rest (a.put o.dst (.int k r)) w) : wpList P ops Q (o :: rest) a w := by
  refine wpList_plain hgd fun K hK => ?_
  unfold Oper.wp execOp
  simp [ho, hx, hy, Held.run_shr t k k' n hn hr]
  exact hK _ _ h
theorem digits_snoc (n : Int) {k : Nat} (hk : k < 8) : (digits n 8).take (k + 1) = (digits n 8).take k ++ [(digits n 8).getD k 0] := by
  rw [List.take_add_one, List.getD_eq_getElem?_getD, List.getElem?_eq_getElem (by rw [digits_length]; exact hk)]
  rfl
theorem digit_mem (n : Int) {k : Nat} (hk : k < 8) : (digits n 8).getD k 0 ∈ digits n 8 := by
  rw [List.getD_eq_getElem?_getD, List.getElem?_eq_getElem (by rw [digits_length]; exact hk)]
  exact List.getElem_mem _
theorem byte_at (n : Int) {k : Nat} (hk : k < 8) : n / 2 ^ (8 * k) % 256 = (digits n 8).getD k 0 := by
  rw [digits_get 8 n k hk, show (256 : Int) = 2 ^ 8 from rfl, ← Int.pow_mul]
theorem shifted_lt {n : Int} (h0 : 0 ≤ n) (hn : n < 72057594037927936) (k : Nat) : 0 ≤ n / 2 ^ (8 * k) ∧ n / 2 ^ (8 * k) < 72057594037927936 := by
  have hp : (0 : Int) < 2 ^ (8 * k) := Int.pow_pos (by omega)
  refine ⟨Int.ediv_nonneg h0 (by omega), Int.lt_of_le_of_lt (Int.ediv_le_self _ h0) hn⟩

set_option maxRecDepth 100000 in
set_option maxHeartbeats 4000000 in
theorem eight_any (n : Int) (w : World) (h0 : 0 ≤ n) (hn : n < 72057594037927936) :
    Calls Tryd.prog 34 #[.int .i64 n] w fun e w' => ∃ A c, e = .returned (.slice A 8 c) ∧ Mem.Own w' w.heap.size 5 .u8 (.slice A 8 c) (digits n 8) ∧ Below w.heap.size w w' := by
  go_enter Tryd.func34, Tryd.ntmps34
  go_wp2_with fail
  go_loopw [3, 4] (fun v i wr => ∃ k : Nat, k ≤ 8 ∧ i = .int .i64 k ∧ Mem.Own wr w.heap.size 5 .u8 v ((digits n 8).take k) ∧ Below w.heap.size w wr) (fun _ i _ => 8 - (intOf i).toNat)
  case atStart => exact ⟨0, by omega, rfl, Mem.Own.nil _ _ _ _, Below.refl _ _⟩
  case round =>
    obtain ⟨k, hk, rfl, hown, hb⟩ := hrel
    by_cases hlt : k < 8
    · have hlt' : (k : Int) < 8 := by omega
      have hk0 : (0 : Int) ≤ (k : Int) := by omega
      have W1 : IntKind.u64.wrap n = n := by rw [IntKind.wrap_u64]; omega
      have W2 : IntKind.i64.wrap (8 * (k : Int)) = ((8 * k : Nat) : Int) := by rw [IntKind.wrap_i64]; omega
      have W3 : IntKind.u64.wrap ((8 * k : Nat) : Int) = ((8 * k : Nat) : Int) := by rw [IntKind.wrap_u64]; omega
      obtain ⟨S0, S1⟩ := shifted_lt h0 hn k
      have HBY := Lib.hid (byte_at n hlt)
      obtain ⟨q, hq⟩ : ∃ q, n / 2 ^ (8 * k) = q := ⟨_, rfl⟩
      rw [hq] at S0 S1 HBY
      have HQ := Lib.hid hq
      clear hq
      have W4 : IntKind.u8.wrap q = (digits n 8).getD k 0 := by rw [← HBY.out, IntKind.wrap_u8]
      have HWF := Lib.hid (bs_wf (digits_bytes 8 n) _ (digit_mem n hlt))
      have HS := Lib.hid (digits_snoc n hlt)
      obtain ⟨z, hz⟩ : ∃ z, (digits n 8).getD k 0 = z := ⟨_, rfl⟩
      rw [hz] at W4 HS HWF
      have hsz := hb.size
      clear hlt
      go_wp2_with (first
        | (refine wpList_shr rfl 43 35 _ _ rfl .u64 .u64 n q (8 * k) rfl (by simp [Act.eval]) (by simp [IntKind.bits]; omega) HQ.out ?_)
        | (refine Held.wpList_build_row (w := wr) rfl 24 5 1 _ rfl .u8 1 [z] Tryd.underlying24 info_u8 (by simp [Act.eval]) rfl (by omega) (by omega) (by intro y hy; rw [List.mem_singleton.1 hy]; exact HWF.out) ?_; intro w3 r3 g3 z3; have o3 := hown.kept g3 (by cases u3.ownBlock <;> simp); have i3 : Ints w3 .u8 w3.heap.size (some ⟨wr.heap.size, 0, none⟩) 1 [z] := r3.ints (n := 1) (by simp))
        | (at_builtin; refine wpList_append_ints w3 rfl _ _ 24 rfl w.heap.size 5 .u8 1 Tryd.underlying24 info_u8 _ _ rfl o3 w3.heap.size (some ⟨wr.heap.size, 0, none⟩) 1 1 [z] rfl i3 (by simp; omega) (by omega) (by have := g3.size; omega) ?_; intro v4 w4 o4 g4 t4))
      have HT := HS.out
      go_roundw
      case rel => exact ⟨k + 1, by omega, by go_num, by rw [HS.out]; exact o4, (hb.grown g3 hb.size (by simp)).grown g4 (by have := g3.size; have := hb.size; omega) (fun r e => (o3.2.lt r e).1)⟩
      case measure => simp [intOf]; omega
    · have hk8 : k = 8 := by omega
      subst hk8
      have e8 : (digits n 8).take 8 = digits n 8 := List.take_of_length_le (by rw [digits_length]; omega)
      rw [e8] at hown
      obtain ⟨A, c, rfl, _, _, _⟩ := hown.form
      rw [digits_length] at hown ⊢
      go_wp2_with fail
      go_ret
      exact ⟨A, c, rfl, hown, hb⟩

def lenOf : Value → Nat | .slice _ m _ => m | _ => 0
theorem pad_more {xs : List Int} {j : Nat} (hj : j < padN xs.length) : (xs.length + j) % 16 ≠ 0 := by unfold padN at hj; omega
set_option maxRecDepth 100000 in
set_option maxHeartbeats 4000000 in
theorem padded_any (B : Nat) (A : Option Addr) (n c : Nat) (xs : List Int) (w : World) (h : Ints w .u8 B A n xs) (hn : n ≤ 1099511627776) :
    Calls Tryd.prog 33 #[.slice A n c] w fun e w' => ∃ A' c', e = .returned (.slice A' (padL xs).length c') ∧ Mem.Own w' w.heap.size 5 .u8 (.slice A' (padL xs).length c') (padL xs) ∧ Below w.heap.size w w' := by
  have HX := Lib.hid h.1
  go_enter Tryd.func33, Tryd.ntmps33
  go_wp2_with (at_builtin; refine wpList_append_ints w rfl _ _ 24 rfl w.heap.size 5 .u8 1 Tryd.underlying24 info_u8 (.slice none 0 0) [] rfl (Mem.Own.nil _ _ _ _) B A n c xs rfl h (by simp; omega) (by omega) (Nat.le_refl _) ?_; intro v1 w1 o1 g1 t1)
  have b1 : Below w.heap.size w w1 := (Below.refl _ w).grown g1 (Nat.le_refl _) (by simp [Value.ownBlock])
  rw [List.nil_append] at o1
  go_loopw [3] (fun v wr => ∃ j : Nat, j ≤ padN n ∧ Mem.Own wr w.heap.size 5 .u8 v (xs ++ List.replicate j 0) ∧ Below w.heap.size w wr) (fun v _ => n + 16 - lenOf v)
  case atStart => exact ⟨0, by omega, by simpa using o1, b1⟩
  case round =>
    clear o1 b1 g1 t1
    obtain ⟨j, hj, hown, hb⟩ := hrel
    have hpl := padN_lt n
    have hsz := hb.size
    obtain ⟨A1, c1, rfl, _, _, _⟩ := hown.form
    obtain ⟨m, hm⟩ : ∃ m, (xs ++ List.replicate j 0).length = m := ⟨_, rfl⟩
    rw [hm] at hown ⊢
    have em : m = n + j := by rw [← hm]; simp [HX.out]
    have HE := Lib.hid em
    have hm44 : m ≤ 1099511627792 := by omega
    have HM := Lib.hid hm
    clear hm
    by_cases hlt : j < padN n
    · have hne : ((m : Int) % 16 != 0) = true := by
        have h16 : ((m : Int) % 16) ≠ 0 := by unfold padN at hlt; omega
        simpa using h16
      clear em
      go_wp2_with (first
        | (refine Held.wpList_build_row (w := wr) rfl 24 5 1 _ rfl .u8 1 [0] Tryd.underlying24 info_u8 (by simp [Act.eval]) rfl (by omega) (by omega) (by decide) ?_; intro w3 r3 g3 z3; have o3 := hown.kept g3 (by cases (Value.slice A1 m c1).ownBlock <;> simp); have i3 : Ints w3 .u8 w3.heap.size (some ⟨wr.heap.size, 0, none⟩) 1 [0] := r3.ints (n := 1) (by simp))
        | (at_builtin; refine wpList_append_ints w3 rfl _ _ 24 rfl w.heap.size 5 .u8 1 Tryd.underlying24 info_u8 (.slice A1 m c1) _ rfl o3 w3.heap.size (some ⟨wr.heap.size, 0, none⟩) 1 1 [0] rfl i3 (by rw [HM.out]; omega) (by omega) (by have := g3.size; omega) ?_; intro v4 w4 o4 g4 t4))
      obtain ⟨A4, c4, rfl, _, _, _⟩ := o4.form
      go_roundw
      case rel => exact ⟨j + 1, by omega, by rw [List.replicate_succ', ← List.append_assoc]; exact o4, (hb.grown g3 hb.size (by simp)).grown g4 (by have := g3.size; have := hb.size; omega) (fun r e => (o3.2.lt r e).1)⟩
      case measure => simp only [lenOf]; have := HM.out; have := HE.out; rw [List.length_append, HM.out]; simp; omega
    · have hjj : j = padN n := by omega
      subst hjj
      have hne : ((m : Int) % 16 != 0) = false := by
        have h16 : ((m : Int) % 16) = 0 := by have := padN_whole n; omega
        simpa using h16
      clear em
      go_wp2_with fail
      go_ret
      have hpd : xs ++ List.replicate (padN n) 0 = padL xs := by rw [padL, HX.out]
      rw [hpd] at hown
      have hml : m = (padL xs).length := by rw [← HM.out, hpd]
      rw [hml] at hown ⊢
      exact ⟨A1, c1, rfl, hown, hb⟩
end Go.Proofs.YtebcejncjljmhaaDoor.Ae
namespace Go.Proofs.YtebcejncjljmhaaDoor.Cha
open Go.RowKit Go.Proofs.YtebcejncjljmhaaDoor.Mem Go.Proofs.YtebcejncjljmhaaDoor.Help Go.Proofs.YtebcejncjljmhaaDoor.Sum Go.Proofs.YtebcejncjljmhaaDoor.Cc
set_option linter.unusedVariables false
attribute [local irreducible] wpList wpListIn

theorem wf_byte {z : Int} (h : 0 ≤ z ∧ z ≤ 255) : (Lit.int .u8 z).wf = true := by simp [Lit.wf, IntKind.min, IntKind.max, IntKind.signed, IntKind.bits]; omega
theorem mask_p : ∀ p : Fin 32, (p.val &&& 31) = p.val := by decide +kernel

theorem lft_any (x : Int) (p : Nat) (w : World) (hx : R32 x) (hk : 1 ≤ p) (hk' : p ≤ 31) :
    Calls Tryd.prog 66 #[.int .u32 x, .int .i64 (p : Int)] w fun e w' => e = .returned (.int .u32 (lft x p)) ∧ w = w' := by
  have h2 : bits .and .u64 (p : Int) 31 = (p : Int) := by
    rw [u64_and _ _ (by omega) (by omega) (by omega) (by omega)]
    have e := mask_p ⟨p, by omega⟩
    simp only at e
    have e2 : (31 : Int).toNat = 31 := rfl
    rw [Int.toNat_natCast, e2, e]
  have e3 : 32 - (32 - p) = p := by omega
  have H : Hid (bits .or .u32 (x * 2 ^ p % 4294967296) (x / 2 ^ (32 - p)) = lft x p) := Lib.hid (by
    unfold lft rotI
    rw [e3]
    exact or_comm32 ⟨by omega, by omega⟩ (r32_shr hx (32 - p)))
  clear e3
  go_enter Tryd.func66, Tryd.ntmps66
  go_wp2
  go_ret
  exact ⟨ret_int H.out, rfl⟩
theorem rleft_any (x : Int) (p : Nat) (w : World) (hx : R32 x) (hk : 1 ≤ p) (hk' : p ≤ 31) :
    Calls Tryd.prog 65 #[.int .u32 x, .int .i64 (p : Int)] w fun e w' => e = .returned (.int .u32 (lft x p)) ∧ w = w' := by
  have e3 : 32 - (32 - p) = p := by omega
  have H : Hid (bits .or .u32 (x * 2 ^ p % 4294967296) (x / 2 ^ (32 - p)) = lft x p) := Lib.hid (by
    unfold lft rotI
    rw [e3]
    exact or_comm32 ⟨by omega, by omega⟩ (r32_shr hx (32 - p)))
  clear e3
  go_enter Tryd.func65, Tryd.ntmps65
  go_wp2
  go_ret
  exact ⟨ret_int H.out, rfl⟩
end Go.Proofs.YtebcejncjljmhaaDoor.Cha
namespace Go.Proofs.YtebcejncjljmhaaDoor.Cha
open Go.RowKit Go.Proofs.YtebcejncjljmhaaDoor.Mem Go.Proofs.YtebcejncjljmhaaDoor.Help Go.Proofs.YtebcejncjljmhaaDoor.Sum Go.Proofs.YtebcejncjljmhaaDoor.Cc
set_option linter.unusedVariables false
attribute [local irreducible] wpList wpListIn
theorem lft_16 (x : Int) (w : World) (hx : R32 x) : Calls Tryd.prog 66 #[.int .u32 x, .int .i64 16] w fun e w' => e = .returned (.int .u32 (lft x 16)) ∧ w = w' := lft_any x 16 w hx (by omega) (by omega)
theorem lft_12 (x : Int) (w : World) (hx : R32 x) : Calls Tryd.prog 66 #[.int .u32 x, .int .i64 12] w fun e w' => e = .returned (.int .u32 (lft x 12)) ∧ w = w' := lft_any x 12 w hx (by omega) (by omega)
theorem lft_8 (x : Int) (w : World) (hx : R32 x) : Calls Tryd.prog 66 #[.int .u32 x, .int .i64 8] w fun e w' => e = .returned (.int .u32 (lft x 8)) ∧ w = w' := lft_any x 8 w hx (by omega) (by omega)
theorem lft_7 (x : Int) (w : World) (hx : R32 x) : Calls Tryd.prog 66 #[.int .u32 x, .int .i64 7] w fun e w' => e = .returned (.int .u32 (lft x 7)) ∧ w = w' := lft_any x 7 w hx (by omega) (by omega)
theorem results_tmp4 {fn : Func} {t u v x : Tmp} (h : fn.results = #[.tmp t, .tmp u, .tmp v, .tmp x]) (tmps : Array Value) (P : Program) (w : World) :
    (results fn tmps).run P w = .ok (.tuple #[tmps.getD t undef, tmps.getD u undef, tmps.getD v undef, tmps.getD x undef]) w := by
  simp [results, h]
theorem addI3 (a b c : Int) : (a + b + c) % 4294967296 = addI (addI a b) c := by unfold addI; omega

theorem quarter_any (a b c d : Int) (w : World) :
    Calls Tryd.prog 64 #[.int .u32 a, .int .u32 b, .int .u32 c, .int .u32 d] w fun e w' => e = .returned (.tuple #[.int .u32 (qr a b c d).1, .int .u32 (qr a b c d).2.1, .int .u32 (qr a b c d).2.2.1, .int .u32 (qr a b c d).2.2.2]) ∧ w = w' := by
  go_enter Tryd.func64, Tryd.ntmps64
  go_wp2_with fail
  refine (lft_16 _ _ (r32_bits _ _ _)).mono ?_
  rintro e w' ⟨rfl, rfl⟩
  go_wp2_with fail
  refine (lft_12 _ _ (r32_bits _ _ _)).mono ?_
  rintro e w' ⟨rfl, rfl⟩
  go_wp2_with fail
  refine (lft_8 _ _ (r32_bits _ _ _)).mono ?_
  rintro e w' ⟨rfl, rfl⟩
  go_wp2_with fail
  refine (lft_7 _ _ (r32_bits _ _ _)).mono ?_
  rintro e w' ⟨rfl, rfl⟩
  go_wp2_with fail
  refine bodyPost_ret (results_tmp4 rfl _ _ _) rfl ?_
  exact ⟨by simp only [addI3]; rfl, rfl⟩
theorem rlft_16 (x : Int) (w : World) (hx : R32 x) : Calls Tryd.prog 65 #[.int .u32 x, .int .i64 16] w fun e w' => e = .returned (.int .u32 (lft x 16)) ∧ w = w' := rleft_any x 16 w hx (by omega) (by omega)
theorem rlft_12 (x : Int) (w : World) (hx : R32 x) : Calls Tryd.prog 65 #[.int .u32 x, .int .i64 12] w fun e w' => e = .returned (.int .u32 (lft x 12)) ∧ w = w' := rleft_any x 12 w hx (by omega) (by omega)
theorem rlft_8 (x : Int) (w : World) (hx : R32 x) : Calls Tryd.prog 65 #[.int .u32 x, .int .i64 8] w fun e w' => e = .returned (.int .u32 (lft x 8)) ∧ w = w' := rleft_any x 8 w hx (by omega) (by omega)
theorem rlft_7 (x : Int) (w : World) (hx : R32 x) : Calls Tryd.prog 65 #[.int .u32 x, .int .i64 7] w fun e w' => e = .returned (.int .u32 (lft x 7)) ∧ w = w' := rleft_any x 7 w hx (by omega) (by omega)

theorem rquarter_any (a b c d : Int) (w : World) :
    Calls Tryd.prog 62 #[.int .u32 a, .int .u32 b, .int .u32 c, .int .u32 d] w fun e w' => e = .returned (.tuple #[.int .u32 (qr a b c d).1, .int .u32 (qr a b c d).2.1, .int .u32 (qr a b c d).2.2.1, .int .u32 (qr a b c d).2.2.2]) ∧ w = w' := by
  go_enter Tryd.func62, Tryd.ntmps62
  go_wp2_with fail
  refine (rlft_16 _ _ (r32_bits _ _ _)).mono ?_
  rintro e w' ⟨rfl, rfl⟩
  go_wp2_with fail
  refine (rlft_12 _ _ (r32_bits _ _ _)).mono ?_
  rintro e w' ⟨rfl, rfl⟩
  go_wp2_with fail
  refine (rlft_8 _ _ (r32_bits _ _ _)).mono ?_
  rintro e w' ⟨rfl, rfl⟩
  go_wp2_with fail
  refine (rlft_7 _ _ (r32_bits _ _ _)).mono ?_
  rintro e w' ⟨rfl, rfl⟩
  go_wp2_with fail
  refine bodyPost_ret (results_tmp4 rfl _ _ _) rfl ?_
  exact ⟨by simp only [addI3]; rfl, rfl⟩
end Go.Proofs.YtebcejncjljmhaaDoor.Cha
namespace Go.Proofs.YtebcejncjljmhaaDoor.Cha
open Go.RowKit Go.Proofs.YtebcejncjljmhaaDoor.Mem Go.Proofs.YtebcejncjljmhaaDoor.Help Go.Proofs.YtebcejncjljmhaaDoor.Sum Go.Proofs.YtebcejncjljmhaaDoor.Cc
set_option linter.unusedVariables false
attribute [local irreducible] wpList wpListIn
def le4 (z0 z1 z2 z3 : Int) : Int := ((z3 * 256 + z2) * 256 + z1) * 256 + z0
theorem word_join {z0 z1 z2 z3 : Int} (h0 : 0 ≤ z0 ∧ z0 ≤ 255) (h1 : 0 ≤ z1 ∧ z1 ≤ 255) (h2 : 0 ≤ z2 ∧ z2 ≤ 255) (h3 : 0 ≤ z3 ∧ z3 ≤ 255) :
    bits .or .u32 (bits .or .u32 (bits .or .u32 z0 (z1 * 256)) (z2 * 65536)) (z3 * 16777216) = le4 z0 z1 z2 z3 := by
  have hw : ∀ n : Int, 0 ≤ n → n < 2 ^ 32 → IntKind.u32.wrap n = n := fun n h1 h2 => by rw [IntKind.wrap_u32]; omega
  rw [bits_join_low .u32 32 (by decide) hw 8 z0 (z1 * 256) (by omega) (by omega) (by omega) (by omega) (by omega) (by omega),
    bits_join_low .u32 32 (by decide) hw 16 (z0 + z1 * 256) (z2 * 65536) (by omega) (by omega) (by omega) (by omega) (by omega) (by omega),
    bits_join_low .u32 32 (by decide) hw 24 (z0 + z1 * 256 + z2 * 65536) (z3 * 16777216) (by omega) (by omega) (by omega) (by omega) (by omega) (by omega)]
  unfold le4
  omega
theorem word_any (g off n c : Nat) (B : Nat) (zs : List Int) (w : World) (h : Ints w .u8 B (some ⟨g, off, none⟩) n zs) (hn : n = 4) :
    Calls Tryd.prog 63 #[.slice (some ⟨g, off, none⟩) n c] w fun e w' => e = .returned (.int .u32 (le4 (zs.getD 0 0) (zs.getD 1 0) (zs.getD 2 0) (zs.getD 3 0))) ∧ Still w w' := by
  subst hn
  have b0 := wf_u8 (h.range (i := 0) (by omega))
  have b1 := wf_u8 (h.range (i := 1) (by omega))
  have b2 := wf_u8 (h.range (i := 2) (by omega))
  have b3 := wf_u8 (h.range (i := 3) (by omega))
  obtain ⟨_, _, e0, _, c0⟩ := h.at_ (i := 0) (by omega)
  cases e0
  obtain ⟨_, _, e0, _, c1⟩ := h.at_ (i := 1) (by omega)
  cases e0
  obtain ⟨_, _, e0, _, c2⟩ := h.at_ (i := 2) (by omega)
  cases e0
  obtain ⟨_, _, e0, _, c3⟩ := h.at_ (i := 3) (by omega)
  cases e0
  rw [Nat.add_zero] at c0
  have J := Lib.hid (word_join b0 b1 b2 b3)
  generalize zs.getD 0 0 = z0 at *
  generalize zs.getD 1 0 = z1 at *
  generalize zs.getD 2 0 = z2 at *
  generalize zs.getD 3 0 = z3 at *
  clear h
  go_enter Tryd.func63, Tryd.ntmps63
  go_wp2_with fail
  go_quiet (fail)
  go_wp2_with fail
  go_ret
  exact ⟨ret_int J.out, ⟨_, rfl⟩⟩
theorem rword_any (g off n c : Nat) (B : Nat) (zs : List Int) (w : World) (h : Ints w .u8 B (some ⟨g, off, none⟩) n zs) (hn : n = 4) :
    Calls Tryd.prog 51 #[.slice (some ⟨g, off, none⟩) n c] w fun e w' => e = .returned (.int .u32 (le4 (zs.getD 0 0) (zs.getD 1 0) (zs.getD 2 0) (zs.getD 3 0))) ∧ Still w w' := by
  subst hn
  have b0 := wf_u8 (h.range (i := 0) (by omega))
  have b1 := wf_u8 (h.range (i := 1) (by omega))
  have b2 := wf_u8 (h.range (i := 2) (by omega))
  have b3 := wf_u8 (h.range (i := 3) (by omega))
  obtain ⟨_, _, e0, _, c0⟩ := h.at_ (i := 0) (by omega)
  cases e0
  obtain ⟨_, _, e0, _, c1⟩ := h.at_ (i := 1) (by omega)
  cases e0
  obtain ⟨_, _, e0, _, c2⟩ := h.at_ (i := 2) (by omega)
  cases e0
  obtain ⟨_, _, e0, _, c3⟩ := h.at_ (i := 3) (by omega)
  cases e0
  rw [Nat.add_zero] at c0
  have J := Lib.hid (word_join b0 b1 b2 b3)
  generalize zs.getD 0 0 = z0 at *
  generalize zs.getD 1 0 = z1 at *
  generalize zs.getD 2 0 = z2 at *
  generalize zs.getD 3 0 = z3 at *
  clear h
  go_enter Tryd.func51, Tryd.ntmps51
  go_wp2_with fail
  go_quiet (fail)
  go_wp2_with fail
  go_ret
  exact ⟨ret_int J.out, ⟨_, rfl⟩⟩

/-- four bytes of a number laid from place off on -/
def put4 (zs : List Int) (off : Nat) (n : Int) : List Int := (((zs.set off (n % 256)).set (off + 1) (n / 256 % 256)).set (off + 2) (n / 65536 % 256)).set (off + 3) (n / 16777216 % 256)
theorem put_any (g off c : Nat) (ty : TypeId) (zs : List Int) (n : Int) (w : World) (h : Row w g ty .u8 zs) (hl : off + 4 ≤ zs.length) (hn : R32 n) :
    Calls Tryd.prog 59 #[.slice (some ⟨g, off, none⟩) 4 c, .int .u32 n] w fun e w' => (∃ v, e = .returned v) ∧ Row w' g ty .u8 (put4 zs off n) ∧ w.grownBy w' (some g) := by
  have c0 := h.cell (i := off) (by omega)
  have c1 := h.cell (i := off + 1) (by omega)
  have c2 := h.cell (i := off + 2) (by omega)
  have c3 := h.cell (i := off + 3) (by omega)
  have f0 := h.frozen off
  have f1 := h.frozen (off + 1)
  have f2 := h.frozen (off + 2)
  have f3 := h.frozen (off + 3)
  have H := Lib.hid (show Row ((((w.setCell ⟨g, off, none⟩ (.int .u8 (n % 256))).setCell ⟨g, off + 1, none⟩ (.int .u8 (n / 256 % 256))).setCell ⟨g, off + 2, none⟩ (.int .u8 (n / 65536 % 256))).setCell ⟨g, off + 3, none⟩ (.int .u8 (n / 16777216 % 256))) g ty .u8 (put4 zs off n) from
    (((h.set off (wf_byte ⟨by omega, by omega⟩)).set _ (wf_byte ⟨by omega, by omega⟩)).set _ (wf_byte ⟨by omega, by omega⟩)).set _ (wf_byte ⟨by omega, by omega⟩))
  generalize zs.getD off 0 = z0 at *
  generalize zs.getD (off + 1) 0 = z1 at *
  generalize zs.getD (off + 2) 0 = z2 at *
  generalize zs.getD (off + 3) 0 = z3 at *
  clear h
  go_enter Tryd.func59, Tryd.ntmps59
  go_wp2_with fail
  go_end0
  exact ⟨⟨_, rfl⟩, H.out, Lib.grownBy_trans (Lib.grownBy_trans (Lib.grownBy_trans (grown_setCell w g _ _) (grown_setCell _ g _ _)) (grown_setCell _ g _ _)) (grown_setCell _ g _ _)⟩

theorem info_u32 : (Tryd.prog.info? 40).map (·.size) = some 1 := by kernel_rfl

theorem round_set (s : List Int) (i j k l : Nat) : at4 s i j k l = ((((s.set i (qr (s.getD i 0) (s.getD j 0) (s.getD k 0) (s.getD l 0)).1).set j (qr (s.getD i 0) (s.getD j 0) (s.getD k 0) (s.getD l 0)).2.1).set k (qr (s.getD i 0) (s.getD j 0) (s.getD k 0) (s.getD l 0)).2.2.1).set l (qr (s.getD i 0) (s.getD j 0) (s.getD k 0) (s.getD l 0)).2.2.2) := by unfold at4; rfl
theorem info_16 : (Tryd.prog.info? 77).map (·.size) = some 16 := by kernel_rfl
theorem zero_16 : (Tryd.prog.info? 77).bind (·.zero) = some (.agg (arr .u32 (List.replicate 16 0))) := by kernel_rfl
theorem wf_32 {x : Int} (h : R32 x) : (Lit.int .u32 x).wf = true := by
  unfold R32 at h
  simp [Lit.wf, IntKind.min, IntKind.max, IntKind.signed, IntKind.bits]
  omega

set_option maxRecDepth 100000 in
theorem round_any (s : List Int) (i j k l : Nat) (w : World) (hs : Sixteen s) (hi : i < 16) (hj : j < 16) (hk : k < 16) (hl : l < 16) :
    Calls Tryd.prog 52 #[.agg (arr .u32 s), .int .i64 (i : Int), .int .i64 (j : Int), .int .i64 (k : Int), .int .i64 (l : Int)] w fun e w' => e = .returned (.agg (arr .u32 (at4 s i j k l))) ∧ Below w.heap.size w w' := by
  have hwf : ∀ z ∈ s, (Lit.int .u32 z).wf = true := fun z hz => wf_32 (hs.2 z hz)
  have HL := Lib.hid hs.1
  have R := Lib.hid (round_set s i j k l)
  have HS := Lib.hid (hs.at4 i j k l)
  go_enter Tryd.func52, Tryd.ntmps52
  go_wp2_with (first
    | (refine wpList_box_Row (w := w) rfl 77 _ rfl .u32 s rfl hwf ?_; intro w1 r1 g1 z1)
    | (refine wpList_alloc_Row (w := w1) rfl 77 rfl .u32 16 zero_16 ?_; intro w2 r2 g2 z2))
  have b2 : Below w.heap.size w w2 := ((Below.refl _ w).grown g1 (Nat.le_refl _) (by simp)).grown g2 g1.size (by simp)
  have q1 := r1.grown g2 (by simp)
  obtain ⟨g, hg⟩ : ∃ g, w1.heap.size = g := ⟨_, rfl⟩
  have hgw : w.heap.size < g := by rw [← hg]; exact r1.lt
  rw [hg] at r2
  have ci := q1.cell (i := i) (by rw [HL.out]; exact hi)
  have cj := q1.cell (i := j) (by rw [HL.out]; exact hj)
  have ck := q1.cell (i := k) (by rw [HL.out]; exact hk)
  have cl := q1.cell (i := l) (by rw [HL.out]; exact hl)
  have R' := R.out
  clear r1 g1 g2 z1 z2 hs
  generalize s.getD i 0 = x0 at *
  generalize s.getD j 0 = x1 at *
  generalize s.getD k 0 = x2 at *
  generalize s.getD l 0 = x3 at *
  have hi' : (i : Int) < 16 := by omega
  have hj' : (j : Int) < 16 := by omega
  have hk' : (k : Int) < 16 := by omega
  have hl' : (l : Int) < 16 := by omega
  have hi0 : (0 : Int) ≤ (i : Int) := by omega
  have hj0 : (0 : Int) ≤ (j : Int) := by omega
  have hk0 : (0 : Int) ≤ (k : Int) := by omega
  have hl0 : (0 : Int) ≤ (l : Int) := by omega
  go_wp2_with fail
  go_quiet ((go_at_call 62; exact quiet_same (rquarter_any _ _ _ _ _)))
  clear ci cj ck cl
  obtain ⟨w3, hw3⟩ : ∃ w3, w2.drewN nq = w3 := ⟨_, rfl⟩
  have q3 : Row w3 w.heap.size 77 .u32 s := hw3 ▸ q1
  have p3 : Row w3 g 77 .u32 (List.replicate 16 0) := hw3 ▸ r2
  have b3 : Below w.heap.size w w3 := hw3 ▸ below_drewN b2 nq
  rw [hw3]
  obtain ⟨y1, y2, y3, y4⟩ := r32_qr x0 x1 x2 x3
  clear hw3 q1 r2 b2 R
  go_wp2_with (first
    | (refine wpList_store_elem (w := w3) rfl 40 _ _ rfl w.heap.size i rfl 77 .u32 _ _ rfl q3 (by rw [HL.out]; exact hi) info_u32 (wf_32 y1) ?_; intro w4 q4 g4 z4)
    | (refine wpList_store_elem (w := w4) rfl 40 _ _ rfl w.heap.size j rfl 77 .u32 _ _ rfl q4 (by rw [List.length_set, HL.out]; exact hj) info_u32 (wf_32 y2) ?_; intro w5 q5 g5 z5)
    | (refine wpList_store_elem (w := w5) rfl 40 _ _ rfl w.heap.size k rfl 77 .u32 _ _ rfl q5 (by rw [List.length_set, List.length_set, HL.out]; exact hk) info_u32 (wf_32 y3) ?_; intro w6 q6 g6 z6)
    | (refine wpList_store_elem (w := w6) rfl 40 _ _ rfl w.heap.size l rfl 77 .u32 _ _ rfl q6 (by rw [List.length_set, List.length_set, List.length_set, HL.out]; exact hl) info_u32 (wf_32 y4) ?_; intro w7 q7 g7 z7; rw [← R'] at q7; have p7 := (((p3.grown g4 (by intro e; injection e with e; omega)).grown g5 (by intro e; injection e with e; omega)).grown g6 (by intro e; injection e with e; omega)).grown g7 (by intro e; injection e with e; omega))
    | (refine wpList_load_Row (w := w7) rfl 77 _ rfl w.heap.size rfl 77 .u32 _ q7 16 40 Tryd.underlying77 info_16 HS.out.1 ?_)
    | (refine wpList_store_RowTo (w := w7) rfl 77 _ _ rfl g rfl 77 .u32 _ (at4 s i j k l) rfl p7 16 info_16 HS.out.1 (by simp) (fun z hz => wf_32 (HS.out.2 z hz)) ?_; intro w8 q8 g8 z8))
  have b7 : Below w.heap.size w w7 := (((b3.grown g4 b3.size (fun r e => by cases e; omega)).grown g5 (by have := b3.size; have := g4.size; omega) (fun r e => by cases e; omega)).grown g6 (by have := b3.size; have := g4.size; have := g5.size; omega) (fun r e => by cases e; omega)).grown g7 (by have := b3.size; have := g4.size; have := g5.size; have := g6.size; omega) (fun r e => by cases e; omega)
  refine bodyPost_ret (results_Row rfl _ _ g _ _ _ rfl q8 16 40 Tryd.underlying77 info_16 HS.out.1) rfl ?_
  exact ⟨rfl, b7.grown g8 b7.size (fun r e => by cases e; omega)⟩
end Go.Proofs.YtebcejncjljmhaaDoor.Cha
namespace Go.Proofs.YtebcejncjljmhaaDoor.Mem
open Go.RowKit
set_option linter.unusedVariables false
theorem run_mid {P : Program} {t e : TypeId} (ht : P.underlying t = some (.slice e)) (hs : (P.info? e).map (·.size) = some 1) (g n : Nat) {cap l h : Nat} (hl : l ≤ h) (hh : h ≤ cap) (hlc : l < cap) (w : World) :
    (Instr.sliceAt t (.slice (some ⟨g, 0, none⟩) n cap) (some (.int .i64 (l : Int))) (some (.int .i64 (h : Int))) none).run P w = .ok (.slice (some ⟨g, l, none⟩) (h - l) (cap - l)) w := by
  have he : P.elem t = e := by simp [Program.elem, ht]
  have ht' : P.underlying t = some (.slice (P.elem t)) := by rw [he]; exact ht
  obtain ⟨inf, hi, h1⟩ := Option.map_eq_some_iff.1 hs
  rw [run_sliceAt_slice w t _ _ _ _ ht', run_slice_lh w t (some ⟨g, 0, none⟩) n cap ht' .i64 .i64 _ _ (by omega) (by omega) (by omega), he]
  have hz : (sizeOf e).run P w = .ok 1 w := by simp [sizeOf, typeInfo, hi, h1]
  have hne : ¬ cap = l := by omega
  rw [hz]
  simp [Result.andThen, sliced, Addr.add, hne]
  omega
theorem Row.mid {w : World} {g : Nat} {t : TypeId} {k : IntKind} {zs : List Int} (h : Row w g t k zs) {l m : Nat} (hm : l + m ≤ zs.length) : Ints w k w.heap.size (some ⟨g, l, none⟩) m ((zs.drop l).take m) := by
  refine ⟨by rw [List.length_take, List.length_drop]; omega, fun z hz => h.1 z (List.mem_of_mem_drop (List.mem_of_mem_take hz)), fun _ => ⟨g, l, rfl, h.lt, fun i hi => ?_⟩⟩
  rw [h.cell (by omega)]
  simp [List.getD_eq_getElem?_getD, hi]
end Go.Proofs.YtebcejncjljmhaaDoor.Mem
namespace Go.Proofs.YtebcejncjljmhaaDoor.Cha
open Go.RowKit Go.Shelf Go.Proofs.YtebcejncjljmhaaDoor.Mem Go.Proofs.YtebcejncjljmhaaDoor.Help Go.Proofs.YtebcejncjljmhaaDoor.Sum Go.Proofs.YtebcejncjljmhaaDoor.Cc Go.Proofs.YtebcejncjljmhaaDoor.Sha Go.Proofs.YtebcejncjljmhaaDoor
set_option linter.unusedVariables false
attribute [local irreducible] wpList wpListIn

/-- zs is F, up to place m -/
def Upto (F : List Int) (m : Nat) (zs : List Int) : Prop := zs.length = F.length ∧ ∀ i, i < m → zs.getD i 0 = F.getD i 0
theorem Upto.set {F zs : List Int} {m : Nat} (h : Upto F m zs) (hm : m < F.length) : Upto F (m + 1) (zs.set m (F.getD m 0)) := by
  refine ⟨by rw [List.length_set]; exact h.1, fun i hi => ?_⟩
  by_cases e : i = m
  · subst e
    simp [List.getD_eq_getElem?_getD, h.1, hm]
  · rw [← h.2 i (by omega)]
    simp only [List.getD_eq_getElem?_getD, List.getElem?_set]
    rw [if_neg (by omega)]
theorem Upto.eq {F zs : List Int} {m : Nat} (h : Upto F m zs) (hm : F.length ≤ m) : zs = F := list_eq h.1 fun i hi => h.2 i (by have := h.1; omega)
theorem first_key (key : List Int) (ctr : Int) (nonce : List Int) {t : Nat} (ht : t < 8) : (first key ctr nonce).getD (4 + t) 0 = lew key t := by
  simp only [first, List.getD_eq_getElem?_getD]
  rw [List.getElem?_append_right (by simp [sigma]), List.getElem?_append_left (by simp [sigma]; omega)]
  simp [sigma, ht]
theorem first_ctr (key : List Int) (ctr : Int) (nonce : List Int) : (first key ctr nonce).getD 12 0 = ctr := by
  simp only [first, List.getD_eq_getElem?_getD]
  rw [List.getElem?_append_right (by simp [sigma]), List.getElem?_append_right (by simp [sigma])]
  simp [sigma]
theorem first_nonce (key : List Int) (ctr : Int) (nonce : List Int) {t : Nat} (ht : t < 3) : (first key ctr nonce).getD (13 + t) 0 = lew nonce t := by
  simp only [first, List.getD_eq_getElem?_getD]
  rw [List.getElem?_append_right (by simp [sigma]; omega), List.getElem?_append_right (by simp [sigma]; omega)]
  have e : 13 + t - sigma.length - (List.map (lew key) (List.range 8)).length = t + 1 := by simp [sigma]; omega
  rw [e]
  simp [ht]
theorem first_sigma (key : List Int) (ctr : Int) (nonce : List Int) : Upto (first key ctr nonce) 4 (laidOver (List.replicate 16 0) 0 sigma) := by
  refine ⟨by rw [laidOver_length _ _ _ (by simp [sigma]), first_length]; simp, fun i hi => ?_⟩
  rw [laidOver_get _ _ _ (by simp [sigma]), if_pos ⟨by omega, by simpa [sigma] using hi⟩]
  simp only [first, List.getD_eq_getElem?_getD]
  rw [List.getElem?_append_left (by simpa [sigma] using hi)]
  rfl
theorem lew_of (xs : List Int) {l : Nat} (t : Nat) (h : 4 * t + 4 ≤ l) (hl : xs.length = l) : le4 (((xs.drop (4 * t)).take 4).getD 0 0) (((xs.drop (4 * t)).take 4).getD 1 0) (((xs.drop (4 * t)).take 4).getD 2 0) (((xs.drop (4 * t)).take 4).getD 3 0) = lew xs t := by
  have e : ∀ j, j < 4 → ((xs.drop (4 * t)).take 4).getD j 0 = xs.getD (4 * t + j) 0 := fun j hj => by
    simp [List.getD_eq_getElem?_getD, List.getElem?_drop, hj]
  rw [e 0 (by omega), e 1 (by omega), e 2 (by omega), e 3 (by omega)]
  rfl
theorem bs_wf {zs : List Int} (h : Bs zs) : ∀ z ∈ zs, (Lit.int .u8 z).wf = true := fun z hz => wf_byte (h z hz)

/-- a table as a slice of its own block -/
theorem Tab.ints {w : World} {g : Nat} {zs : List Int} (h : Tab w g zs) (hz : ∀ z ∈ zs, (Lit.int .u32 z).wf = true) : Ints w .u32 w.heap.size (some ⟨g, 0, none⟩) zs.length zs :=
  ⟨rfl, hz, fun _ => ⟨g, 0, rfl, h.lt, fun i hi => by rw [Nat.zero_add]; exact h.cell hi⟩⟩
theorem sigma_wf : ∀ z ∈ sigma, (Lit.int .u32 z).wf = true := by decide

set_option maxRecDepth 100000 in
set_option maxHeartbeats 1000000 in
theorem state_any (key nonce : List Int) (ctr : Int) (w : World) (hk : key.length = 32) (hkb : Bs key) (hn : nonce.length = 12) (hnb : Bs nonce) (hc : R32 ctr) (hT : Tab w 1 sigma) :
    Calls Tryd.prog 57 #[.agg (arr .u8 key), .int .u32 ctr, .agg (arr .u8 nonce)] w fun e w' => e = .returned (.agg (arr .u32 (first key ctr nonce))) ∧ Below w.heap.size w w' := by
  have zero_16 : (Tryd.prog.info? 77).bind (·.zero) = some (.agg (arr .u32 (List.replicate 16 0))) := by kernel_rfl
  have HK := Lib.hid hk
  have HN := Lib.hid hn
  clear hk hn
  have FK := Lib.hid (fun t (ht : t < 8) => first_key key ctr nonce ht)
  have FC := Lib.hid (first_ctr key ctr nonce)
  have FN := Lib.hid (fun t (ht : t < 3) => first_nonce key ctr nonce ht)
  have FL := Lib.hid (first_length key ctr nonce)
  have FS := Lib.hid (sixteen_first hkb hnb hc)
  have LK := Lib.hid (fun t (ht : 4 * t + 4 ≤ 32) => lew_of key t ht HK.out)
  have LN := Lib.hid (fun t (ht : 4 * t + 4 ≤ 12) => lew_of nonce t ht HN.out)
  have RK := Lib.hid (fun t => r32_lew hkb t)
  have RN := Lib.hid (fun t => r32_lew hnb t)
  obtain ⟨F, hF⟩ : ∃ F, first key ctr nonce = F := ⟨_, rfl⟩
  have u4 := first_sigma key ctr nonce
  rw [hF] at u4 FC FL FS
  simp only [hF] at FK FN
  have HF := Lib.hid hF
  clear hF
  go_enter Tryd.func57, Tryd.ntmps57
  go_wp2_with (first
    | (refine wpList_box_Row (w := w) rfl 22 _ rfl .u8 key rfl (bs_wf hkb) ?_; intro w1 r1 g1 z1)
    | (refine wpList_box_Row (w := w1) rfl 23 _ rfl .u8 nonce rfl (bs_wf hnb) ?_; intro w2 r2 g2 z2)
    | (refine wpList_alloc_Row (w := w2) rfl 77 rfl .u32 16 zero_16 ?_; intro w3 r3 g3 z3)
    | (refine wpList_alloc_Row (w := w3) rfl 77 rfl .u32 16 zero_16 ?_; intro w4 r4 g4 z4))
  obtain ⟨gn, hgn⟩ : ∃ g, w1.heap.size = g := ⟨_, rfl⟩
  obtain ⟨gr, hgr⟩ : ∃ g, w2.heap.size = g := ⟨_, rfl⟩
  obtain ⟨gs, hgs⟩ : ∃ g, w3.heap.size = g := ⟨_, rfl⟩
  have l1 := r1.lt
  have l2 := r2.lt
  have l3 := r3.lt
  have b4 : Below w.heap.size w w4 := ((((Below.refl _ w).grown g1 (Nat.le_refl _) (by simp)).grown g2 g1.size (by simp)).grown g3 (by omega) (by simp)).grown g4 (by omega) (by simp)
  have k4 := ((r1.grown g2 (by simp)).grown g3 (by simp)).grown g4 (by simp)
  have n4 := (r2.grown g3 (by simp)).grown g4 (by simp)
  have e4 := r3.grown g4 (by simp)
  rw [hgn] at l1 l2 n4
  rw [hgr] at l2 l3 e4
  rw [hgs] at l3 r4
  rw [hgn, hgr, hgs]
  clear hgn hgr hgs r1 r2 r3 g1 g2 g3 g4 z1 z2 z3 z4
  have hT4 := hT.below b4 hT.lt
  have iT := Tab.ints hT4 sigma_wf
  simp only [Act.put, List.setIfInBounds_toArray, List.set_cons_zero, List.set_cons_succ]
  refine wp_region_held (S := fun _ => True) (by kernel_rfl) ?_
  change wpAnyH _ _ _ _ _ _ _ _ w4.drew
  have c0 : True := trivial
  refine Held.take (v := .slice (some ⟨gs, 0, none⟩) 16 16) 0 (some 10) rfl rfl (by kernel_rfl) (by kernel_rfl) (by kernel_rfl) (fun _ _ _ h => h) rfl (Held.y_slice rfl (fun W => run_slice_arr_all (P := Tryd.prog) 77 40 16 gs W Tryd.underlying77 (by kernel_rfl) (by omega))) c0 ?_
  simp only [Act.put, List.setIfInBounds_toArray, List.set_cons_zero, List.set_cons_succ]
  refine Held.take (v := .slice (some ⟨1, 0, none⟩) 4 4) 1 (some 11) rfl rfl (by kernel_rfl) (by kernel_rfl) (by kernel_rfl) (fun _ _ _ h => h) rfl (Held.y_slice rfl (fun W => run_slice_arr_all (P := Tryd.prog) 91 40 4 1 W Tryd.underlying91 (by kernel_rfl) (by omega))) c0 ?_
  simp only [Act.put, List.setIfInBounds_toArray, List.set_cons_zero, List.set_cons_succ]
  refine Held.one 2 (by kernel_rfl) ?_
  refine Held.op_copy_Row 2 (some 12) 90 90 rfl rfl rfl rfl 40 Tryd.underlying90 info_u32 gs 0 16 16 w4.heap.size (some ⟨1, 0, none⟩) 4 4 rfl rfl 77 .u32 _ sigma r4 iT (by simp) ?_
  intro w5 r5 g5'
  have g5 : w4.grownBy w5 (some gs) := ⟨g5'.os, g5'.tape, g5'.output, g5'.size, g5'.block⟩
  clear g5'
  rw [List.take_of_length_le (by simp [sigma])] at r5
  refine ⟨trivial, ?_⟩
  simp only [Act.put, List.setIfInBounds_toArray, List.set_cons_zero, List.set_cons_succ]
  refine wpAnyH_done (by kernel_rfl) ?_ _
  rw [show ((min 4 16 : Nat) : Int) = 4 from rfl]
  have b5 : Below w.heap.size w w5 := b4.grown g5 b4.size (fun r e => by cases e; omega)
  have k5 := k4.grown g5 (by intro e; injection e with e; omega)
  have n5 := n4.grown g5 (by intro e; injection e with e; omega)
  have e5 := e4.grown g5 (by intro e; injection e with e; omega)
  obtain ⟨z5, hz5⟩ : ∃ z, laidOver (List.replicate 16 0) 0 sigma = z := ⟨_, rfl⟩
  rw [hz5] at r5 u4
  clear hz5 b4 k4 n4 e4 r4 g5 c0 iT hT4
  go_wp2_with fail
  go_loopw [13] (fun i wr => ∃ k : Nat, k ≤ 8 ∧ i = .int .i64 k ∧ Below w.heap.size w wr ∧ Row wr w.heap.size 22 .u8 key ∧ Row wr gn 23 .u8 nonce ∧ Row wr gr 77 .u32 (List.replicate 16 0) ∧ ∃ zs, Row wr gs 77 .u32 zs ∧ Upto F (4 + k) zs) (fun i _ => 8 - (intOf i).toNat)
  case atStart => exact ⟨0, by omega, rfl, b5, k5, n5, e5, z5, r5, u4⟩
  case round =>
    clear b5 k5 n5 e5 r5 u4
    obtain ⟨k, hk, rfl, hbl, kr, nr, er, zs, sr, hu⟩ := hrel
    have hk0 : (0 : Int) ≤ (k : Int) := by omega
    by_cases hlt : k < 8
    · have hlt' : (k : Int) < 8 := by omega
      have hsl : ∀ W, (Instr.sliceAt 22 (.pointer (some ⟨w.heap.size, 0, none⟩)) (some (.int .i64 (4 * (k : Int)))) (some (.int .i64 (4 * (k : Int) + 4))) none).run Tryd.prog W = .ok (.slice (some ⟨w.heap.size, 4 * k, none⟩) 4 (32 - 4 * k)) W := fun W => by
        have := run_slice_arr_lh (P := Tryd.prog) 22 5 32 w.heap.size (4 * k) (4 * k + 4) W Tryd.underlying22 (by kernel_rfl) (by omega) (by omega) (by omega)
        rw [show 4 * k + 4 - 4 * k = 4 by omega] at this
        exact this
      have ik := kr.mid (l := 4 * k) (m := 4) (by rw [HK.out]; omega)
      go_wp2_with fail
      refine (word_any w.heap.size (4 * k) 4 (32 - 4 * k) _ _ wr ik rfl).mono ?_
      rintro e w6 ⟨rfl, st⟩
      rw [LK.out k (by omega), ← FK.out k hlt]
      have kr6 := kr.below (st.below _) kr.lt
      have nr6 := nr.below (st.below _) nr.lt
      have er6 := er.below (st.below _) er.lt
      have sr6 := sr.below (st.below _) sr.lt
      have hb6 := hbl.trans (st.below _)
      have HU := Lib.hid (hu.set (by rw [FL.out]; omega))
      have hr32 : R32 (F.getD (4 + k) 0) := FS.out.get (by omega)
      have HZ := Lib.hid hu.1
      clear ik hsl hbl kr nr er sr
      generalize F.getD (4 + k) 0 = x at *
      go_wp2_with (refine wpList_store_elem (w := w6) rfl 40 _ _ rfl gs (4 + k) rfl 77 .u32 _ _ rfl sr6 (by rw [HZ.out, FL.out]; omega) info_u32 (wf_32 hr32) ?_; intro w7 q7 g7 z7)
      go_roundw
      case rel => exact ⟨k + 1, by omega, by go_num, hb6.grown g7 hb6.size (fun r e => by cases e; omega), kr6.grown g7 (by intro e; injection e with e; omega), nr6.grown g7 (by intro e; injection e with e; omega), er6.grown g7 (by intro e; injection e with e; omega), _, q7, HU.out⟩
      case measure => simp [intOf]; omega
    · have hk8 : k = 8 := by omega
      subst hk8
      have HU := Lib.hid (hu.set (by rw [FL.out]; omega))
      have HZ := Lib.hid hu.1
      rw [FC.out] at HU
      go_wp2_with (refine wpList_store_elem (w := wr) rfl 40 _ _ rfl gs 12 rfl 77 .u32 _ _ rfl sr (by rw [HZ.out, FL.out]; omega) info_u32 (wf_32 hc) ?_; intro w6 sr6 g6 z6)
      have hb6 := hbl.grown g6 hbl.size (fun r e => by cases e; omega)
      have nr6 := nr.grown g6 (by intro e; injection e with e; omega)
      have er6 := er.grown g6 (by intro e; injection e with e; omega)
      have hu6 := HU.out
      clear hbl kr nr er sr g6 z6 hu hk0
      go_loopw [29] (fun i wr => ∃ k : Nat, k ≤ 3 ∧ i = .int .i64 k ∧ Below w.heap.size w wr ∧ Row wr gn 23 .u8 nonce ∧ Row wr gr 77 .u32 (List.replicate 16 0) ∧ ∃ zs, Row wr gs 77 .u32 zs ∧ Upto F (13 + k) zs) (fun i _ => 3 - (intOf i).toNat)
      case atStart => exact ⟨0, by omega, rfl, hb6, nr6, er6, _, sr6, hu6⟩
      case round =>
        clear hb6 nr6 er6 sr6 hu6 HU HZ
        obtain ⟨k, hk, rfl, hbl, nr, er, zs, sr, hu⟩ := hrel
        have hk0 : (0 : Int) ≤ (k : Int) := by omega
        by_cases hlt : k < 3
        · have hlt' : (k : Int) < 3 := by omega
          have hsl : ∀ W, (Instr.sliceAt 23 (.pointer (some ⟨gn, 0, none⟩)) (some (.int .i64 (4 * (k : Int)))) (some (.int .i64 (4 * (k : Int) + 4))) none).run Tryd.prog W = .ok (.slice (some ⟨gn, 4 * k, none⟩) 4 (12 - 4 * k)) W := fun W => by
            have := run_slice_arr_lh (P := Tryd.prog) 23 5 12 gn (4 * k) (4 * k + 4) W Tryd.underlying23 (by kernel_rfl) (by omega) (by omega) (by omega)
            rw [show 4 * k + 4 - 4 * k = 4 by omega] at this
            exact this
          have ik := nr.mid (l := 4 * k) (m := 4) (by rw [HN.out]; omega)
          go_wp2_with fail
          refine (word_any gn (4 * k) 4 (12 - 4 * k) _ _ wr ik rfl).mono ?_
          rintro e w6 ⟨rfl, st⟩
          rw [LN.out k (by omega), ← FN.out k hlt]
          have nr6 := nr.below (st.below _) nr.lt
          have er6 := er.below (st.below _) er.lt
          have sr6 := sr.below (st.below _) sr.lt
          have hb6 := hbl.trans (st.below _)
          have HU := Lib.hid (hu.set (by rw [FL.out]; omega))
          have hr32 : R32 (F.getD (13 + k) 0) := FS.out.get (by omega)
          have HZ := Lib.hid hu.1
          clear ik hsl hbl nr er sr
          generalize F.getD (13 + k) 0 = x at *
          go_wp2_with (refine wpList_store_elem (w := w6) rfl 40 _ _ rfl gs (13 + k) rfl 77 .u32 _ _ rfl sr6 (by rw [HZ.out, FL.out]; omega) info_u32 (wf_32 hr32) ?_; intro w7 q7 g7 z7)
          go_roundw
          case rel => exact ⟨k + 1, by omega, by go_num, hb6.grown g7 hb6.size (fun r e => by cases e; omega), nr6.grown g7 (by intro e; injection e with e; omega), er6.grown g7 (by intro e; injection e with e; omega), _, q7, HU.out⟩
          case measure => simp [intOf]; omega
        · have hk3 : k = 3 := by omega
          subst hk3
          have hz := hu.eq (by rw [FL.out]; omega)
          subst hz
          go_wp2_with (first
            | (refine wpList_load_Row (w := wr) rfl 77 _ rfl gs rfl 77 .u32 _ sr 16 40 Tryd.underlying77 info_16 FL.out ?_)
            | (refine wpList_store_RowTo (w := wr) rfl 77 _ _ rfl gr rfl 77 .u32 _ zs rfl er 16 info_16 FL.out (by simp) (fun z hz => wf_32 (FS.out.2 z hz)) ?_; intro w8 q8 g8 z8))
          refine bodyPost_ret (results_Row rfl _ _ gr _ _ _ rfl q8 16 40 Tryd.underlying77 info_16 FL.out) rfl ?_
          exact ⟨by rw [HF.out], hbl.grown g8 hbl.size (fun r e => by cases e; omega)⟩
end Go.Proofs.YtebcejncjljmhaaDoor.Cha
namespace Go.Proofs.YtebcejncjljmhaaDoor.Cha
open Go.RowKit Go.Shelf Go.Proofs.YtebcejncjljmhaaDoor.Mem Go.Proofs.YtebcejncjljmhaaDoor.Help Go.Proofs.YtebcejncjljmhaaDoor.Sum Go.Proofs.YtebcejncjljmhaaDoor.Cc Go.Proofs.YtebcejncjljmhaaDoor.Sha Go.Proofs.YtebcejncjljmhaaDoor
set_option linter.unusedVariables false
attribute [local irreducible] wpList wpListIn

theorem sixteen_out {s : List Int} (h : s.length = 16) : ∃ a0 a1 a2 a3 a4 a5 a6 a7 a8 a9 a10 a11 a12 a13 a14 a15, s = [a0, a1, a2, a3, a4, a5, a6, a7, a8, a9, a10, a11, a12, a13, a14, a15] := by
  rcases s with _ | ⟨a0, _ | ⟨a1, _ | ⟨a2, _ | ⟨a3, _ | ⟨a4, _ | ⟨a5, _ | ⟨a6, _ | ⟨a7, _ | ⟨a8, _ | ⟨a9, _ | ⟨a10, _ | ⟨a11, _ | ⟨a12, _ | ⟨a13, _ | ⟨a14, _ | ⟨a15, _ | ⟨a16, s⟩⟩⟩⟩⟩⟩⟩⟩⟩⟩⟩⟩⟩⟩⟩⟩⟩ <;> first | (simp at h; done) | exact ⟨_, _, _, _, _, _, _, _, _, _, _, _, _, _, _, _, rfl⟩
theorem columns_list (a0 a1 a2 a3 a4 a5 a6 a7 a8 a9 a10 a11 a12 a13 a14 a15 : Int) : columns [a0, a1, a2, a3, a4, a5, a6, a7, a8, a9, a10, a11, a12, a13, a14, a15] =
    [(qr a0 a4 a8 a12).1, (qr a1 a5 a9 a13).1, (qr a2 a6 a10 a14).1, (qr a3 a7 a11 a15).1, (qr a0 a4 a8 a12).2.1, (qr a1 a5 a9 a13).2.1, (qr a2 a6 a10 a14).2.1, (qr a3 a7 a11 a15).2.1,
     (qr a0 a4 a8 a12).2.2.1, (qr a1 a5 a9 a13).2.2.1, (qr a2 a6 a10 a14).2.2.1, (qr a3 a7 a11 a15).2.2.1, (qr a0 a4 a8 a12).2.2.2, (qr a1 a5 a9 a13).2.2.2, (qr a2 a6 a10 a14).2.2.2, (qr a3 a7 a11 a15).2.2.2] := by
  unfold columns at4
  rfl
theorem diagonals_list (a0 a1 a2 a3 a4 a5 a6 a7 a8 a9 a10 a11 a12 a13 a14 a15 : Int) : diagonals [a0, a1, a2, a3, a4, a5, a6, a7, a8, a9, a10, a11, a12, a13, a14, a15] =
    [(qr a0 a5 a10 a15).1, (qr a1 a6 a11 a12).1, (qr a2 a7 a8 a13).1, (qr a3 a4 a9 a14).1, (qr a3 a4 a9 a14).2.1, (qr a0 a5 a10 a15).2.1, (qr a1 a6 a11 a12).2.1, (qr a2 a7 a8 a13).2.1,
     (qr a2 a7 a8 a13).2.2.1, (qr a3 a4 a9 a14).2.2.1, (qr a0 a5 a10 a15).2.2.1, (qr a1 a6 a11 a12).2.2.1, (qr a1 a6 a11 a12).2.2.2, (qr a2 a7 a8 a13).2.2.2, (qr a3 a4 a9 a14).2.2.2, (qr a0 a5 a10 a15).2.2.2] := by
  unfold diagonals at4
  rfl

set_option maxRecDepth 100000 in
set_option maxHeartbeats 2000000 in
theorem mixed_any (s : List Int) (w : World) (hs : Sixteen s) :
    Calls Tryd.prog 58 #[.agg (arr .u32 s)] w fun e w' => e = .returned (.agg (arr .u32 (turns 10 s))) ∧ Below w.heap.size w w' := by
  have zero_16 : (Tryd.prog.info? 77).bind (·.zero) = some (.agg (arr .u32 (List.replicate 16 0))) := by kernel_rfl
  have hwf : ∀ z ∈ s, (Lit.int .u32 z).wf = true := fun z hz => wf_32 (hs.2 z hz)
  have HL := Lib.hid hs.1
  have HT := Lib.hid (fun k => (hs.turns k))
  obtain ⟨a0, a1, a2, a3, a4, a5, a6, a7, a8, a9, a10, a11, a12, a13, a14, a15, he⟩ := sixteen_out hs.1
  have H0 : Hid (turns 0 s = [a0, a1, a2, a3, a4, a5, a6, a7, a8, a9, a10, a11, a12, a13, a14, a15]) := Lib.hid he
  have HE := Lib.hid he
  clear he hs
  go_enter Tryd.func58, Tryd.ntmps58
  go_wp2_with (first
    | (refine wpList_box_Row (w := w) rfl 77 _ rfl .u32 s rfl hwf ?_; intro w1 r1 g1 z1)
    | (refine wpList_alloc_Row (w := w1) rfl 77 rfl .u32 16 zero_16 ?_; intro w2 r2 g2 z2))
  have b2 : Below w.heap.size w w2 := ((Below.refl _ w).grown g1 (Nat.le_refl _) (by simp)).grown g2 g1.size (by simp)
  have q1 := r1.grown g2 (by simp)
  obtain ⟨g, hg⟩ : ∃ g, w1.heap.size = g := ⟨_, rfl⟩
  have hgw : w.heap.size < g := by rw [← hg]; exact r1.lt
  rw [hg] at r2 ⊢
  rw [HE.out] at q1
  have c0 := q1.cell (i := 0) (by simp)
  have c1 := q1.cell (i := 1) (by simp)
  have c2 := q1.cell (i := 2) (by simp)
  have c3 := q1.cell (i := 3) (by simp)
  have c4 := q1.cell (i := 4) (by simp)
  have c5 := q1.cell (i := 5) (by simp)
  have c6 := q1.cell (i := 6) (by simp)
  have c7 := q1.cell (i := 7) (by simp)
  have c8 := q1.cell (i := 8) (by simp)
  have c9 := q1.cell (i := 9) (by simp)
  have c10 := q1.cell (i := 10) (by simp)
  have c11 := q1.cell (i := 11) (by simp)
  have c12 := q1.cell (i := 12) (by simp)
  have c13 := q1.cell (i := 13) (by simp)
  have c14 := q1.cell (i := 14) (by simp)
  have c15 := q1.cell (i := 15) (by simp)
  simp only [List.getD_cons_zero, List.getD_cons_succ] at c0 c1 c2 c3 c4 c5 c6 c7 c8 c9 c10 c11 c12 c13 c14 c15
  clear r1 g1 g2 z1 z2 hg
  go_quiet (fail)
  obtain ⟨m1, rfl⟩ : ∃ m1, m1 = nq := ⟨_, rfl⟩
  go_wp2_with fail
  go_quiet (fail)
  obtain ⟨m2, rfl⟩ : ∃ m2, m2 = nq := ⟨_, rfl⟩
  go_wp2_with fail
  go_quiet (fail)
  obtain ⟨m3, rfl⟩ : ∃ m3, m3 = nq := ⟨_, rfl⟩
  go_wp2_with fail
  go_quiet (fail)
  obtain ⟨w3, hw3⟩ : ∃ w3, (((w2.drewN m1).drewN m2).drewN m3).drewN nq = w3 := ⟨_, rfl⟩
  have r3 : Row w3 g 77 .u32 (List.replicate 16 0) := hw3 ▸ r2
  have b3 : Below w.heap.size w w3 := hw3 ▸ below_drewN (below_drewN (below_drewN (below_drewN b2 _) _) _) _
  rw [hw3]
  clear hw3 c0 c1 c2 c3 c4 c5 c6 c7 c8 c9 c10 c11 c12 c13 c14 c15 r2 b2 q1
  go_wp2_with fail
  go_loopw [3, 4, 5, 6, 7, 8, 9, 10, 11, 12, 13, 14, 15, 16, 17, 18, 51] (fun s0 s1 s2 s3 s4 s5 s6 s7 s8 s9 s10 s11 s12 s13 s14 s15 i wr => ∃ k : Nat, k ≤ 10 ∧ i = .int .i64 k ∧ wr = w3 ∧ ∃ a0 a1 a2 a3 a4 a5 a6 a7 a8 a9 a10 a11 a12 a13 a14 a15 : Int, Hid (turns k s = [a0, a1, a2, a3, a4, a5, a6, a7, a8, a9, a10, a11, a12, a13, a14, a15]) ∧ s0 = .int .u32 a0 ∧ s1 = .int .u32 a1 ∧ s2 = .int .u32 a2 ∧ s3 = .int .u32 a3 ∧ s4 = .int .u32 a4 ∧ s5 = .int .u32 a5 ∧ s6 = .int .u32 a6 ∧ s7 = .int .u32 a7 ∧ s8 = .int .u32 a8 ∧ s9 = .int .u32 a9 ∧ s10 = .int .u32 a10 ∧ s11 = .int .u32 a11 ∧ s12 = .int .u32 a12 ∧ s13 = .int .u32 a13 ∧ s14 = .int .u32 a14 ∧ s15 = .int .u32 a15) (fun _ _ _ _ _ _ _ _ _ _ _ _ _ _ _ _ i _ => 10 - (intOf i).toNat)
  case atStart => exact ⟨0, by omega, rfl, rfl, a0, a1, a2, a3, a4, a5, a6, a7, a8, a9, a10, a11, a12, a13, a14, a15, H0, rfl, rfl, rfl, rfl, rfl, rfl, rfl, rfl, rfl, rfl, rfl, rfl, rfl, rfl, rfl, rfl⟩
  case round =>
    clear H0 HE
    obtain ⟨k, hk, rfl, rfl, a0, a1, a2, a3, a4, a5, a6, a7, a8, a9, a10, a11, a12, a13, a14, a15, HK, rfl, rfl, rfl, rfl, rfl, rfl, rfl, rfl, rfl, rfl, rfl, rfl, rfl, rfl, rfl, rfl⟩ := hrel
    have hk0 : (0 : Int) ≤ (k : Int) := by omega
    by_cases hlt : k < 10
    · have hlt' : (k : Int) < 10 := by omega
      have HK1 : Hid (turns (k + 1) s = twice [a0, a1, a2, a3, a4, a5, a6, a7, a8, a9, a10, a11, a12, a13, a14, a15]) := Lib.hid (by show twice (turns k s) = _; rw [HK.out])
      rw [show twice [a0, a1, a2, a3, a4, a5, a6, a7, a8, a9, a10, a11, a12, a13, a14, a15] = diagonals (columns [a0, a1, a2, a3, a4, a5, a6, a7, a8, a9, a10, a11, a12, a13, a14, a15]) from rfl, columns_list, diagonals_list] at HK1
      go_wp2_with fail
      refine (quarter_any _ _ _ _ _).mono ?_
      rintro e w' ⟨rfl, rfl⟩
      go_wp2_with fail
      refine (quarter_any _ _ _ _ _).mono ?_
      rintro e w' ⟨rfl, rfl⟩
      go_wp2_with fail
      refine (quarter_any _ _ _ _ _).mono ?_
      rintro e w' ⟨rfl, rfl⟩
      go_wp2_with fail
      refine (quarter_any _ _ _ _ _).mono ?_
      rintro e w' ⟨rfl, rfl⟩
      go_wp2_with fail
      refine (quarter_any _ _ _ _ _).mono ?_
      rintro e w' ⟨rfl, rfl⟩
      go_wp2_with fail
      refine (quarter_any _ _ _ _ _).mono ?_
      rintro e w' ⟨rfl, rfl⟩
      go_wp2_with fail
      refine (quarter_any _ _ _ _ _).mono ?_
      rintro e w' ⟨rfl, rfl⟩
      go_wp2_with fail
      refine (quarter_any _ _ _ _ _).mono ?_
      rintro e w' ⟨rfl, rfl⟩
      go_wp2_with fail
      go_roundw
      case rel => exact ⟨k + 1, by omega, by go_num, by trivial, _, _, _, _, _, _, _, _, _, _, _, _, _, _, _, _, HK1, rfl, rfl, rfl, rfl, rfl, rfl, rfl, rfl, rfl, rfl, rfl, rfl, rfl, rfl, rfl, rfl⟩
      case measure => simp [intOf]; omega
    · have hk10 : k = 10 := by omega
      subst hk10
      have HT10 := HT.out 10
      have HK10 := HK.out
      clear HT
      rw [HK10] at HT10
      go_wp2_with (refine wpList_store_RowTo (w := wr) rfl 77 _ _ rfl g rfl 77 .u32 _ [a0, a1, a2, a3, a4, a5, a6, a7, a8, a9, a10, a11, a12, a13, a14, a15] rfl r3 16 info_16 rfl (by simp) (fun z hz => wf_32 (HT10.2 z hz)) ?_; intro w8 q8 g8 z8)
      refine bodyPost_ret (results_Row rfl _ _ g _ _ _ rfl q8 16 40 Tryd.underlying77 info_16 rfl) rfl ?_
      exact ⟨by rw [HK10], b3.grown g8 b3.size (fun r e => by cases e; omega)⟩

theorem upto_put4 {F zs : List Int} {m : Nat} {n : Int} (h : Upto F m zs) (hm : m + 4 ≤ F.length) (h0 : F.getD m 0 = n % 256) (h1 : F.getD (m + 1) 0 = n / 256 % 256) (h2 : F.getD (m + 2) 0 = n / 65536 % 256) (h3 : F.getD (m + 3) 0 = n / 16777216 % 256) : Upto F (m + 4) (put4 zs m n) := by
  unfold put4
  rw [← h0, ← h1, ← h2, ← h3]
  exact (((h.set (by omega)).set (by omega)).set (by omega)).set (by omega)
theorem addI_comm (x y : Int) : addI x y = addI y x := by unfold addI; rw [Int.add_comm]
theorem block_get (key : List Int) (ctr : Int) (nonce : List Int) {i : Nat} (hi : i < 64) : (Cc.block key ctr nonce).getD i 0 = Cc.byteOf (turns 10 (first key ctr nonce)) (first key ctr nonce) i := by simp [Cc.block, List.getD_eq_getElem?_getD, hi]
theorem byteOf_at (v s : List Int) (k j : Nat) (hj : j < 4) : Cc.byteOf v s (4 * k + j) = addI (s.getD k 0) (v.getD k 0) / 2 ^ (8 * j) % 256 := by
  unfold Cc.byteOf
  rw [show (4 * k + j) / 4 = k by omega, show (4 * k + j) % 4 = j by omega, addI_comm]
theorem block_step {key : List Int} {ctr : Int} {nonce zs : List Int} {k : Nat} (hk : k < 16) (h : Upto (Cc.block key ctr nonce) (4 * k) zs) : Upto (Cc.block key ctr nonce) (4 * (k + 1)) (put4 zs (4 * k) (addI ((first key ctr nonce).getD k 0) ((turns 10 (first key ctr nonce)).getD k 0))) := by
  rw [show 4 * (k + 1) = 4 * k + 4 by omega]
  refine upto_put4 (m := 4 * k) h (by rw [block_length]; omega) ?_ ?_ ?_ ?_
  · rw [block_get _ _ _ (by omega)]; have := byteOf_at (turns 10 (first key ctr nonce)) (first key ctr nonce) k 0 (by omega); simpa using this
  · rw [block_get _ _ _ (by omega)]; exact byteOf_at (turns 10 (first key ctr nonce)) (first key ctr nonce) k 1 (by omega)
  · rw [block_get _ _ _ (by omega)]; exact byteOf_at (turns 10 (first key ctr nonce)) (first key ctr nonce) k 2 (by omega)
  · rw [block_get _ _ _ (by omega)]; exact byteOf_at (turns 10 (first key ctr nonce)) (first key ctr nonce) k 3 (by omega)
theorem info_64 : (Tryd.prog.info? 48).map (·.size) = some 64 := by kernel_rfl
theorem zero_64 : (Tryd.prog.info? 48).bind (·.zero) = some (.agg (arr .u8 (List.replicate 64 0))) := by kernel_rfl

set_option maxRecDepth 100000 in
set_option maxHeartbeats 2000000 in
theorem block_any (key nonce : List Int) (ctr : Int) (w : World) (hk : key.length = 32) (hkb : Bs key) (hn : nonce.length = 12) (hnb : Bs nonce) (hc : R32 ctr) (hT : Tab w 1 sigma) :
    Calls Tryd.prog 40 #[.agg (arr .u8 key), .int .u32 ctr, .agg (arr .u8 nonce)] w fun e w' => e = .returned (.agg (arr .u8 (Cc.block key ctr nonce))) ∧ Below w.heap.size w w' := by
  have zero_16 : (Tryd.prog.info? 77).bind (·.zero) = some (.agg (arr .u32 (List.replicate 16 0))) := by kernel_rfl
  have info_32 : (Tryd.prog.info? 22).map (·.size) = some 32 := by kernel_rfl
  have info_12 : (Tryd.prog.info? 23).map (·.size) = some 12 := by kernel_rfl
  have HK := Lib.hid hk
  have HN := Lib.hid hn
  have HS := Lib.hid (sixteen_first hkb hnb hc)
  have HV := Lib.hid ((sixteen_first hkb hnb hc).turns 10)
  have HB := Lib.hid (fun k zs (h1 : k < 16) (h2 : Upto (Cc.block key ctr nonce) (4 * k) zs) => block_step (key := key) (ctr := ctr) (nonce := nonce) h1 h2)
  have HBL := Lib.hid (block_length key ctr nonce)
  have HBW := Lib.hid (block_bytes key ctr nonce)
  clear hk hn
  go_enter Tryd.func40, Tryd.ntmps40
  go_wp2_with (first
    | (refine wpList_box_Row (w := w) rfl 22 _ rfl .u8 key rfl (bs_wf hkb) ?_; intro w1 r1 g1 z1)
    | (refine wpList_box_Row (w := w1) rfl 23 _ rfl .u8 nonce rfl (bs_wf hnb) ?_; intro w2 r2 g2 z2)
    | (refine wpList_alloc_Row (w := w2) rfl 48 rfl .u8 64 zero_64 ?_; intro w3 r3 g3 z3; have k3 := (r1.grown g2 (by simp)).grown g3 (by simp); have n3 := r2.grown g3 (by simp))
    | (refine wpList_load_Row (w := w3) rfl 22 _ rfl w.heap.size rfl 22 .u8 _ k3 32 5 Tryd.underlying22 info_32 HK.out ?_)
    | (refine wpList_load_Row (w := w3) rfl 23 _ rfl w1.heap.size rfl 23 .u8 _ n3 12 5 Tryd.underlying23 info_12 HN.out ?_))
  have b3 : Below w.heap.size w w3 := (((Below.refl _ w).grown g1 (Nat.le_refl _) (by simp)).grown g2 g1.size (by simp)).grown g3 (by have := g1.size; have := g2.size; omega) (by simp)
  obtain ⟨gn, hgn⟩ : ∃ g, w1.heap.size = g := ⟨_, rfl⟩
  obtain ⟨gr, hgr⟩ : ∃ g, w2.heap.size = g := ⟨_, rfl⟩
  have l1 := r1.lt
  have l2 := r2.lt
  have l3 := r3.lt
  rw [hgn] at l1 l2
  rw [hgr] at r3 l2 l3
  rw [hgn, hgr]
  clear hgn hgr r1 r2 g1 g2 g3 z1 z2 z3 k3 n3
  refine (state_any key nonce ctr w3 HK.out hkb HN.out hnb hc (hT.below b3 hT.lt)).mono ?_
  rintro e w4 ⟨rfl, hb4⟩
  have b4 := b3.trans (hb4.mono b3.size)
  have r4 := r3.below hb4 r3.lt
  have l4 := r4.lt
  clear hb4 b3 r3 l3
  obtain ⟨F, hF⟩ : ∃ F, first key ctr nonce = F := ⟨_, rfl⟩
  have HB' := HB.out
  have HS' := HS.out
  have HV' := HV.out
  clear HB HS HV
  rw [hF] at HS' HV' ⊢
  simp only [hF] at HB'
  clear hF
  have HB := Lib.hid HB'
  have HS := Lib.hid HS'
  clear HB' HS'
  go_wp2_with (first
    | (refine wpList_alloc_Row (w := w4) rfl 77 rfl .u32 16 zero_16 ?_; intro w5 r5 g5 z5)
    | (refine wpList_store_RowTo (w := w5) rfl 77 _ _ rfl w4.heap.size rfl 77 .u32 _ F rfl r5 16 info_16 HS.out.1 (by simp) (fun z hz => wf_32 (HS.out.2 z hz)) ?_; intro w6 r6 g6 z6)
    | (refine wpList_load_Row (w := w6) rfl 77 _ rfl w4.heap.size rfl 77 .u32 _ r6 16 40 Tryd.underlying77 info_16 HS.out.1 ?_))
  obtain ⟨gf, hgf⟩ : ∃ g, w4.heap.size = g := ⟨_, rfl⟩
  have b6 : Below w.heap.size w w6 := (b4.grown g5 b4.size (by simp)).grown g6 (by have := b4.size; have := g5.size; omega) (fun r e => by have := b4.size; cases e; omega)
  have q6 := (r4.grown g5 (by simp)).grown g6 (by intro e; injection e with e; omega)
  have l6 := r6.lt
  rw [hgf] at l4 r6 l6 ⊢
  clear hgf r4 r5 g5 g6 z5 z6
  refine (mixed_any F w6 HS.out).mono ?_
  rintro e w7 ⟨rfl, hb7⟩
  have b7 := b6.trans (hb7.mono b6.size)
  have q7 := q6.below hb7 q6.lt
  have f7 := r6.below hb7 r6.lt
  have l7 := f7.lt
  clear hb7 b6 q6 r6 l6
  obtain ⟨V, hV⟩ : ∃ V, turns 10 F = V := ⟨_, rfl⟩
  rw [hV] at HV' ⊢
  have HB' := HB.out
  simp only [hV] at HB'
  clear HB hV
  have HB := Lib.hid HB'
  have HV := Lib.hid HV'
  clear HB' HV'
  go_wp2_with (first
    | (refine wpList_alloc_Row (w := w7) rfl 77 rfl .u32 16 zero_16 ?_; intro w8 r8 g8 z8)
    | (refine wpList_store_RowTo (w := w8) rfl 77 _ _ rfl w7.heap.size rfl 77 .u32 _ V rfl r8 16 info_16 HV.out.1 (by simp) (fun z hz => wf_32 (HV.out.2 z hz)) ?_; intro w9 r9 g9 z9)
    | (refine wpList_alloc_Row (w := w9) rfl 48 rfl .u8 64 zero_64 ?_; intro wa ra ga za; have v9 := r9.grown ga (by simp))
    | (refine wpList_load_Row (w := wa) rfl 77 _ rfl w7.heap.size rfl 77 .u32 _ v9 16 40 Tryd.underlying77 info_16 HV.out.1 ?_))
  obtain ⟨gb, hgb⟩ : ∃ g, w9.heap.size = g := ⟨_, rfl⟩
  have s7 := b7.size
  have s8 := g8.size
  have s9 := g9.size
  have z8' := z8.out
  have ba : Below w.heap.size w wa := ((b7.grown g8 s7 (by simp)).grown g9 (by omega) (fun r e => by cases e; omega)).grown ga (by omega) (by simp)
  have qa := ((q7.grown g8 (by simp)).grown g9 (by intro e; injection e with e; omega)).grown ga (by simp)
  have fa := ((f7.grown g8 (by simp)).grown g9 (by intro e; injection e with e; omega)).grown ga (by simp)
  have lb : gf < w9.heap.size := by omega
  rw [hgb] at lb ra ⊢
  clear hgb r8 r9 v9 g8 g9 ga z8 z9 za z8' s7 s8 s9 q7 f7 l7 b7
  have u0 : Upto (Cc.block key ctr nonce) (4 * 0) (List.replicate 64 0) := ⟨by rw [HBL.out]; simp, fun i hi => by omega⟩
  go_loopw [19] (fun i wr => ∃ k : Nat, k ≤ 16 ∧ i = .int .i64 k ∧ Below w.heap.size w wr ∧ Row wr gr 48 .u8 (List.replicate 64 0) ∧ Row wr gf 77 .u32 F ∧ ∃ zs, Row wr gb 48 .u8 zs ∧ Upto (Cc.block key ctr nonce) (4 * k) zs) (fun i _ => 16 - (intOf i).toNat)
  case atStart => exact ⟨0, by omega, rfl, ba, qa, fa, _, ra, u0⟩
  case round =>
    clear ba qa fa ra u0
    obtain ⟨k, hk, rfl, hbl, qr, fr, zs, br, hu⟩ := hrel
    have hk0 : (0 : Int) ≤ (k : Int) := by omega
    by_cases hlt : k < 16
    · have hlt' : (k : Int) < 16 := by omega
      have hidx : ∀ W, (Instr.index 77 (.agg (arr .u32 V)) (.int .i64 (k : Int))).run Tryd.prog W = .ok (.int .u32 (V.getD k 0)) W := fun W => run_index_arr _ 40 16 .u32 V k W Tryd.underlying77 (by kernel_rfl) (by kernel_rfl) HV.out.1 hlt
      have hsl : ∀ W, (Instr.sliceAt 48 (.pointer (some ⟨gb, 0, none⟩)) (some (.int .i64 (4 * (k : Int)))) (some (.int .i64 (4 * (k : Int) + 4))) none).run Tryd.prog W = .ok (.slice (some ⟨gb, 4 * k, none⟩) 4 (64 - 4 * k)) W := fun W => by
        have := run_slice_arr_lh (P := Tryd.prog) 48 5 64 gb (4 * k) (4 * k + 4) W Tryd.underlying48 (by kernel_rfl) (by omega) (by omega) (by omega)
        rw [show 4 * k + 4 - 4 * k = 4 by omega] at this
        exact this
      have HU := Lib.hid (HB.out k zs hlt hu)
      have hzl := hu.1
      rw [HBL.out] at hzl
      have hcf := fr.cell (i := k) (by rw [HS.out.1]; exact hlt)
      have rF : R32 (F.getD k 0) := HS.out.get hlt
      have rV : R32 (V.getD k 0) := HV.out.get hlt
      generalize F.getD k 0 = x at *
      generalize V.getD k 0 = y at *
      go_wp2_with fail
      refine wp_region_held (S := fun W => wr.grownBy W (some gb)) (by kernel_rfl) ?_
      change wpAnyH _ _ _ _ _ _ _ _ wr.drew
      have S0 : wr.grownBy wr.drew (some gb) := ⟨rfl, rfl, rfl, Nat.le_refl _, fun _ _ _ => rfl⟩
      have hw4 : IntKind.i64.wrap (4 * (k : Int)) = 4 * (k : Int) := by rw [IntKind.wrap_i64]; omega
      have hw5 : IntKind.i64.wrap (4 * (k : Int) + 4) = 4 * (k : Int) + 4 := by rw [IntKind.wrap_i64]; omega
      refine Held.take (v := .int .i64 (k : Int)) 0 (some 23) rfl rfl (by kernel_rfl) (by kernel_rfl) (by kernel_rfl) (fun _ _ _ h => h) rfl (Held.y_move rfl rfl) S0 ?_
      simp only [Act.put, List.setIfInBounds_toArray, List.set_cons_zero, List.set_cons_succ]
      refine Held.take (v := .int .i64 (4 * (k : Int))) 1 (some 24) rfl rfl (by kernel_rfl) (by kernel_rfl) (by kernel_rfl) (fun _ _ _ h => h) rfl (Held.y_int rfl rfl rfl (fun W => Held.run_mul _ _ hw4 W)) S0 ?_
      simp only [Act.put, List.setIfInBounds_toArray, List.set_cons_zero, List.set_cons_succ]
      refine Held.take (v := .int .i64 (k : Int)) 2 (some 25) rfl rfl (by kernel_rfl) (by kernel_rfl) (by kernel_rfl) (fun _ _ _ h => h) rfl (Held.y_move rfl rfl) S0 ?_
      simp only [Act.put, List.setIfInBounds_toArray, List.set_cons_zero, List.set_cons_succ]
      refine Held.take (v := .int .i64 (4 * (k : Int))) 3 (some 26) rfl rfl (by kernel_rfl) (by kernel_rfl) (by kernel_rfl) (fun _ _ _ h => h) rfl (Held.y_int rfl rfl rfl (fun W => Held.run_mul _ _ hw4 W)) S0 ?_
      simp only [Act.put, List.setIfInBounds_toArray, List.set_cons_zero, List.set_cons_succ]
      refine Held.take (v := .int .i64 (4 * (k : Int) + 4)) 4 (some 27) rfl rfl (by kernel_rfl) (by kernel_rfl) (by kernel_rfl) (fun _ _ _ h => h) rfl (Held.y_int rfl rfl rfl (fun W => Held.run_add _ _ hw5 W)) S0 ?_
      simp only [Act.put, List.setIfInBounds_toArray, List.set_cons_zero, List.set_cons_succ]
      refine Held.take (v := .slice (some ⟨gb, 4 * k, none⟩) 4 (64 - 4 * k)) 5 (some 28) rfl rfl (by kernel_rfl) (by kernel_rfl) (by kernel_rfl) (fun _ _ _ h => h) rfl (Held.y_slice rfl hsl) S0 ?_
      simp only [Act.put, List.setIfInBounds_toArray, List.set_cons_zero, List.set_cons_succ]
      refine Held.take (v := .int .i64 (k : Int)) 6 (some 29) rfl rfl (by kernel_rfl) (by kernel_rfl) (by kernel_rfl) (fun _ _ _ h => h) rfl (Held.y_move rfl rfl) S0 ?_
      simp only [Act.put, List.setIfInBounds_toArray, List.set_cons_zero, List.set_cons_succ]
      refine Held.take (v := .pointer (some ⟨gf, k, none⟩)) 7 (some 30) rfl rfl (by kernel_rfl) (by kernel_rfl) (by kernel_rfl) (fun _ _ _ h => h) rfl (Held.y_addr rfl rfl rfl (fun W => Held.run_addr_arr 77 40 16 gf k .i64 Tryd.underlying77 (by kernel_rfl) hlt W)) S0 ?_
      simp only [Act.put, List.setIfInBounds_toArray, List.set_cons_zero, List.set_cons_succ]
      refine Held.take (v := .int .u32 x) 8 (some 31) rfl rfl (by kernel_rfl) (by kernel_rfl) (by kernel_rfl) (fun _ _ _ h => h) rfl (Held.y_load rfl rfl (by kernel_rfl) (fun W hW => (World.cell?_of_block (w := wr) (w' := W) (a := ⟨gf, k, none⟩) (hW.block gf fr.lt (by intro e; injection e with e; omega))).trans hcf)) S0 ?_
      simp only [Act.put, List.setIfInBounds_toArray, List.set_cons_zero, List.set_cons_succ]
      refine Held.take (v := .int .u32 y) 9 (some 32) rfl rfl (by kernel_rfl) (by kernel_rfl) (by kernel_rfl) (fun _ _ _ h => h) rfl (Held.y_move rfl rfl) S0 ?_
      simp only [Act.put, List.setIfInBounds_toArray, List.set_cons_zero, List.set_cons_succ]
      refine Held.take (v := .int .u32 (addI x y)) 10 (some 33) rfl rfl (by kernel_rfl) (by kernel_rfl) (by kernel_rfl) (fun _ _ _ h => h) rfl (Held.y_int rfl rfl rfl (fun W => Held.run_add _ _ (by rw [IntKind.wrap_u32]; rfl) W)) S0 ?_
      simp only [Act.put, List.setIfInBounds_toArray, List.set_cons_zero, List.set_cons_succ]
      refine Held.one 11 (by kernel_rfl) ?_
      refine Held.op_call 11 (some 34) 59 #[.slice (some ⟨gb, 4 * k, none⟩) 4 (64 - 4 * k), .int .u32 (addI x y)] rfl rfl rfl rfl (enters_of Tryd.func59 (by kernel_rfl) rfl) (by simp [Act.eval])
        (put_any gb (4 * k) (64 - 4 * k) _ zs (addI x y) _ br (by omega) (r32_add _ _)) ?_
      rintro e w8 ⟨⟨v, rfl⟩, br8, g8'⟩
      have g8 : wr.grownBy w8 (some gb) := ⟨g8'.os, g8'.tape, g8'.output, g8'.size, g8'.block⟩
      clear g8'
      refine ⟨_, rfl, g8, ?_⟩
      simp only [Act.put, List.setIfInBounds_toArray, List.set_cons_zero, List.set_cons_succ]
      refine wpAnyH_done (by kernel_rfl) ?_ _
      go_wp2_with fail
      go_roundw
      case rel => exact ⟨k + 1, by omega, by go_num, hbl.grown g8 hbl.size (fun r e => by cases e; omega), qr.grown g8 (by intro e; injection e with e; omega), fr.grown g8 (by intro e; injection e with e; omega), _, br8, HU.out⟩
      case measure => simp [intOf]; omega
    · have hk16 : k = 16 := by omega
      subst hk16
      have hz := hu.eq (by rw [HBL.out]; omega)
      subst hz
      go_wp2_with (first
        | (refine wpList_load_Row (w := wr) rfl 48 _ rfl gb rfl 48 .u8 _ br 64 5 Tryd.underlying48 info_64 HBL.out ?_)
        | (refine wpList_store_RowTo (w := wr) rfl 48 _ _ rfl gr rfl 48 .u8 _ (Cc.block key ctr nonce) rfl qr 64 info_64 HBL.out (by simp) (bs_wf HBW.out) ?_; intro w8 q8 g8 z8))
      refine bodyPost_ret (results_Row rfl _ _ gr _ _ _ rfl q8 64 5 Tryd.underlying48 info_64 HBL.out) rfl ?_
      exact ⟨rfl, hbl.grown g8 hbl.size (fun r e => by cases e; omega)⟩
end Go.Proofs.YtebcejncjljmhaaDoor.Cha
namespace Go.Proofs.YtebcejncjljmhaaDoor.Cha
open Go.RowKit Go.Shelf Go.Proofs.YtebcejncjljmhaaDoor.Mem Go.Proofs.YtebcejncjljmhaaDoor.Help Go.Proofs.YtebcejncjljmhaaDoor.Sum Go.Proofs.YtebcejncjljmhaaDoor.Cc Go.Proofs.YtebcejncjljmhaaDoor.Sha Go.Proofs.YtebcejncjljmhaaDoor
set_option linter.unusedVariables false
attribute [local irreducible] wpList wpListIn

theorem start_sigma (key : List Int) (ctr : Int) (nonce : List Int) : Upto (first key ctr nonce) 4 (sigma ++ List.replicate 12 0) := by
  refine ⟨by rw [first_length]; simp [sigma], fun i hi => ?_⟩
  simp only [first, List.getD_eq_getElem?_getD]
  rw [List.getElem?_append_left (by simpa [sigma] using hi), List.getElem?_append_left (by simpa [sigma] using hi)]
theorem block_last {key : List Int} {ctr : Int} {nonce zs : List Int} {i : Nat} (hi : i < 64) (h : Upto (Cc.block key ctr nonce) i zs) : Upto (Cc.block key ctr nonce) (i + 1) (zs.set i (addI ((turns 10 (first key ctr nonce)).getD (i / 4) 0) ((first key ctr nonce).getD (i / 4) 0) / 2 ^ (8 * (i % 4)) % 256)) := by
  have := h.set (by rw [block_length]; exact hi)
  rwa [block_get _ _ _ hi] at this

theorem round_lit0 (s : List Int) (w : World) (hs : Sixteen s) : Calls Tryd.prog 52 #[.agg (arr .u32 s), .int .i64 0, .int .i64 4, .int .i64 8, .int .i64 12] w fun e w' => e = .returned (.agg (arr .u32 (at4 s 0 4 8 12))) ∧ Below w.heap.size w w' := round_any s 0 4 8 12 w hs (by omega) (by omega) (by omega) (by omega)
theorem round_lit1 (s : List Int) (w : World) (hs : Sixteen s) : Calls Tryd.prog 52 #[.agg (arr .u32 s), .int .i64 1, .int .i64 5, .int .i64 9, .int .i64 13] w fun e w' => e = .returned (.agg (arr .u32 (at4 s 1 5 9 13))) ∧ Below w.heap.size w w' := round_any s 1 5 9 13 w hs (by omega) (by omega) (by omega) (by omega)
theorem round_lit2 (s : List Int) (w : World) (hs : Sixteen s) : Calls Tryd.prog 52 #[.agg (arr .u32 s), .int .i64 2, .int .i64 6, .int .i64 10, .int .i64 14] w fun e w' => e = .returned (.agg (arr .u32 (at4 s 2 6 10 14))) ∧ Below w.heap.size w w' := round_any s 2 6 10 14 w hs (by omega) (by omega) (by omega) (by omega)
theorem round_lit3 (s : List Int) (w : World) (hs : Sixteen s) : Calls Tryd.prog 52 #[.agg (arr .u32 s), .int .i64 3, .int .i64 7, .int .i64 11, .int .i64 15] w fun e w' => e = .returned (.agg (arr .u32 (at4 s 3 7 11 15))) ∧ Below w.heap.size w w' := round_any s 3 7 11 15 w hs (by omega) (by omega) (by omega) (by omega)
theorem round_lit4 (s : List Int) (w : World) (hs : Sixteen s) : Calls Tryd.prog 52 #[.agg (arr .u32 s), .int .i64 0, .int .i64 5, .int .i64 10, .int .i64 15] w fun e w' => e = .returned (.agg (arr .u32 (at4 s 0 5 10 15))) ∧ Below w.heap.size w w' := round_any s 0 5 10 15 w hs (by omega) (by omega) (by omega) (by omega)
theorem round_lit5 (s : List Int) (w : World) (hs : Sixteen s) : Calls Tryd.prog 52 #[.agg (arr .u32 s), .int .i64 1, .int .i64 6, .int .i64 11, .int .i64 12] w fun e w' => e = .returned (.agg (arr .u32 (at4 s 1 6 11 12))) ∧ Below w.heap.size w w' := round_any s 1 6 11 12 w hs (by omega) (by omega) (by omega) (by omega)
theorem round_lit6 (s : List Int) (w : World) (hs : Sixteen s) : Calls Tryd.prog 52 #[.agg (arr .u32 s), .int .i64 2, .int .i64 7, .int .i64 8, .int .i64 13] w fun e w' => e = .returned (.agg (arr .u32 (at4 s 2 7 8 13))) ∧ Below w.heap.size w w' := round_any s 2 7 8 13 w hs (by omega) (by omega) (by omega) (by omega)
theorem round_lit7 (s : List Int) (w : World) (hs : Sixteen s) : Calls Tryd.prog 52 #[.agg (arr .u32 s), .int .i64 3, .int .i64 4, .int .i64 9, .int .i64 14] w fun e w' => e = .returned (.agg (arr .u32 (at4 s 3 4 9 14))) ∧ Below w.heap.size w w' := round_any s 3 4 9 14 w hs (by omega) (by omega) (by omega) (by omega)
set_option maxRecDepth 100000 in
set_option maxHeartbeats 4000000 in
theorem rblock_any (key nonce : List Int) (ctr : Int) (w : World) (hk : key.length = 32) (hkb : Bs key) (hn : nonce.length = 12) (hnb : Bs nonce) (hc : R32 ctr) :
    Calls Tryd.prog 32 #[.agg (arr .u8 key), .int .u32 ctr, .agg (arr .u8 nonce)] w fun e w' => e = .returned (.agg (arr .u8 (Cc.block key ctr nonce))) ∧ Below w.heap.size w w' := by
  have zero_16 : (Tryd.prog.info? 77).bind (·.zero) = some (.agg (arr .u32 (List.replicate 16 0))) := by kernel_rfl
  have HK := Lib.hid hk
  have HN := Lib.hid hn
  clear hk hn
  have HBL := Lib.hid (block_length key ctr nonce)
  have HBW := Lib.hid (block_bytes key ctr nonce)
  have HBS := Lib.hid (fun i zs (h1 : i < 64) (h2 : Upto (Cc.block key ctr nonce) i zs) => block_last (key := key) (ctr := ctr) (nonce := nonce) h1 h2)
  have HV := Lib.hid (fun k => (sixteen_first hkb hnb hc).turns k)
  have FK := Lib.hid (fun t (ht : t < 8) => first_key key ctr nonce ht)
  have FC := Lib.hid (first_ctr key ctr nonce)
  have FN := Lib.hid (fun t (ht : t < 3) => first_nonce key ctr nonce ht)
  have FL := Lib.hid (first_length key ctr nonce)
  have FS := Lib.hid (sixteen_first hkb hnb hc)
  have LK := Lib.hid (fun t (ht : 4 * t + 4 ≤ 32) => lew_of key t ht HK.out)
  have LN := Lib.hid (fun t (ht : 4 * t + 4 ≤ 12) => lew_of nonce t ht HN.out)
  obtain ⟨F, hF⟩ : ∃ F, first key ctr nonce = F := ⟨_, rfl⟩
  have u4 := start_sigma key ctr nonce
  rw [hF] at u4 FC FL FS
  simp only [hF] at FK FN HBS HV
  have HF := Lib.hid hF
  clear hF
  have hsw : ∀ z ∈ sigma ++ List.replicate 12 0, (Lit.int .u32 z).wf = true := by decide
  go_enter Tryd.func32, Tryd.ntmps32
  go_wp2_with (first
    | (refine wpList_box_Row (w := w) rfl 22 _ rfl .u8 key rfl (bs_wf hkb) ?_; intro w1 r1 g1 z1)
    | (refine wpList_box_Row (w := w1) rfl 23 _ rfl .u8 nonce rfl (bs_wf hnb) ?_; intro w2 r2 g2 z2)
    | (refine wpList_alloc_Row (w := w2) rfl 48 rfl .u8 64 zero_64 ?_; intro w3 r3 g3 z3)
    | (refine wpList_build_Row (w := w3) rfl 77 _ rfl .u32 (sigma ++ List.replicate 12 0) (by kernel_rfl) ?_)
    | (refine wpList_alloc_Row (w := w3) rfl 77 rfl .u32 16 zero_16 ?_; intro w4 r4 g4 z4)
    | (refine wpList_store_RowTo (w := w4) rfl 77 _ _ rfl w3.heap.size rfl 77 .u32 _ (sigma ++ List.replicate 12 0) rfl r4 16 info_16 rfl (by simp) hsw ?_; intro w5 r5 g5 z5))
  -- names of the blocks
  obtain ⟨gn, hgn⟩ : ∃ g, w1.heap.size = g := ⟨_, rfl⟩
  obtain ⟨gr, hgr⟩ : ∃ g, w2.heap.size = g := ⟨_, rfl⟩
  obtain ⟨gf, hgf⟩ : ∃ g, w3.heap.size = g := ⟨_, rfl⟩
  have l1 := r1.lt
  have l2 := r2.lt
  have l3 := r3.lt
  have l5 := r5.lt
  have s4 := g4.size
  have s5 := g5.size
  have b5 : Below w.heap.size w w5 := (((((Below.refl _ w).grown g1 (Nat.le_refl _) (by simp)).grown g2 g1.size (by simp)).grown g3 (by omega) (by simp)).grown g4 (by omega) (by simp)).grown g5 (by omega) (fun r e => by cases e; omega)
  have k5 := (((r1.grown g2 (by simp)).grown g3 (by simp)).grown g4 (by simp)).grown g5 (by intro e; injection e with e; omega)
  have n5 := ((r2.grown g3 (by simp)).grown g4 (by simp)).grown g5 (by intro e; injection e with e; omega)
  have o5 := (r3.grown g4 (by simp)).grown g5 (by intro e; injection e with e; omega)
  rw [hgn] at l1 l2 n5
  rw [hgr] at l2 l3 o5
  rw [hgf] at l3 l5 r5 ⊢
  rw [hgn, hgr]
  clear hgn hgr hgf r1 r2 r3 r4 g1 g2 g3 g4 g5 z1 z2 z3 z4 z5 s4 s5 l5
  obtain ⟨y5, hy5⟩ : ∃ y, sigma ++ List.replicate 12 0 = y := ⟨_, rfl⟩
  rw [hy5] at r5 u4
  clear hy5 hsw
  go_loopw [8] (fun i wr => ∃ k : Nat, k ≤ 8 ∧ i = .int .i64 k ∧ Below w.heap.size w wr ∧ Row wr w.heap.size 22 .u8 key ∧ Row wr gn 23 .u8 nonce ∧ Row wr gr 48 .u8 (List.replicate 64 0) ∧ ∃ zs, Row wr gf 77 .u32 zs ∧ Upto F (4 + k) zs) (fun i _ => 8 - (intOf i).toNat)
  case atStart => exact ⟨0, by omega, rfl, b5, k5, n5, o5, y5, r5, u4⟩
  case round =>
    clear b5 k5 n5 o5 r5 u4
    obtain ⟨k, hk, rfl, hbl, kr, nr, er, zs, sr, hu⟩ := hrel
    have hk0 : (0 : Int) ≤ (k : Int) := by omega
    by_cases hlt : k < 8
    · have hlt' : (k : Int) < 8 := by omega
      have hsl : ∀ W, (Instr.sliceAt 22 (.pointer (some ⟨w.heap.size, 0, none⟩)) (some (.int .i64 (4 * (k : Int)))) (some (.int .i64 (4 * (k : Int) + 4))) none).run Tryd.prog W = .ok (.slice (some ⟨w.heap.size, 4 * k, none⟩) 4 (32 - 4 * k)) W := fun W => by
        have := run_slice_arr_lh (P := Tryd.prog) 22 5 32 w.heap.size (4 * k) (4 * k + 4) W Tryd.underlying22 (by kernel_rfl) (by omega) (by omega) (by omega)
        rw [show 4 * k + 4 - 4 * k = 4 by omega] at this
        exact this
      have ik := kr.mid (l := 4 * k) (m := 4) (by rw [HK.out]; omega)
      go_wp2_with fail
      refine (rword_any w.heap.size (4 * k) 4 (32 - 4 * k) _ _ wr ik rfl).mono ?_
      rintro e w6 ⟨rfl, st⟩
      rw [LK.out k (by omega), ← FK.out k hlt]
      have kr6 := kr.below (st.below _) kr.lt
      have nr6 := nr.below (st.below _) nr.lt
      have er6 := er.below (st.below _) er.lt
      have sr6 := sr.below (st.below _) sr.lt
      have hb6 := hbl.trans (st.below _)
      have HU := Lib.hid (hu.set (by rw [FL.out]; omega))
      have hr32 : R32 (F.getD (4 + k) 0) := FS.out.get (by omega)
      have HZ := Lib.hid hu.1
      clear ik hsl hbl kr nr er sr
      generalize F.getD (4 + k) 0 = x at *
      go_wp2_with (refine wpList_store_elem (w := w6) rfl 40 _ _ rfl gf (4 + k) rfl 77 .u32 _ _ rfl sr6 (by rw [HZ.out, FL.out]; omega) info_u32 (wf_32 hr32) ?_; intro w7 q7 g7 z7)
      go_roundw
      case rel => exact ⟨k + 1, by omega, by go_num, hb6.grown g7 hb6.size (fun r e => by cases e; omega), kr6.grown g7 (by intro e; injection e with e; omega), nr6.grown g7 (by intro e; injection e with e; omega), er6.grown g7 (by intro e; injection e with e; omega), _, q7, HU.out⟩
      case measure => simp [intOf]; omega
    · have hk8 : k = 8 := by omega
      subst hk8
      have HU := Lib.hid (hu.set (by rw [FL.out]; omega))
      have HZ := Lib.hid hu.1
      rw [FC.out] at HU
      go_wp2_with (refine wpList_store_elem (w := wr) rfl 40 _ _ rfl gf 12 rfl 77 .u32 _ _ rfl sr (by rw [HZ.out, FL.out]; omega) info_u32 (wf_32 hc) ?_; intro w6 sr6 g6 z6)
      have hb6 := hbl.grown g6 hbl.size (fun r e => by cases e; omega)
      have nr6 := nr.grown g6 (by intro e; injection e with e; omega)
      have er6 := er.grown g6 (by intro e; injection e with e; omega)
      have hu6 := HU.out
      clear hbl kr nr er sr g6 z6 hu hk0
      go_loopw [9] (fun i wr => ∃ k : Nat, k ≤ 3 ∧ i = .int .i64 k ∧ Below w.heap.size w wr ∧ Row wr gn 23 .u8 nonce ∧ Row wr gr 48 .u8 (List.replicate 64 0) ∧ ∃ zs, Row wr gf 77 .u32 zs ∧ Upto F (13 + k) zs) (fun i _ => 3 - (intOf i).toNat)
      case atStart => exact ⟨0, by omega, rfl, hb6, nr6, er6, _, sr6, hu6⟩
      case round =>
        clear hb6 nr6 er6 sr6 hu6 HU HZ
        obtain ⟨k, hk, rfl, hbl, nr, er, zs, sr, hu⟩ := hrel
        have hk0 : (0 : Int) ≤ (k : Int) := by omega
        by_cases hlt : k < 3
        · have hlt' : (k : Int) < 3 := by omega
          have hsl : ∀ W, (Instr.sliceAt 23 (.pointer (some ⟨gn, 0, none⟩)) (some (.int .i64 (4 * (k : Int)))) (some (.int .i64 (4 * (k : Int) + 4))) none).run Tryd.prog W = .ok (.slice (some ⟨gn, 4 * k, none⟩) 4 (12 - 4 * k)) W := fun W => by
            have := run_slice_arr_lh (P := Tryd.prog) 23 5 12 gn (4 * k) (4 * k + 4) W Tryd.underlying23 (by kernel_rfl) (by omega) (by omega) (by omega)
            rw [show 4 * k + 4 - 4 * k = 4 by omega] at this
            exact this
          have ik := nr.mid (l := 4 * k) (m := 4) (by rw [HN.out]; omega)
          go_wp2_with fail
          refine (rword_any gn (4 * k) 4 (12 - 4 * k) _ _ wr ik rfl).mono ?_
          rintro e w6 ⟨rfl, st⟩
          rw [LN.out k (by omega), ← FN.out k hlt]
          have nr6 := nr.below (st.below _) nr.lt
          have er6 := er.below (st.below _) er.lt
          have sr6 := sr.below (st.below _) sr.lt
          have hb6 := hbl.trans (st.below _)
          have HU := Lib.hid (hu.set (by rw [FL.out]; omega))
          have hr32 : R32 (F.getD (13 + k) 0) := FS.out.get (by omega)
          have HZ := Lib.hid hu.1
          clear ik hsl hbl nr er sr
          generalize F.getD (13 + k) 0 = x at *
          go_wp2_with (refine wpList_store_elem (w := w6) rfl 40 _ _ rfl gf (13 + k) rfl 77 .u32 _ _ rfl sr6 (by rw [HZ.out, FL.out]; omega) info_u32 (wf_32 hr32) ?_; intro w7 q7 g7 z7)
          go_roundw
          case rel => exact ⟨k + 1, by omega, by go_num, hb6.grown g7 hb6.size (fun r e => by cases e; omega), nr6.grown g7 (by intro e; injection e with e; omega), er6.grown g7 (by intro e; injection e with e; omega), _, q7, HU.out⟩
          case measure => simp [intOf]; omega
        · have hk3 : k = 3 := by omega
          subst hk3
          have hz := hu.eq (by rw [FL.out]; omega)
          subst hz
          go_wp2_with (first
            | (refine wpList_load_Row (w := wr) rfl 77 _ rfl gf rfl 77 .u32 _ sr 16 40 Tryd.underlying77 info_16 FL.out ?_)
            | (refine wpList_alloc_Row (w := wr) rfl 77 rfl .u32 16 zero_16 ?_; intro w5 r5 g5 z5)
            | (refine wpList_store_RowTo (w := w5) rfl 77 _ _ rfl wr.heap.size rfl 77 .u32 _ zs rfl r5 16 info_16 FL.out (by simp) (fun z hz => wf_32 (FS.out.2 z hz)) ?_; intro w6 r6 g6 z6))
          obtain ⟨gv, hgv⟩ : ∃ g, wr.heap.size = g := ⟨_, rfl⟩
          have s5 := g5.size
          have ls := sr.lt
          have b6 : Below w.heap.size w w6 := (hbl.grown g5 hbl.size (by simp)).grown g6 (by have := hbl.size; omega) (fun r e => by have := hbl.size; cases e; omega)
          have o6 := (er.grown g5 (by simp)).grown g6 (by intro e; injection e with e; omega)
          have f6 := (sr.grown g5 (by simp)).grown g6 (by intro e; injection e with e; omega)
          rw [hgv] at r6 ls ⊢
          clear hgv r5 g5 g6 z5 z6 nr er sr hbl s5 hu hk0
          go_loopw [11] (fun i wr => ∃ k : Nat, k ≤ 10 ∧ i = .int .i64 k ∧ Below w.heap.size w wr ∧ Row wr gr 48 .u8 (List.replicate 64 0) ∧ Row wr gf 77 .u32 zs ∧ Row wr gv 77 .u32 (turns k zs)) (fun i _ => 10 - (intOf i).toNat)
          case atStart => exact ⟨0, by omega, rfl, b6, o6, f6, r6⟩
          case round =>
            clear b6 o6 f6 r6
            obtain ⟨k, hk, rfl, bb, bo, bf, bv⟩ := hrel
            have hk0 : (0 : Int) ≤ (k : Int) := by omega
            by_cases hlt : k < 10
            · have hlt' : (k : Int) < 10 := by omega
              have HTW := Lib.hid (show turns (k + 1) zs = twice (turns k zs) from rfl)
              have S0 := HV.out k
              obtain ⟨x0, hx0⟩ : ∃ x, turns k zs = x := ⟨_, rfl⟩
              rw [hx0] at bv S0 HTW
              clear hx0
              go_wp2_with (refine wpList_load_Row (w := wr) rfl 77 _ rfl gv rfl 77 .u32 _ bv 16 40 Tryd.underlying77 info_16 S0.1 ?_)
              refine (round_lit0 x0 wr S0).mono ?_
              rintro e v1 ⟨rfl, hb⟩
              have bb := bb.trans (hb.mono bb.size)
              have bo := bo.below hb bo.lt
              have bf := bf.below hb bf.lt
              have q1 := bv.below hb bv.lt
              clear hb
              have S1 := S0.at4 0 4 8 12
              obtain ⟨x1, hx1⟩ : ∃ x, at4 x0 0 4 8 12 = x := ⟨_, rfl⟩
              rw [hx1] at S1 ⊢
              go_wp2_with (first
                | (refine wpList_store_RowTo (w := v1) rfl 77 _ _ rfl gv rfl 77 .u32 _ x1 rfl q1 16 info_16 S1.1 S0.1 (fun z hz => wf_32 (S1.2 z hz)) ?_; intro u1 p1 d1 e1)
                | (refine wpList_load_Row (w := u1) rfl 77 _ rfl gv rfl 77 .u32 _ p1 16 40 Tryd.underlying77 info_16 S1.1 ?_))
              have bb := bb.grown d1 bb.size (fun r e => by have := bf.lt; cases e; omega)
              have bo := bo.grown d1 (by intro e; injection e with e; omega)
              have bf := bf.grown d1 (by intro e; injection e with e; omega)
              refine (round_lit1 x1 u1 S1).mono ?_
              rintro e v2 ⟨rfl, hb⟩
              have bb := bb.trans (hb.mono bb.size)
              have bo := bo.below hb bo.lt
              have bf := bf.below hb bf.lt
              have q2 := p1.below hb p1.lt
              clear hb
              have S2 := S1.at4 1 5 9 13
              obtain ⟨x2, hx2⟩ : ∃ x, at4 x1 1 5 9 13 = x := ⟨_, rfl⟩
              rw [hx2] at S2 ⊢
              go_wp2_with (first
                | (refine wpList_store_RowTo (w := v2) rfl 77 _ _ rfl gv rfl 77 .u32 _ x2 rfl q2 16 info_16 S2.1 S1.1 (fun z hz => wf_32 (S2.2 z hz)) ?_; intro u2 p2 d2 e2)
                | (refine wpList_load_Row (w := u2) rfl 77 _ rfl gv rfl 77 .u32 _ p2 16 40 Tryd.underlying77 info_16 S2.1 ?_))
              have bb := bb.grown d2 bb.size (fun r e => by have := bf.lt; cases e; omega)
              have bo := bo.grown d2 (by intro e; injection e with e; omega)
              have bf := bf.grown d2 (by intro e; injection e with e; omega)
              refine (round_lit2 x2 u2 S2).mono ?_
              rintro e v3 ⟨rfl, hb⟩
              have bb := bb.trans (hb.mono bb.size)
              have bo := bo.below hb bo.lt
              have bf := bf.below hb bf.lt
              have q3 := p2.below hb p2.lt
              clear hb
              have S3 := S2.at4 2 6 10 14
              obtain ⟨x3, hx3⟩ : ∃ x, at4 x2 2 6 10 14 = x := ⟨_, rfl⟩
              rw [hx3] at S3 ⊢
              go_wp2_with (first
                | (refine wpList_store_RowTo (w := v3) rfl 77 _ _ rfl gv rfl 77 .u32 _ x3 rfl q3 16 info_16 S3.1 S2.1 (fun z hz => wf_32 (S3.2 z hz)) ?_; intro u3 p3 d3 e3)
                | (refine wpList_load_Row (w := u3) rfl 77 _ rfl gv rfl 77 .u32 _ p3 16 40 Tryd.underlying77 info_16 S3.1 ?_))
              have bb := bb.grown d3 bb.size (fun r e => by have := bf.lt; cases e; omega)
              have bo := bo.grown d3 (by intro e; injection e with e; omega)
              have bf := bf.grown d3 (by intro e; injection e with e; omega)
              refine (round_lit3 x3 u3 S3).mono ?_
              rintro e v4 ⟨rfl, hb⟩
              have bb := bb.trans (hb.mono bb.size)
              have bo := bo.below hb bo.lt
              have bf := bf.below hb bf.lt
              have q4 := p3.below hb p3.lt
              clear hb
              have S4 := S3.at4 3 7 11 15
              obtain ⟨x4, hx4⟩ : ∃ x, at4 x3 3 7 11 15 = x := ⟨_, rfl⟩
              rw [hx4] at S4 ⊢
              go_wp2_with (first
                | (refine wpList_store_RowTo (w := v4) rfl 77 _ _ rfl gv rfl 77 .u32 _ x4 rfl q4 16 info_16 S4.1 S3.1 (fun z hz => wf_32 (S4.2 z hz)) ?_; intro u4 p4 d4 e4)
                | (refine wpList_load_Row (w := u4) rfl 77 _ rfl gv rfl 77 .u32 _ p4 16 40 Tryd.underlying77 info_16 S4.1 ?_))
              have bb := bb.grown d4 bb.size (fun r e => by have := bf.lt; cases e; omega)
              have bo := bo.grown d4 (by intro e; injection e with e; omega)
              have bf := bf.grown d4 (by intro e; injection e with e; omega)
              refine (round_lit4 x4 u4 S4).mono ?_
              rintro e v5 ⟨rfl, hb⟩
              have bb := bb.trans (hb.mono bb.size)
              have bo := bo.below hb bo.lt
              have bf := bf.below hb bf.lt
              have q5 := p4.below hb p4.lt
              clear hb
              have S5 := S4.at4 0 5 10 15
              obtain ⟨x5, hx5⟩ : ∃ x, at4 x4 0 5 10 15 = x := ⟨_, rfl⟩
              rw [hx5] at S5 ⊢
              go_wp2_with (first
                | (refine wpList_store_RowTo (w := v5) rfl 77 _ _ rfl gv rfl 77 .u32 _ x5 rfl q5 16 info_16 S5.1 S4.1 (fun z hz => wf_32 (S5.2 z hz)) ?_; intro u5 p5 d5 e5)
                | (refine wpList_load_Row (w := u5) rfl 77 _ rfl gv rfl 77 .u32 _ p5 16 40 Tryd.underlying77 info_16 S5.1 ?_))
              have bb := bb.grown d5 bb.size (fun r e => by have := bf.lt; cases e; omega)
              have bo := bo.grown d5 (by intro e; injection e with e; omega)
              have bf := bf.grown d5 (by intro e; injection e with e; omega)
              refine (round_lit5 x5 u5 S5).mono ?_
              rintro e v6 ⟨rfl, hb⟩
              have bb := bb.trans (hb.mono bb.size)
              have bo := bo.below hb bo.lt
              have bf := bf.below hb bf.lt
              have q6 := p5.below hb p5.lt
              clear hb
              have S6 := S5.at4 1 6 11 12
              obtain ⟨x6, hx6⟩ : ∃ x, at4 x5 1 6 11 12 = x := ⟨_, rfl⟩
              rw [hx6] at S6 ⊢
              go_wp2_with (first
                | (refine wpList_store_RowTo (w := v6) rfl 77 _ _ rfl gv rfl 77 .u32 _ x6 rfl q6 16 info_16 S6.1 S5.1 (fun z hz => wf_32 (S6.2 z hz)) ?_; intro u6 p6 d6 e6)
                | (refine wpList_load_Row (w := u6) rfl 77 _ rfl gv rfl 77 .u32 _ p6 16 40 Tryd.underlying77 info_16 S6.1 ?_))
              have bb := bb.grown d6 bb.size (fun r e => by have := bf.lt; cases e; omega)
              have bo := bo.grown d6 (by intro e; injection e with e; omega)
              have bf := bf.grown d6 (by intro e; injection e with e; omega)
              refine (round_lit6 x6 u6 S6).mono ?_
              rintro e v7 ⟨rfl, hb⟩
              have bb := bb.trans (hb.mono bb.size)
              have bo := bo.below hb bo.lt
              have bf := bf.below hb bf.lt
              have q7 := p6.below hb p6.lt
              clear hb
              have S7 := S6.at4 2 7 8 13
              obtain ⟨x7, hx7⟩ : ∃ x, at4 x6 2 7 8 13 = x := ⟨_, rfl⟩
              rw [hx7] at S7 ⊢
              go_wp2_with (first
                | (refine wpList_store_RowTo (w := v7) rfl 77 _ _ rfl gv rfl 77 .u32 _ x7 rfl q7 16 info_16 S7.1 S6.1 (fun z hz => wf_32 (S7.2 z hz)) ?_; intro u7 p7 d7 e7)
                | (refine wpList_load_Row (w := u7) rfl 77 _ rfl gv rfl 77 .u32 _ p7 16 40 Tryd.underlying77 info_16 S7.1 ?_))
              have bb := bb.grown d7 bb.size (fun r e => by have := bf.lt; cases e; omega)
              have bo := bo.grown d7 (by intro e; injection e with e; omega)
              have bf := bf.grown d7 (by intro e; injection e with e; omega)
              refine (round_lit7 x7 u7 S7).mono ?_
              rintro e v8 ⟨rfl, hb⟩
              have bb := bb.trans (hb.mono bb.size)
              have bo := bo.below hb bo.lt
              have bf := bf.below hb bf.lt
              have q8 := p7.below hb p7.lt
              clear hb
              have S8 := S7.at4 3 4 9 14
              obtain ⟨x8, hx8⟩ : ∃ x, at4 x7 3 4 9 14 = x := ⟨_, rfl⟩
              rw [hx8] at S8 ⊢
              have HX := Lib.hid (show twice x0 = x8 by unfold twice diagonals columns; rw [hx1, hx2, hx3, hx4, hx5, hx6, hx7, hx8])
              clear hx1 hx2 hx3 hx4 hx5 hx6 hx7 hx8
              go_wp2_with (refine wpList_store_RowTo (w := v8) rfl 77 _ _ rfl gv rfl 77 .u32 _ x8 rfl q8 16 info_16 S8.1 S7.1 (fun z hz => wf_32 (S8.2 z hz)) ?_; intro u8 p8 d8 e8)
              go_roundw
              case rel => exact ⟨k + 1, by omega, by go_num, bb.grown d8 bb.size (fun r e => by have := bf.lt; cases e; omega), bo.grown d8 (by intro e; injection e with e; omega), bf.grown d8 (by intro e; injection e with e; omega), by rw [HTW.out, HX.out]; exact p8⟩
              case measure => simp [intOf]; omega
            · have hk10 : k = 10 := by omega
              subst hk10
              have SV := HV.out 10
              clear HV
              obtain ⟨V, hV⟩ : ∃ V, turns 10 zs = V := ⟨_, rfl⟩
              have HBS' := HBS.out
              rw [hV] at SV bv
              simp only [hV] at HBS'
              clear hV HBS
              go_wp2_with (refine wpList_alloc_Row (w := wr) rfl 48 rfl .u8 64 zero_64 ?_; intro w5 r5 g5 z5)
              obtain ⟨gb, hgb⟩ : ∃ g, wr.heap.size = g := ⟨_, rfl⟩
              have lb := bv.lt
              have b5 : Below w.heap.size w w5 := bb.grown g5 bb.size (by simp)
              have o5 := bo.grown g5 (by simp)
              have f5 := bf.grown g5 (by simp)
              have v5 := bv.grown g5 (by simp)
              rw [hgb] at r5 lb ⊢
              clear hgb g5 z5 bb bo bf bv hk0
              have u0 : Upto (Cc.block key ctr nonce) 0 (List.replicate 64 0) := ⟨by rw [HBL.out]; simp, fun i hi => by omega⟩
              go_loopw [13] (fun i wr => ∃ k : Nat, k ≤ 64 ∧ i = .int .i64 k ∧ Below w.heap.size w wr ∧ Row wr gr 48 .u8 (List.replicate 64 0) ∧ Row wr gf 77 .u32 zs ∧ Row wr gv 77 .u32 V ∧ ∃ ys, Row wr gb 48 .u8 ys ∧ Upto (Cc.block key ctr nonce) k ys) (fun i _ => 64 - (intOf i).toNat)
              case atStart => exact ⟨0, by omega, rfl, b5, o5, f5, v5, _, r5, u0⟩
              case round =>
                clear b5 o5 f5 v5 r5 u0
                obtain ⟨k, hk, rfl, hbl, qr, fr, vr, ys, br, hu⟩ := hrel
                have hk0 : (0 : Int) ≤ (k : Int) := by omega
                by_cases hlt : k < 64
                · have hlt' : (k : Int) < 64 := by omega
                  have HU := Lib.hid (HBS' k ys hlt hu)
                  have hyl := hu.1
                  rw [HBL.out] at hyl
                  obtain ⟨q, hq⟩ : ∃ q, k / 4 = q := ⟨_, rfl⟩
                  obtain ⟨r, hr⟩ : ∃ r, k % 4 = r := ⟨_, rfl⟩
                  rw [hq, hr] at HU
                  have hq16 : q < 16 := by omega
                  have hr4 : r < 4 := by omega
                  have eq1 : IntKind.i64.wrap ((k : Int).tdiv 4) = (q : Int) := by rw [Int.tdiv_eq_ediv_of_nonneg hk0, IntKind.wrap_i64]; omega
                  have er1 : (k : Int).tmod 4 = (r : Int) := by rw [Int.tmod_eq_emod_of_nonneg hk0]; omega
                  have em1 : IntKind.i64.wrap (8 * (r : Int)) = ((8 * r : Nat) : Int) := by rw [IntKind.wrap_i64]; omega
                  have eu1 : IntKind.u64.wrap ((8 * r : Nat) : Int) = ((8 * r : Nat) : Int) := by rw [IntKind.wrap_u64]; omega
                  have hcf := fr.cell (i := q) (by rw [FL.out]; exact hq16)
                  have hcv := vr.cell (i := q) (by rw [SV.1]; exact hq16)
                  generalize zs.getD q 0 = x at *
                  generalize V.getD q 0 = y at *
                  go_wp2_with fail
                  refine wp_region_held (S := fun W => wr.grownBy W (some gb)) (by kernel_rfl) ?_
                  change wpAnyH _ _ _ _ _ _ _ _ wr.drew
                  have S0 : wr.grownBy wr.drew (some gb) := ⟨rfl, rfl, rfl, Nat.le_refl _, fun _ _ _ => rfl⟩
                  refine Held.take (v := .int .i64 (k : Int)) 0 (some 70) rfl rfl (by kernel_rfl) (by kernel_rfl) (by kernel_rfl) (fun _ _ _ h => h) rfl (Held.y_move rfl rfl) S0 ?_
                  simp only [Act.put, List.setIfInBounds_toArray, List.set_cons_zero, List.set_cons_succ]
                  refine Held.take (v := .int .i64 (k : Int)) 1 (some 71) rfl rfl (by kernel_rfl) (by kernel_rfl) (by kernel_rfl) (fun _ _ _ h => h) rfl (Held.y_move rfl rfl) S0 ?_
                  simp only [Act.put, List.setIfInBounds_toArray, List.set_cons_zero, List.set_cons_succ]
                  refine Held.take (v := .int .i64 (q : Int)) 2 (some 72) rfl rfl (by kernel_rfl) (by kernel_rfl) (by kernel_rfl) (fun _ _ _ h => h) rfl (Held.y_int rfl rfl rfl (fun W => Held.run_quo _ _ (by omega) eq1 W)) S0 ?_
                  simp only [Act.put, List.setIfInBounds_toArray, List.set_cons_zero, List.set_cons_succ]
                  refine Held.take (v := .pointer (some ⟨gv, q, none⟩)) 3 (some 73) rfl rfl (by kernel_rfl) (by kernel_rfl) (by kernel_rfl) (fun _ _ _ h => h) rfl (Held.y_addr rfl rfl rfl (fun W => Held.run_addr_arr 77 40 16 gv q .i64 Tryd.underlying77 (by kernel_rfl) hq16 W)) S0 ?_
                  simp only [Act.put, List.setIfInBounds_toArray, List.set_cons_zero, List.set_cons_succ]
                  refine Held.take (v := .int .u32 y) 4 (some 74) rfl rfl (by kernel_rfl) (by kernel_rfl) (by kernel_rfl) (fun _ _ _ h => h) rfl (Held.y_load rfl rfl (by kernel_rfl) (fun W hW => (World.cell?_of_block (w := wr) (w' := W) (a := ⟨gv, q, none⟩) (hW.block gv vr.lt (by intro e; injection e with e; omega))).trans hcv)) S0 ?_
                  simp only [Act.put, List.setIfInBounds_toArray, List.set_cons_zero, List.set_cons_succ]
                  refine Held.take (v := .int .i64 (k : Int)) 5 (some 75) rfl rfl (by kernel_rfl) (by kernel_rfl) (by kernel_rfl) (fun _ _ _ h => h) rfl (Held.y_move rfl rfl) S0 ?_
                  simp only [Act.put, List.setIfInBounds_toArray, List.set_cons_zero, List.set_cons_succ]
                  refine Held.take (v := .int .i64 (q : Int)) 6 (some 76) rfl rfl (by kernel_rfl) (by kernel_rfl) (by kernel_rfl) (fun _ _ _ h => h) rfl (Held.y_int rfl rfl rfl (fun W => Held.run_quo _ _ (by omega) eq1 W)) S0 ?_
                  simp only [Act.put, List.setIfInBounds_toArray, List.set_cons_zero, List.set_cons_succ]
                  refine Held.take (v := .pointer (some ⟨gf, q, none⟩)) 7 (some 77) rfl rfl (by kernel_rfl) (by kernel_rfl) (by kernel_rfl) (fun _ _ _ h => h) rfl (Held.y_addr rfl rfl rfl (fun W => Held.run_addr_arr 77 40 16 gf q .i64 Tryd.underlying77 (by kernel_rfl) hq16 W)) S0 ?_
                  simp only [Act.put, List.setIfInBounds_toArray, List.set_cons_zero, List.set_cons_succ]
                  refine Held.take (v := .int .u32 x) 8 (some 78) rfl rfl (by kernel_rfl) (by kernel_rfl) (by kernel_rfl) (fun _ _ _ h => h) rfl (Held.y_load rfl rfl (by kernel_rfl) (fun W hW => (World.cell?_of_block (w := wr) (w' := W) (a := ⟨gf, q, none⟩) (hW.block gf fr.lt (by intro e; injection e with e; omega))).trans hcf)) S0 ?_
                  simp only [Act.put, List.setIfInBounds_toArray, List.set_cons_zero, List.set_cons_succ]
                  refine Held.take (v := .int .u32 (addI y x)) 9 (some 79) rfl rfl (by kernel_rfl) (by kernel_rfl) (by kernel_rfl) (fun _ _ _ h => h) rfl (Held.y_int rfl rfl rfl (fun W => Held.run_add _ _ (by rw [IntKind.wrap_u32]; rfl) W)) S0 ?_
                  simp only [Act.put, List.setIfInBounds_toArray, List.set_cons_zero, List.set_cons_succ]
                  refine Held.take (v := .int .i64 (k : Int)) 10 (some 80) rfl rfl (by kernel_rfl) (by kernel_rfl) (by kernel_rfl) (fun _ _ _ h => h) rfl (Held.y_move rfl rfl) S0 ?_
                  simp only [Act.put, List.setIfInBounds_toArray, List.set_cons_zero, List.set_cons_succ]
                  refine Held.take (v := .int .i64 (r : Int)) 11 (some 81) rfl rfl (by kernel_rfl) (by kernel_rfl) (by kernel_rfl) (fun _ _ _ h => h) rfl (Held.y_int rfl rfl rfl (fun W => Held.run_rem _ _ (by omega) er1 W)) S0 ?_
                  simp only [Act.put, List.setIfInBounds_toArray, List.set_cons_zero, List.set_cons_succ]
                  refine Held.take (v := .int .i64 ((8 * r : Nat) : Int)) 12 (some 82) rfl rfl (by kernel_rfl) (by kernel_rfl) (by kernel_rfl) (fun _ _ _ h => h) rfl (Held.y_int rfl rfl rfl (fun W => Held.run_mul _ _ em1 W)) S0 ?_
                  simp only [Act.put, List.setIfInBounds_toArray, List.set_cons_zero, List.set_cons_succ]
                  refine Held.take (v := .int .u64 ((8 * r : Nat) : Int)) 13 (some 83) rfl rfl (by kernel_rfl) (by kernel_rfl) (by kernel_rfl) (fun _ _ _ h => h) rfl (Held.y_convert rfl rfl (by kernel_rfl) Tryd.underlying35 eu1) S0 ?_
                  simp only [Act.put, List.setIfInBounds_toArray, List.set_cons_zero, List.set_cons_succ]
                  refine Held.take (v := .int .u32 (addI y x / 2 ^ (8 * r))) 14 (some 84) rfl rfl (by kernel_rfl) (by kernel_rfl) (by kernel_rfl) (fun _ _ _ h => h) rfl (Held.y_bin rfl rfl rfl (fun W => by simp [eqGuard]) (fun W => Held.run_shr _ _ _ (8 * r) (by simp [IntKind.bits]; omega) rfl W)) S0 ?_
                  simp only [Act.put, List.setIfInBounds_toArray, List.set_cons_zero, List.set_cons_succ]
                  refine Held.take (v := .int .u8 (addI y x / 2 ^ (8 * r) % 256)) 15 (some 85) rfl rfl (by kernel_rfl) (by kernel_rfl) (by kernel_rfl) (fun _ _ _ h => h) rfl (Held.y_convert rfl rfl (by kernel_rfl) Tryd.underlying5 (by rw [IntKind.wrap_u8])) S0 ?_
                  simp only [Act.put, List.setIfInBounds_toArray, List.set_cons_zero, List.set_cons_succ]
                  refine Held.take (v := .pointer (some ⟨gb, k, none⟩)) 16 (some 86) rfl rfl (by kernel_rfl) (by kernel_rfl) (by kernel_rfl) (fun _ _ _ h => h) rfl (Held.y_addr rfl rfl rfl (fun W => Held.run_addr_arr 48 5 64 gb k .i64 Tryd.underlying48 (by kernel_rfl) hlt W)) S0 ?_
                  simp only [Act.put, List.setIfInBounds_toArray, List.set_cons_zero, List.set_cons_succ]
                  refine Held.one 17 (by kernel_rfl) ?_
                  refine Held.op_store_elem 17 none 5 gb k 48 .u8 ys (addI y x / 2 ^ (8 * r) % 256) rfl rfl rfl rfl rfl rfl br (by omega) (by kernel_rfl) (wf_byte ⟨by omega, by omega⟩) ?_
                  intro w8 br8 g8'
                  have g8 : wr.grownBy w8 (some gb) := ⟨g8'.os, g8'.tape, g8'.output, g8'.size, g8'.block⟩
                  clear g8'
                  refine ⟨g8, ?_⟩
                  simp only [Act.put]
                  refine wpAnyH_done (by kernel_rfl) ?_ _
                  go_wp2_with fail
                  go_roundw
                  case rel => exact ⟨k + 1, by omega, by go_num, hbl.grown g8 hbl.size (fun r e => by cases e; omega), qr.grown g8 (by intro e; injection e with e; omega), fr.grown g8 (by intro e; injection e with e; omega), vr.grown g8 (by intro e; injection e with e; omega), _, br8, HU.out⟩
                  case measure => simp [intOf]; omega
                · have hk64 : k = 64 := by omega
                  subst hk64
                  have hz := hu.eq (by rw [HBL.out]; omega)
                  subst hz
                  go_wp2_with (first
                    | (refine wpList_load_Row (w := wr) rfl 48 _ rfl gb rfl 48 .u8 _ br 64 5 Tryd.underlying48 info_64 HBL.out ?_)
                    | (refine wpList_store_RowTo (w := wr) rfl 48 _ _ rfl gr rfl 48 .u8 _ (Cc.block key ctr nonce) rfl qr 64 info_64 HBL.out (by simp) (bs_wf HBW.out) ?_; intro w8 q8 g8 z8))
                  refine bodyPost_ret (results_Row rfl _ _ gr _ _ _ rfl q8 64 5 Tryd.underlying48 info_64 HBL.out) rfl ?_
                  exact ⟨rfl, hbl.grown g8 hbl.size (fun r e => by cases e; omega)⟩
end Go.Proofs.YtebcejncjljmhaaDoor.Cha
namespace Go.Proofs.YtebcejncjljmhaaDoor.Held
open Go.RowKit Go.Proofs.YtebcejncjljmhaaDoor.Mem
set_option linter.unusedVariables false

section
variable {P : Program} {ops : Array Oper} {Q : Exit → Act → World → Prop}
/-- make([]T, n), n said by a constant -/
theorem op_make_Row (i : Nat) (d : Option Tmp) {o : Oper} {a : Act} {w : World} {K : Act → World → Prop} (t e : TypeId) (k : IntKind) (bytes n : Nat) {l c : Operand} (kl kc : IntKind) (hi : ops[i]? = some o) (hd : o.dst = d) (hw : Region.wanted o (yielded ops a.tmps) = true)
    (ho : o.op = .makeSlice t l c) (hu : P.underlying t = some (.slice e)) (hinfo : (P.info? e).map (fun i => (i.zero, i.size, i.bytes)) = some (some (.int k 0), 1, bytes)) (hl : a.eval l = .int kl (n : Int)) (hc : a.eval c = .int kc (n : Int)) (hb : bytes * n ≤ 281474976710656) (hn : n ≤ 9223372036854775807)
    (h : ∀ g w', Row w' g e k (List.replicate n 0) → Below w.heap.size w w' → Hid (w.heap.size ≤ g) → K (a.put d (.slice (some ⟨g, 0, none⟩) n n)) w') : wpOp P ops Q i K a w := by
  subst hd
  refine op_wp i hi hw ?_
  have hrun := Go.run_make_row' (P := P) t e (.int k 0) bytes hu hinfo rfl kl kc n hb hn w
  unfold Oper.wp execOp
  simp only [ho, hl, hc, hrun, Sem.run_bind, Sem.run_pure, Result.andThen_ok]
  refine h _ _ ?_ ((Below.refl _ w).alloc (Nat.le_refl _) _) (Lib.hid (Nat.le_refl _))
  rw [made_zeros]
  exact Row.new w e (zeros_wf k n)
/-- append of numbers that read as a list, onto what the call owns -/
theorem op_append_ints (i : Nat) (d : Option Tmp) {o : Oper} {a : Act} {w : World} {K : Act → World → Prop} {s x : Operand} (ts : TypeId) (hi : ops[i]? = some o) (hd : o.dst = d) (hw : Region.wanted o (yielded ops a.tmps) = true)
    (ho : o.op = .call { callee := .builtin .append, args := #[s, x], argTypes := #[ts, ts] }) (base : Nat) (e : TypeId) (k : IntKind) (bytes : Nat) (ht : P.underlying ts = some (.slice e))
    (hinfo : (P.info? e).map (fun i => (i.zero, i.size, i.bytes)) = some (some (.int k 0), 1, bytes)) (v : Value) (zs : List Int) (hs : a.eval s = v) (hown : Mem.Own w base e k v zs)
    (B : Nat) (A : Option Addr) (m c : Nat) (xs : List Int) (hx : a.eval x = .slice A m c) (hr : Ints w k B A m xs) (hlen : zs.length + m ≤ 17592186044416) (hby : bytes ≤ 8) (hbase : base ≤ w.heap.size)
    (h : ∀ A' n' c' w', Mem.Own w' base e k (.slice A' n' c') (zs ++ xs) → w.grownBy w' v.ownBlock → n' ≤ c' → c' ≤ maxLen → Hid ((zs ++ xs).length = n') → Ints w' k w'.heap.size A' n' (zs ++ xs) → K (a.put d (.slice A' n' c')) w') : wpOp P ops Q i K a w := by
  subst hd
  refine op_wp i hi hw ?_
  obtain ⟨v', w', hrun, h2, h3, _⟩ := run_append_ints (P := P) w base ts o.type e k bytes ht hinfo v zs hown B A m c xs hr hlen hby hbase
  obtain ⟨A', c', rfl, h4, h5, h6⟩ := h2.form
  exact Lib.wp_append_run w s x ts ts ho _ _ hs hx _ w' hrun (h _ _ _ w' h2 h3 h4 h5 (Lib.hid rfl) h6)
end
section
variable {P : Program} {S : World → Prop} {ρ : Operand → Value} {o : Oper}
theorem y_nes {t ty : TypeId} {x y : Operand} {s : ByteArray} (ho : o.op = .binOp .neq t x y ty) (hx : ρ x = .string s) (hy : ρ y = .string s) :
    ∀ w, S w → (execOp ρ o).run P w = .ok (.value (.bool false)) w := y_bin ho hx hy (fun w => by simp [eqGuard]) (fun w => by simp [binOp, Op.stringOp])
end
/-- like texts are alike -/
theorem bytes_same (B B' : Nat) (A A' : Option Addr) (n n' c c' : Nat) (zs zs' : List Int) (w : World) (h : Ints w .u8 B A n zs) (h' : Ints w .u8 B' A' n' zs') (e : zs = zs') :
    Calls Tryd.prog 14 #[.slice A n c, .slice A' n' c'] w fun e w' => e = .returned (.bool true) ∧ Below w.heap.size w w' :=
  (Help.bytes_any B B' A A' n n' c c' zs zs' w h h').mono fun _ _ ⟨h1, h2⟩ => ⟨by rw [h1]; simp [e], h2 ▸ Below.refl _ _⟩
end Go.Proofs.YtebcejncjljmhaaDoor.Held
namespace Go.Proofs.YtebcejncjljmhaaDoor.Held
open Go.RowKit Go.Proofs.YtebcejncjljmhaaDoor.Mem
set_option linter.unusedVariables false
section
variable {P : Program} {ops : Array Oper} {Q : Exit → Act → World → Prop}
/-- append onto what the call owns; rows apart from it stay, and stay apart -/
theorem op_append_keep (i : Nat) (d : Option Tmp) {o : Oper} {a : Act} {w : World} {K : Act → World → Prop} {s x : Operand} (ts : TypeId) (hi : ops[i]? = some o) (hd : o.dst = d) (hw : Region.wanted o (yielded ops a.tmps) = true)
    (ho : o.op = .call { callee := .builtin .append, args := #[s, x], argTypes := #[ts, ts] }) (base : Nat) (e : TypeId) (k : IntKind) (bytes : Nat) (ht : P.underlying ts = some (.slice e))
    (hinfo : (P.info? e).map (fun i => (i.zero, i.size, i.bytes)) = some (some (.int k 0), 1, bytes)) (v : Value) (zs : List Int) (hs : a.eval s = v) (hown : Mem.Own w base e k v zs)
    (B : Nat) (A : Option Addr) (m c : Nat) (xs : List Int) (hx : a.eval x = .slice A m c) (hr : Ints w k B A m xs) (hlen : zs.length + m ≤ 17592186044416) (hby : bytes ≤ 8) (hbase : base ≤ w.heap.size)
    (h : ∀ A' n' c' w', Mem.Own w' base e k (.slice A' n' c') (zs ++ xs) → w.grownBy w' v.ownBlock → n' ≤ c' → c' ≤ maxLen → Hid ((zs ++ xs).length = n') → Ints w' k w'.heap.size A' n' (zs ++ xs) →
      (∀ p t q ys, Row w p t q ys → some p ≠ v.ownBlock → Row w' p t q ys ∧ some p ≠ (Value.slice A' n' c').ownBlock) → K (a.put d (.slice A' n' c')) w') : wpOp P ops Q i K a w := by
  subst hd
  refine op_wp i hi hw ?_
  obtain ⟨v', w', hrun, h2, h3, h3'⟩ := run_append_ints (P := P) w base ts o.type e k bytes ht hinfo v zs hown B A m c xs hr hlen hby hbase
  obtain ⟨A', c', rfl, h4, h5, h6⟩ := h2.form
  refine Lib.wp_append_run w s x ts ts ho _ _ hs hx _ w' hrun (h _ _ _ w' h2 h3 h4 h5 (Lib.hid rfl) h6 fun p t q ys hrow hne => ⟨hrow.grown h3 hne, ?_⟩)
  rcases h3' with e1 | e1
  · rw [e1]; exact hne
  · rw [e1]
    intro e2
    injection e2 with e2
    have := hrow.lt
    omega
/-- a new list of numbers, as a row of its own -/
theorem op_build_Row (i : Nat) (d : Option Tmp) {o : Oper} {a : Act} {w : World} {K : Act → World → Prop} (t e : TypeId) (len : Nat) {parts : Array (Nat × Operand)} (k : IntKind) (bytes : Nat) (zs : List Int) (hi : ops[i]? = some o) (hd : o.dst = d) (hw : Region.wanted o (yielded ops a.tmps) = true)
    (ho : o.op = .buildSlice t len parts) (hu : P.underlying t = some (.slice e)) (hinfo : (P.info? e).map (fun i => (i.zero, i.size, i.bytes)) = some (some (.int k 0), 1, bytes))
    (hp : (parts.map fun (i, x) => (i, a.eval x)).toList = ((zs.map (Value.int k)).zipIdx 0).map fun x => (x.2, x.1)) (hl : zs.length = len) (h0 : 0 < len) (hlen : len ≤ 1000) (hwf : ∀ z ∈ zs, (Lit.int k z).wf = true)
    (h : ∀ p w', Row w' p e k zs → Below w.heap.size w w' → Hid (w.heap.size ≤ p) → K (a.put d (.slice (some ⟨p, 0, none⟩) len len)) w') : wpOp P ops Q i K a w := by
  subst hd
  refine op_wp i hi hw ?_
  obtain ⟨ie, hie, hz, hsz, _⟩ := info_parts hinfo
  have hl' : (zs.map (Value.int k)).length = len := by simpa using hl
  have h' := h w.heap.size _ (Row.new w e hwf) ((Below.refl _ w).alloc (Nat.le_refl _) _) (Lib.hid (Nat.le_refl _))
  unfold arr at h'
  have h1 : ∀ v ∈ zs.map (Value.int k), v.cells = #[v] := by intro v hv; obtain ⟨z, _, rfl⟩ := List.mem_map.1 hv; rfl
  generalize zs.map (Value.int k) = vs at hp hl' h' h1
  subst hl'
  refine Go.wp_buildSlice t e vs.length parts ho vs.toArray ie (.int k 0) hu hie hz (by rw [hsz]; omega) (by rw [hsz]; omega) ?_ h'
  rw [hp]
  simp only [hsz]
  exact Go.Great.fill_flat vs _ h1 (by simp)
end
theorem apart_new {w : World} {base p : Nat} {t : TypeId} {k : IntKind} {v : Value} {zs : List Int} (h : Mem.Own w base t k v zs) (hp : w.heap.size ≤ p) : some p ≠ v.ownBlock := fun e => by
  have := (h.2.lt p e.symm).2
  omega
end Go.Proofs.YtebcejncjljmhaaDoor.Held
namespace Go.Proofs.YtebcejncjljmhaaDoor.Cha
open Go.RowKit Go.Shelf Go.Proofs.YtebcejncjljmhaaDoor.Mem Go.Proofs.YtebcejncjljmhaaDoor.Help Go.Proofs.YtebcejncjljmhaaDoor.Sum Go.Proofs.YtebcejncjljmhaaDoor.Cc Go.Proofs.YtebcejncjljmhaaDoor.Sha Go.Proofs.YtebcejncjljmhaaDoor
set_option linter.unusedVariables false
attribute [local irreducible] wpList wpListIn

theorem bs_of_ints {w : World} {B : Nat} {A : Option Addr} {n : Nat} {zs : List Int} (h : Ints w .u8 B A n zs) : Bs zs := fun z hz => wf_u8 (h.2.1 z hz)
theorem rinfo_k32 : (Tryd.prog.info? 22).map (·.size) = some 32 := by kernel_rfl
theorem rinfo_n12 : (Tryd.prog.info? 23).map (·.size) = some 12 := by kernel_rfl

set_option maxRecDepth 100000 in
set_option maxHeartbeats 4000000 in
theorem rxor_any (key nonce : List Int) (ctr : Int) (B : Nat) (A : Option Addr) (m c : Nat) (bs : List Int) (w : World) (hi : Ints w .u8 B A m bs) (hB : B ≤ w.heap.size) (hm : m ≤ 1099511627776)
    (hk : key.length = 32) (hkb : Bs key) (hn : nonce.length = 12) (hnb : Bs nonce) (hc : R32 ctr) :
    Calls Tryd.prog 23 #[.agg (arr .u8 key), .agg (arr .u8 nonce), .int .u32 ctr, .slice A m c] w fun e w' => ∃ A' c', e = .returned (.slice A' m c') ∧ m ≤ c' ∧ Mem.Own w' w.heap.size 5 .u8 (.slice A' m c') (xors key nonce ctr bs) ∧ Below w.heap.size w w' := by
  have HK := Lib.hid hk
  have HN := Lib.hid hn
  have HB := Lib.hid hi.1
  have HX := Lib.hid (fun q (hq : q < m) => xors_snoc key nonce ctr bs (k := q) (by rw [hi.1]; exact hq))
  have HXL := Lib.hid (fun q (hq : q ≤ m) => show (xors key nonce ctr (bs.take q)).length = q by rw [xors_length, List.length_take, hi.1]; omega)
  have HSB := Lib.hid (fun i => stream_bound key ctr nonce i)
  have HBS := Lib.hid (bs_of_ints hi)
  have hat : ∀ i, i < m → ∃ b off, A = some ⟨b, off, none⟩ ∧ b < B ∧ w.cell? ⟨b, off + i, none⟩ = some (.int .u8 (bs.getD i 0)) := fun i h => hi.at_ h
  clear hk hn hi
  go_enter Tryd.func23, Tryd.ntmps23
  go_wp2_with (first
    | (refine wpList_box_Row (w := w) rfl 22 _ rfl .u8 key rfl (bs_wf hkb) ?_; intro w1 r1 g1 z1)
    | (refine wpList_box_Row (w := w1) rfl 23 _ rfl .u8 nonce rfl (bs_wf hnb) ?_; intro w2 r2 g2 z2)
    | (refine wpList_alloc_Row (w := w2) rfl 48 rfl .u8 64 zero_64 ?_; intro w3 r3 g3 z3))
  obtain ⟨nn, hnn⟩ : ∃ x, w1.heap.size = x := ⟨_, rfl⟩
  obtain ⟨kb, hkb'⟩ : ∃ x, w2.heap.size = x := ⟨_, rfl⟩
  have l1 := r1.lt
  have l2 := r2.lt
  have b3 : Below w.heap.size w w3 := (((Below.refl _ w).grown g1 (Nat.le_refl _) (by simp)).grown g2 g1.size (by simp)).grown g3 (by omega) (by simp)
  have k3 := (r1.grown g2 (by simp)).grown g3 (by simp)
  have n3 := r2.grown g3 (by simp)
  rw [hnn] at l1 l2 n3 ⊢
  rw [hkb'] at l2 r3 ⊢
  clear hnn hkb' r1 r2 g1 g2 g3 z1 z2 z3
  have HKB := Lib.hid hkb
  go_loopw [9, 11] (fun v n wr => ∃ (i : Nat) (A1 : Option Addr) (c1 : Nat) (Z : List Int), i ≤ m ∧ v = .slice A1 i c1 ∧ n = .int .i64 i ∧ i ≤ c1 ∧ Mem.Own wr (kb + 1) 5 .u8 (.slice A1 i c1) (xors key nonce ctr (bs.take i)) ∧ Row wr w.heap.size 22 .u8 key ∧ Row wr nn 23 .u8 nonce ∧ Row wr kb 48 .u8 Z ∧
    (Z.length = 64 ∧ (i % 64 ≠ 0 → Z = Cc.block key (addI ctr ((i / 64 : Nat) : Int)) nonce)) ∧ Below w.heap.size w wr) (fun _ n _ => m - (intOf n).toNat)
  case atStart => exact ⟨0, none, 0, List.replicate 64 0, by omega, rfl, rfl, by omega, by simpa [xors] using Own.nil w3 (kb + 1) 5 .u8, k3, n3, r3, ⟨by simp, fun h => absurd rfl h⟩, b3⟩
  case round =>
    clear k3 n3 r3 b3
    obtain ⟨i, A1, c1, Z, him, rfl, rfl, hc1, hown, kr, nr, hZ, hzz, hbl⟩ := hrel
    have hi0 : (0 : Int) ≤ (i : Int) := by omega
    by_cases hlt : i < m
    · have hlt' : (i : Int) < (m : Int) := by omega
      obtain ⟨b, off, rfl, hb, hcw⟩ := hat i hlt
      have HXq := Lib.hid (HX.out i hlt)
      have HQL := Lib.hid (HXL.out i (by omega))
      have HQL1 := Lib.hid (HXL.out (i + 1) (by omega))
      have hz := HSB.out i
      have hy := HBS.out.at_ i
      have hcy0 := (hbl.cell (p := ⟨b, off + i, none⟩) (by show b < _; omega)).trans hcw
      obtain ⟨r, hr⟩ : ∃ r, i % 64 = r := ⟨_, rfl⟩
      have hr64 : r < 64 := by omega
      have er1 : (i : Int).tmod 64 = (r : Int) := by rw [Int.tmod_eq_emod_of_nonneg hi0]; omega
      have HST := Lib.hid (show streamAt key ctr nonce i = (Cc.block key (addI ctr ((i / 64 : Nat) : Int)) nonce).getD r 0 by rw [← hr]; rfl)
      have lkb0 : kb + 1 ≤ wr.heap.size := hZ.lt
      clear hcw
      by_cases hr0 : r = 0
      · have hq0 : (i : Int) % 64 = 0 := by omega
        have hd0 : IntKind.u32.wrap ((i : Int) / 64) = (i : Int) / 64 % 4294967296 := by rw [IntKind.wrap_u32]
        go_wp2_with (first
          | (refine wpList_load_Row (w := wr) rfl 22 _ rfl w.heap.size rfl 22 .u8 _ kr 32 5 Tryd.underlying22 rinfo_k32 HK.out ?_)
          | (refine wpList_load_Row (w := wr) rfl 23 _ rfl nn rfl 23 .u8 _ nr 12 5 Tryd.underlying23 rinfo_n12 HN.out ?_))
        have ec : (ctr + (i : Int) / 64) % 4294967296 = addI ctr ((i / 64 : Nat) : Int) := by unfold addI; omega
        rw [ec]
        refine (rblock_any key nonce (addI ctr ((i / 64 : Nat) : Int)) wr HK.out hkb HN.out hnb (r32_add _ _)).mono ?_
        rintro e w4 ⟨rfl, hb4⟩
        have kr := kr.below hb4 kr.lt
        have nr := nr.below hb4 nr.lt
        have hZ := hZ.below hb4 hZ.lt
        have hown := hown.below hb4
        have hcy1 := (hb4.cell (World.block_lt_of_cell? _ _ hcy0)).trans hcy0
        have hbl := hbl.trans (hb4.mono hbl.size)
        have lkb1 : kb + 1 ≤ w4.heap.size := Nat.le_trans lkb0 hb4.size
        clear hb4 hcy0 lkb0 ec hd0 hq0
        have HZN := Lib.hid (show (Cc.block key (addI ctr ((i / 64 : Nat) : Int)) nonce).length = 64 ∧ ((i + 1) % 64 ≠ 0 → Cc.block key (addI ctr ((i / 64 : Nat) : Int)) nonce = Cc.block key (addI ctr (((i + 1) / 64 : Nat) : Int)) nonce) from ⟨block_length _ _ _, fun h => by rw [show (i + 1) / 64 = i / 64 by omega]⟩)
        have hbw := bs_wf (block_bytes key (addI ctr ((i / 64 : Nat) : Int)) nonce)
        have HZ := Lib.hid (HST.out.symm)
        obtain ⟨Z2, hZ2⟩ : ∃ Z2, Cc.block key (addI ctr ((i / 64 : Nat) : Int)) nonce = Z2 := ⟨_, rfl⟩
        rw [hZ2] at HZN hbw HZ ⊢
        have HZL := Lib.hid HZN.out.1
        clear hZ2 HST
        generalize bs.getD i 0 = y at *
        generalize streamAt key ctr nonce i = z at *
        go_wp2_with (refine wpList_store_RowTo (w := w4) rfl 48 _ _ rfl kb rfl 48 .u8 _ Z2 rfl hZ 64 info_64 HZL.out hzz.1 hbw ?_; intro w5 r5 g5 z5)
        have kr := kr.grown g5 (by intro e; injection e with e; omega)
        have nr := nr.grown g5 (by intro e; injection e with e; omega)
        have hown := hown.kept g5 (.inr (fun e => by have := (hown.2.lt kb e).1; omega))
        have hcy := (World.cell?_of_block (w := w4) (w' := w5) (a := ⟨b, off + i, none⟩) (g5.block b (World.block_lt_of_cell? _ _ hcy1) (by intro e; injection e with e; omega))).trans hcy1
        have hbl := hbl.grown g5 hbl.size (fun r e => by cases e; omega)
        have lkb : kb + 1 ≤ w5.heap.size := Nat.le_trans lkb1 g5.size
        clear hZ hzz hcy1 lkb1 g5 z5
        have hZ := r5
        clear r5
        obtain ⟨Z, rfl⟩ : ∃ Z, Z = Z2 := ⟨_, rfl⟩
        refine wp_region_held (S := fun X => X.cell? ⟨b, off + i, none⟩ = some (.int .u8 y) ∧ Row X kb 48 .u8 Z) (by kernel_rfl) ?_
        change wpAnyH _ _ _ _ _ _ _ _ w5.drew
        have c0_0 : w5.drew.cell? ⟨b, off + i, none⟩ = some (.int .u8 y) ∧ Row w5.drew kb 48 .u8 Z := ⟨hcy, hZ⟩
        refine Held.take (v := .slice A1 i c1) 0 (some 29) rfl rfl (by kernel_rfl) (by kernel_rfl) (by kernel_rfl) (fun _ _ _ h => h) rfl (Held.y_move rfl rfl) c0_0 ?_
        simp only [Act.put, List.setIfInBounds_toArray, List.set_cons_zero, List.set_cons_succ]
        refine Held.take (v := .slice (some ⟨b, off, none⟩) m c) 1 (some 30) rfl rfl (by kernel_rfl) (by kernel_rfl) (by kernel_rfl) (fun _ _ _ h => h) rfl (Held.y_move rfl rfl) c0_0 ?_
        simp only [Act.put, List.setIfInBounds_toArray, List.set_cons_zero, List.set_cons_succ]
        refine Held.take (v := .int .i64 (i : Int)) 2 (some 31) rfl rfl (by kernel_rfl) (by kernel_rfl) (by kernel_rfl) (fun _ _ _ h => h) rfl (Held.y_move rfl rfl) c0_0 ?_
        simp only [Act.put, List.setIfInBounds_toArray, List.set_cons_zero, List.set_cons_succ]
        refine Held.take (v := .pointer (some ⟨b, off + i, none⟩)) 3 (some 32) rfl rfl (by kernel_rfl) (by kernel_rfl) (by kernel_rfl) (fun _ _ _ h => h) rfl (Held.y_addr rfl rfl rfl (fun X => Held.run_addr_slice 24 5 b off m c i .i64 Tryd.underlying24 (by kernel_rfl) hlt X)) c0_0 ?_
        simp only [Act.put, List.setIfInBounds_toArray, List.set_cons_zero, List.set_cons_succ]
        refine Held.take (v := .int .u8 y) 4 (some 33) rfl rfl (by kernel_rfl) (by kernel_rfl) (by kernel_rfl) (fun _ _ _ h => h) rfl (Held.y_load rfl rfl (by kernel_rfl) (fun X h => h.1)) c0_0 ?_
        simp only [Act.put, List.setIfInBounds_toArray, List.set_cons_zero, List.set_cons_succ]
        refine Held.take (v := .int .i64 (i : Int)) 5 (some 34) rfl rfl (by kernel_rfl) (by kernel_rfl) (by kernel_rfl) (fun _ _ _ h => h) rfl (Held.y_move rfl rfl) c0_0 ?_
        simp only [Act.put, List.setIfInBounds_toArray, List.set_cons_zero, List.set_cons_succ]
        refine Held.take (v := .int .i64 (r : Int)) 6 (some 35) rfl rfl (by kernel_rfl) (by kernel_rfl) (by kernel_rfl) (fun _ _ _ h => h) rfl (Held.y_int rfl rfl rfl (fun X => Held.run_rem _ _ (by omega) er1 X)) c0_0 ?_
        simp only [Act.put, List.setIfInBounds_toArray, List.set_cons_zero, List.set_cons_succ]
        refine Held.take (v := .pointer (some ⟨kb, r, none⟩)) 7 (some 36) rfl rfl (by kernel_rfl) (by kernel_rfl) (by kernel_rfl) (fun _ _ _ h => h) rfl (Held.y_addr rfl rfl rfl (fun X => Held.run_addr_arr 48 5 64 kb r .i64 Tryd.underlying48 (by kernel_rfl) hr64 X)) c0_0 ?_
        simp only [Act.put, List.setIfInBounds_toArray, List.set_cons_zero, List.set_cons_succ]
        refine Held.take (v := .int .u8 z) 8 (some 37) rfl rfl (by kernel_rfl) (by kernel_rfl) (by kernel_rfl) (fun _ _ _ h => h) rfl (Held.y_load rfl rfl (by kernel_rfl) (fun X h => by rw [h.2.cell (by rw [HZL.out]; exact hr64), HZ.out])) c0_0 ?_
        simp only [Act.put, List.setIfInBounds_toArray, List.set_cons_zero, List.set_cons_succ]
        refine Held.take (v := .int .u8 (bits .xor .u8 y z)) 9 (some 38) rfl rfl (by kernel_rfl) (by kernel_rfl) (by kernel_rfl) (fun _ _ _ h => h) rfl (Held.y_int rfl rfl rfl (fun X => Held.run_bitop (.inl rfl) _ _ rfl X)) c0_0 ?_
        simp only [Act.put, List.setIfInBounds_toArray, List.set_cons_zero, List.set_cons_succ]
        refine Held.one 10 (by kernel_rfl) ?_
        refine Held.op_build_Row 10 (some 39) 24 5 1 .u8 1 [bits .xor .u8 y z] rfl rfl rfl rfl Tryd.underlying24 info_u8 (by simp [Act.eval]) rfl (by omega) (by omega) (by simpa using wf_byte (byte_xor_bound hy hz)) ?_
        intro p8 w8 r8 b8 h8
        have c0_1 : w8.cell? ⟨b, off + i, none⟩ = some (.int .u8 y) ∧ Row w8 kb 48 .u8 Z := ⟨(b8.cell (World.block_lt_of_cell? _ _ c0_0.1)).trans c0_0.1, Row.below c0_0.2 b8 c0_0.2.lt⟩
        have o8 := Mem.Own.below (w := w5.drew) (hown.drewN 1) b8
        have i8 := r8.ints (n := 1) (by simp)
        refine ⟨c0_1, ?_⟩
        simp only [Act.put, List.setIfInBounds_toArray, List.set_cons_zero, List.set_cons_succ]
        refine Held.one 11 (by kernel_rfl) ?_
        refine Held.op_append_ints 11 (some 40) 24 rfl rfl rfl rfl (kb + 1) 5 .u8 1 Tryd.underlying24 info_u8 _ (xors key nonce ctr (bs.take i)) rfl o8 w8.heap.size (some ⟨p8, 0, none⟩) 1 1 [bits .xor .u8 y z] rfl i8 (by rw [HQL.out]; omega) (by omega) (Nat.le_trans lkb b8.size) ?_
        intro A9 n9 c9 w9 o9 g9 h91 h92 H9 i9
        have ne9 : ∀ p, p ≤ kb → some p ≠ (Value.slice A1 i c1).ownBlock := fun p hp e => by have := (o8.2.lt p e.symm).1; omega
        have r9 := c0_1.2.grown g9 (ne9 kb (Nat.le_refl _))
        have c0_2 : w9.cell? ⟨b, off + i, none⟩ = some (.int .u8 y) ∧ Row w9 kb 48 .u8 Z := ⟨(World.cell?_of_block (w := w8) (w' := w9) (a := ⟨b, off + i, none⟩) (g9.block b (World.block_lt_of_cell? _ _ c0_1.1) (ne9 b (by omega)))).trans c0_1.1, r9⟩
        refine ⟨c0_2, ?_⟩
        simp only [Act.put, List.setIfInBounds_toArray, List.set_cons_zero, List.set_cons_succ]
        refine Held.take (v := .slice A9 n9 c9) 12 (some 9) rfl rfl (by kernel_rfl) (by kernel_rfl) (by kernel_rfl) (fun _ _ _ h => h) rfl (Held.y_assign rfl rfl) c0_2 ?_
        simp only [Act.put, List.setIfInBounds_toArray, List.set_cons_zero, List.set_cons_succ]
        refine wpAnyH_done (by kernel_rfl) ?_ _
        rw [← HXq.out] at o9 H9
        have hn9 : n9 = i + 1 := by rw [← H9.out, HQL1.out]
        subst hn9
        have bB : Below w.heap.size w w9 := (hbl.trans (Below.mono (show Below w5.heap.size w5 w8 from ⟨b8.os, b8.tape, b8.output, b8.size, b8.block⟩) hbl.size)).grown g9 (Nat.le_trans hbl.size b8.size) (fun r e => by have := (o8.2.lt r e).1; omega)
        have k9 := (kr.below (show Below w5.heap.size w5 w8 from ⟨b8.os, b8.tape, b8.output, b8.size, b8.block⟩) kr.lt).grown g9 (ne9 _ (by omega))
        have m9 := (nr.below (show Below w5.heap.size w5 w8 from ⟨b8.os, b8.tape, b8.output, b8.size, b8.block⟩) nr.lt).grown g9 (ne9 _ (by omega))
        have l9 : kb + 1 ≤ w9.heap.size := Nat.le_trans (Nat.le_trans lkb b8.size) g9.size
        clear g9 b8 o8 i8 r8 h8 i9 c0_2 ne9
        go_wp2_with fail
        go_roundw
        case rel => exact ⟨i + 1, A9, c9, Z, by omega, rfl, by go_num, h91, o9, k9, m9, r9, HZN.out, bB⟩
        case measure => simp [intOf]; omega
      · have hq0 : ¬ (i : Int) % 64 = 0 := by omega
        have hZe := hzz.2 (by omega)
        have HZN := Lib.hid (show Z.length = 64 ∧ ((i + 1) % 64 ≠ 0 → Z = Cc.block key (addI ctr (((i + 1) / 64 : Nat) : Int)) nonce) from ⟨hzz.1, fun h => by rw [hZe, show (i + 1) / 64 = i / 64 by omega]⟩)
        have HZ := Lib.hid (show Z.getD r 0 = streamAt key ctr nonce i by rw [HST.out, hZe])
        have HZL := Lib.hid hzz.1
        have hcy := hcy0
        have lkb := lkb0
        clear hZe hzz HST hcy0 lkb0
        generalize bs.getD i 0 = y at *
        generalize streamAt key ctr nonce i = z at *
        go_wp2_with fail
        refine wp_region_held (S := fun X => X.cell? ⟨b, off + i, none⟩ = some (.int .u8 y) ∧ Row X kb 48 .u8 Z) (by kernel_rfl) ?_
        change wpAnyH _ _ _ _ _ _ _ _ wr.drew
        have c0_0 : wr.drew.cell? ⟨b, off + i, none⟩ = some (.int .u8 y) ∧ Row wr.drew kb 48 .u8 Z := ⟨hcy, hZ⟩
        refine Held.take (v := .slice A1 i c1) 0 (some 29) rfl rfl (by kernel_rfl) (by kernel_rfl) (by kernel_rfl) (fun _ _ _ h => h) rfl (Held.y_move rfl rfl) c0_0 ?_
        simp only [Act.put, List.setIfInBounds_toArray, List.set_cons_zero, List.set_cons_succ]
        refine Held.take (v := .slice (some ⟨b, off, none⟩) m c) 1 (some 30) rfl rfl (by kernel_rfl) (by kernel_rfl) (by kernel_rfl) (fun _ _ _ h => h) rfl (Held.y_move rfl rfl) c0_0 ?_
        simp only [Act.put, List.setIfInBounds_toArray, List.set_cons_zero, List.set_cons_succ]
        refine Held.take (v := .int .i64 (i : Int)) 2 (some 31) rfl rfl (by kernel_rfl) (by kernel_rfl) (by kernel_rfl) (fun _ _ _ h => h) rfl (Held.y_move rfl rfl) c0_0 ?_
        simp only [Act.put, List.setIfInBounds_toArray, List.set_cons_zero, List.set_cons_succ]
        refine Held.take (v := .pointer (some ⟨b, off + i, none⟩)) 3 (some 32) rfl rfl (by kernel_rfl) (by kernel_rfl) (by kernel_rfl) (fun _ _ _ h => h) rfl (Held.y_addr rfl rfl rfl (fun X => Held.run_addr_slice 24 5 b off m c i .i64 Tryd.underlying24 (by kernel_rfl) hlt X)) c0_0 ?_
        simp only [Act.put, List.setIfInBounds_toArray, List.set_cons_zero, List.set_cons_succ]
        refine Held.take (v := .int .u8 y) 4 (some 33) rfl rfl (by kernel_rfl) (by kernel_rfl) (by kernel_rfl) (fun _ _ _ h => h) rfl (Held.y_load rfl rfl (by kernel_rfl) (fun X h => h.1)) c0_0 ?_
        simp only [Act.put, List.setIfInBounds_toArray, List.set_cons_zero, List.set_cons_succ]
        refine Held.take (v := .int .i64 (i : Int)) 5 (some 34) rfl rfl (by kernel_rfl) (by kernel_rfl) (by kernel_rfl) (fun _ _ _ h => h) rfl (Held.y_move rfl rfl) c0_0 ?_
        simp only [Act.put, List.setIfInBounds_toArray, List.set_cons_zero, List.set_cons_succ]
        refine Held.take (v := .int .i64 (r : Int)) 6 (some 35) rfl rfl (by kernel_rfl) (by kernel_rfl) (by kernel_rfl) (fun _ _ _ h => h) rfl (Held.y_int rfl rfl rfl (fun X => Held.run_rem _ _ (by omega) er1 X)) c0_0 ?_
        simp only [Act.put, List.setIfInBounds_toArray, List.set_cons_zero, List.set_cons_succ]
        refine Held.take (v := .pointer (some ⟨kb, r, none⟩)) 7 (some 36) rfl rfl (by kernel_rfl) (by kernel_rfl) (by kernel_rfl) (fun _ _ _ h => h) rfl (Held.y_addr rfl rfl rfl (fun X => Held.run_addr_arr 48 5 64 kb r .i64 Tryd.underlying48 (by kernel_rfl) hr64 X)) c0_0 ?_
        simp only [Act.put, List.setIfInBounds_toArray, List.set_cons_zero, List.set_cons_succ]
        refine Held.take (v := .int .u8 z) 8 (some 37) rfl rfl (by kernel_rfl) (by kernel_rfl) (by kernel_rfl) (fun _ _ _ h => h) rfl (Held.y_load rfl rfl (by kernel_rfl) (fun X h => by rw [h.2.cell (by rw [HZL.out]; exact hr64), HZ.out])) c0_0 ?_
        simp only [Act.put, List.setIfInBounds_toArray, List.set_cons_zero, List.set_cons_succ]
        refine Held.take (v := .int .u8 (bits .xor .u8 y z)) 9 (some 38) rfl rfl (by kernel_rfl) (by kernel_rfl) (by kernel_rfl) (fun _ _ _ h => h) rfl (Held.y_int rfl rfl rfl (fun X => Held.run_bitop (.inl rfl) _ _ rfl X)) c0_0 ?_
        simp only [Act.put, List.setIfInBounds_toArray, List.set_cons_zero, List.set_cons_succ]
        refine Held.one 10 (by kernel_rfl) ?_
        refine Held.op_build_Row 10 (some 39) 24 5 1 .u8 1 [bits .xor .u8 y z] rfl rfl rfl rfl Tryd.underlying24 info_u8 (by simp [Act.eval]) rfl (by omega) (by omega) (by simpa using wf_byte (byte_xor_bound hy hz)) ?_
        intro p8 w8 r8 b8 h8
        have c0_1 : w8.cell? ⟨b, off + i, none⟩ = some (.int .u8 y) ∧ Row w8 kb 48 .u8 Z := ⟨(b8.cell (World.block_lt_of_cell? _ _ c0_0.1)).trans c0_0.1, Row.below c0_0.2 b8 c0_0.2.lt⟩
        have o8 := Mem.Own.below (w := wr.drew) (hown.drewN 1) b8
        have i8 := r8.ints (n := 1) (by simp)
        refine ⟨c0_1, ?_⟩
        simp only [Act.put, List.setIfInBounds_toArray, List.set_cons_zero, List.set_cons_succ]
        refine Held.one 11 (by kernel_rfl) ?_
        refine Held.op_append_ints 11 (some 40) 24 rfl rfl rfl rfl (kb + 1) 5 .u8 1 Tryd.underlying24 info_u8 _ (xors key nonce ctr (bs.take i)) rfl o8 w8.heap.size (some ⟨p8, 0, none⟩) 1 1 [bits .xor .u8 y z] rfl i8 (by rw [HQL.out]; omega) (by omega) (Nat.le_trans lkb b8.size) ?_
        intro A9 n9 c9 w9 o9 g9 h91 h92 H9 i9
        have ne9 : ∀ p, p ≤ kb → some p ≠ (Value.slice A1 i c1).ownBlock := fun p hp e => by have := (o8.2.lt p e.symm).1; omega
        have r9 := c0_1.2.grown g9 (ne9 kb (Nat.le_refl _))
        have c0_2 : w9.cell? ⟨b, off + i, none⟩ = some (.int .u8 y) ∧ Row w9 kb 48 .u8 Z := ⟨(World.cell?_of_block (w := w8) (w' := w9) (a := ⟨b, off + i, none⟩) (g9.block b (World.block_lt_of_cell? _ _ c0_1.1) (ne9 b (by omega)))).trans c0_1.1, r9⟩
        refine ⟨c0_2, ?_⟩
        simp only [Act.put, List.setIfInBounds_toArray, List.set_cons_zero, List.set_cons_succ]
        refine Held.take (v := .slice A9 n9 c9) 12 (some 9) rfl rfl (by kernel_rfl) (by kernel_rfl) (by kernel_rfl) (fun _ _ _ h => h) rfl (Held.y_assign rfl rfl) c0_2 ?_
        simp only [Act.put, List.setIfInBounds_toArray, List.set_cons_zero, List.set_cons_succ]
        refine wpAnyH_done (by kernel_rfl) ?_ _
        rw [← HXq.out] at o9 H9
        have hn9 : n9 = i + 1 := by rw [← H9.out, HQL1.out]
        subst hn9
        have bB : Below w.heap.size w w9 := (hbl.trans (Below.mono (show Below wr.heap.size wr w8 from ⟨b8.os, b8.tape, b8.output, b8.size, b8.block⟩) hbl.size)).grown g9 (Nat.le_trans hbl.size b8.size) (fun r e => by have := (o8.2.lt r e).1; omega)
        have k9 := (kr.below (show Below wr.heap.size wr w8 from ⟨b8.os, b8.tape, b8.output, b8.size, b8.block⟩) kr.lt).grown g9 (ne9 _ (by omega))
        have m9 := (nr.below (show Below wr.heap.size wr w8 from ⟨b8.os, b8.tape, b8.output, b8.size, b8.block⟩) nr.lt).grown g9 (ne9 _ (by omega))
        have l9 : kb + 1 ≤ w9.heap.size := Nat.le_trans (Nat.le_trans lkb b8.size) g9.size
        clear g9 b8 o8 i8 r8 h8 i9 c0_2 ne9
        go_wp2_with fail
        go_roundw
        case rel => exact ⟨i + 1, A9, c9, Z, by omega, rfl, by go_num, h91, o9, k9, m9, r9, HZN.out, bB⟩
        case measure => simp [intOf]; omega
    · have him' : i = m := by omega
      subst him'
      rw [List.take_of_length_le (by rw [HB.out]; omega)] at hown
      go_wp2_with fail
      go_ret
      exact ⟨A1, c1, rfl, hc1, hown.less (by omega), hbl⟩
end Go.Proofs.YtebcejncjljmhaaDoor.Cha
namespace Go.Proofs.YtebcejncjljmhaaDoor.Po
open Go.Proofs.YtebcejncjljmhaaDoor.Sum
set_option linter.unusedVariables false

/-- bytes are just the digits of what they say -/
theorem digits_unique {xs : List Int} {n : Int} (h : Bs xs) (hv : val xs = n) : xs = digits n xs.length := by rw [← hv, digits_val h]
theorem val_set : ∀ (xs : List Int) (i : Nat) (x : Int), i < xs.length → val (xs.set i x) = val xs + (x - xs.getD i 0) * 256 ^ i
  | [], i, x, h => by simp at h
  | y :: ys, 0, x, _ => by simp [val]; omega
  | y :: ys, i + 1, x, h => by
    have ih := val_set ys i x (by simpa using h)
    rw [List.set_cons_succ, val, val, ih, List.getD_cons_succ, Int.pow_succ, Int.mul_comm (256 ^ i) 256, ← Int.mul_assoc, Int.mul_comm _ 256, Int.mul_assoc]
    omega
/-- what is over behind k places, in bytes -/
def cout (c : Int) (xs : List Int) : Nat → Int
  | 0 => c
  | k + 1 => (cout c xs k + xs.getD k 0) / 256
theorem cout_cons (c x : Int) (xs : List Int) : ∀ k, cout c (x :: xs) (k + 1) = cout ((c + x) / 256) xs k
  | 0 => rfl
  | k + 1 => by rw [cout, cout_cons c x xs k, List.getD_cons_succ, cout]
theorem carried_length : ∀ (c : Int) (xs : List Int), (carried c xs).length = xs.length
  | _, [] => rfl
  | c, x :: xs => by rw [carried, List.length_cons, List.length_cons, carried_length]
theorem carried_get : ∀ (c : Int) (xs : List Int) (k : Nat), k < xs.length → (carried c xs).getD k 0 = (cout c xs k + xs.getD k 0) % 256
  | _, [], _, h => by simp at h
  | c, x :: xs, 0, _ => rfl
  | c, x :: xs, k + 1, h => by rw [carried, List.getD_cons_succ, List.getD_cons_succ, cout_cons, carried_get _ xs k (by simpa using h)]
theorem cout_bound {xs : List Int} (h : ∀ x ∈ xs, 0 ≤ x ∧ x < 16777216) : ∀ k, 0 ≤ cout 0 xs k ∧ cout 0 xs k < 131072
  | 0 => by simp [cout]
  | k + 1 => by
    have ih := cout_bound h k
    have := getD_range (P := fun x => 0 ≤ x ∧ x < 16777216) h (by omega) k
    rw [cout]
    omega
theorem carried_bytes (c : Int) : ∀ (xs : List Int), Bs (carried c xs)
  | [] => fun z hz => by cases hz
  | x :: xs => fun z hz => by
    rcases List.mem_cons.1 hz with rfl | h
    · omega
    · exact carried_bytes _ xs z h
theorem carried_zero (xs : List Int) (n : Int) (h : val xs = n) : carried 0 xs = digits n xs.length := by rw [carried_eq, Int.zero_add, h]

/-- the lower part, below 2^130 -/
def lowL (a : List Int) : List Int := a.take 16 ++ a.getD 16 0 % 4 :: List.replicate 23 0
/-- the upper part, from 2^130 on -/
def highAt (a : List Int) (j : Nat) : Int := a.getD (16 + j) 0 / 4 + a.getD (17 + j) 0 * 64 % 256
def highL (a : List Int) : List Int := (List.range 24).map (highAt a) ++ List.replicate 16 0
theorem digits_get_all (n : Int) (h0 : 0 ≤ n) (hn : n < 256 ^ 40) (i : Nat) : (digits n 40).getD i 0 = n / 256 ^ i % 256 := by
  by_cases hi : i < 40
  · exact digits_get 40 n i hi
  · rw [List.getD_eq_getElem?_getD, List.getElem?_eq_none (by rw [digits_length]; omega)]
    have e : n / 256 ^ i = 0 := by
      obtain ⟨d, rfl⟩ : ∃ d, i = 40 + d := ⟨i - 40, by omega⟩
      rw [Int.pow_add, ← Int.ediv_ediv_of_nonneg (by decide), Int.ediv_eq_zero_of_lt h0 hn]
      simp
    rw [e]
    rfl
theorem low_high {n : Int} (h0 : 0 ≤ n) (hn : n < 256 ^ 40) : val (lowL (digits n 40)) = n % 2 ^ 130 ∧ val (highL (digits n 40)) = n / 2 ^ 130 := by
  constructor
  · have e : lowL (digits n 40) = digits (n % 2 ^ 130) 17 ++ List.replicate 23 0 := by
      simp only [lowL, digits, List.take_succ_cons, List.take_zero, List.getD_cons_succ, List.getD_cons_zero, List.cons_append, List.nil_append]
      congr 1
      · omega
      congr 1
      · omega
      congr 1
      · omega
      congr 1
      · omega
      congr 1
      · omega
      congr 1
      · omega
      congr 1
      · omega
      congr 1
      · omega
      congr 1
      · omega
      congr 1
      · omega
      congr 1
      · omega
      congr 1
      · omega
      congr 1
      · omega
      congr 1
      · omega
      congr 1
      · omega
      congr 1
      · omega
      congr 1
      omega
    rw [e, val_append, val_zeros, val_digits]
    omega
  · have e : highL (digits n 40) = digits (n / 2 ^ 130) 24 ++ List.replicate 16 0 := by
      unfold highL
      congr 1
      apply List.ext_getElem
      · rw [digits_length]; simp
      · intro j h1 h2
        have hj : j < 24 := by simpa using h1
        have e1 := digits_get 24 (n / 2 ^ 130) j hj
        rw [List.getD_eq_getElem?_getD, List.getElem?_eq_getElem h2, Option.getD_some] at e1
        rw [e1]
        simp only [List.getElem_map, List.getElem_range, highAt]
        rw [digits_get_all n h0 hn, digits_get_all n h0 hn]
        have p1 : (0 : Int) < 256 ^ j := Int.pow_pos (by omega)
        have q1 : n / 256 ^ (16 + j) = n / 256 ^ j / 256 ^ 16 := by rw [Nat.add_comm, Int.pow_add, Int.ediv_ediv_of_nonneg (by omega)]
        have q2 : n / 256 ^ (17 + j) = n / 256 ^ j / 256 ^ 17 := by rw [Nat.add_comm, Int.pow_add, Int.ediv_ediv_of_nonneg (by omega)]
        have q3 : n / 2 ^ 130 / 256 ^ j = n / 256 ^ j / 2 ^ 130 := by rw [Int.ediv_ediv_of_nonneg (by omega), Int.ediv_ediv_of_nonneg (by omega), Int.mul_comm]
        rw [q1, q2, q3]
        omega
    rw [e, val_append, val_zeros, val_digits]
    omega
theorem lowL_length {a : List Int} (h : a.length = 40) : (lowL a).length = 40 := by simp [lowL, h]
theorem highL_length (a : List Int) : (highL a).length = 40 := by simp [highL]
theorem lowL_bytes {a : List Int} (h : Bs a) : Bs (lowL a) := fun z hz => by
  rcases List.mem_append.1 hz with h1 | h1
  · exact h z (List.mem_of_mem_take h1)
  · rcases List.mem_cons.1 h1 with rfl | h1
    · have := h.at_ 16; omega
    · rw [List.eq_of_mem_replicate h1]; omega
theorem highL_bytes {a : List Int} (h : Bs a) : Bs (highL a) := fun z hz => by
  rcases List.mem_append.1 hz with h1 | h1
  · obtain ⟨j, _, rfl⟩ := List.mem_map.1 h1
    have h2 := h.at_ (16 + j)
    have h3 := h.at_ (17 + j)
    unfold highAt
    omega
  · rw [List.eq_of_mem_replicate h1]; omega
/-- both parts, added, the upper one five times -/
def fold (a : List Int) : List Int := List.zipWith (fun x y => x + 5 * y) (lowL a) (highL a)
theorem val_zip : ∀ {xs ys : List Int}, xs.length = ys.length → val (List.zipWith (fun x y => x + 5 * y) xs ys) = val xs + 5 * val ys
  | [], [], _ => rfl
  | x :: xs, y :: ys, h => by
    have := val_zip (xs := xs) (ys := ys) (by simpa using h)
    rw [List.zipWith_cons_cons, val, val, val, this]
    omega
theorem fold_length {a : List Int} (h : a.length = 40) : (fold a).length = 40 := by simp [fold, lowL_length h, highL_length]
theorem fold_get {a : List Int} (h : a.length = 40) {i : Nat} (hi : i < 40) : (fold a).getD i 0 = (lowL a).getD i 0 + 5 * (highL a).getD i 0 := by
  have h1 : i < (lowL a).length := by rw [lowL_length h]; exact hi
  have h2 : i < (highL a).length := by rw [highL_length]; exact hi
  simp [fold, List.getD_eq_getElem?_getD, List.getElem?_zipWith, h1, h2]
theorem fold_bound {a : List Int} (h : Bs a) : ∀ x ∈ fold a, 0 ≤ x ∧ x < 16777216 := by
  intro x hx
  obtain ⟨i, hi, rfl⟩ := List.mem_iff_getElem.1 hx
  simp only [fold, List.length_zipWith] at hi
  simp only [fold, List.getElem_zipWith]
  have h1 := lowL_bytes h _ (List.getElem_mem (show i < (lowL a).length by omega))
  have h2 := highL_bytes h _ (List.getElem_mem (show i < (highL a).length by omega))
  omega
theorem fold_val {n : Int} (h0 : 0 ≤ n) (hn : n < 256 ^ 40) : val (fold (digits n 40)) = red n := by
  have h := low_high h0 hn
  rw [fold, val_zip (by rw [lowL_length (digits_length 40 n), highL_length]), h.1, h.2]
  rfl
theorem red_small {n : Int} (h0 : 0 ≤ n) (hn : n < 2 ^ 300) : red n < 2 ^ 300 := by unfold red; omega
/-- k rounds of the reduction -/
def reds (n : Int) : Nat → Int
  | 0 => n
  | k + 1 => red (reds n k)
theorem reds_bound {n : Int} (h0 : 0 ≤ n) (hn : n < 2 ^ 300) : ∀ k, 0 ≤ reds n k ∧ reds n k < 2 ^ 300
  | 0 => ⟨h0, hn⟩
  | k + 1 => by
    have ih := reds_bound h0 hn k
    exact ⟨red_nonneg ih.1, red_small ih.1 ih.2⟩
theorem reds_mod (n : Int) : ∀ k, reds n k % modulus = n % modulus
  | 0 => rfl
  | k + 1 => by rw [reds, red_mod, reds_mod n k]
theorem reds_four {n : Int} (h0 : 0 ≤ n) (hn : n < 2 ^ 300) : 0 ≤ reds n 4 ∧ reds n 4 < 2 ^ 130 := red_four h0 hn
/-- the last step, below the modulus -/
theorem least_big {n : Int} (h0 : 0 ≤ n) (hn : n < 2 ^ 130) (hb : 4 ≤ (digits (n + 5) 40).getD 16 0) : (digits (n + 5) 40).set 16 ((digits (n + 5) 40).getD 16 0 - 4) = digits (n % modulus) 40 := by
  have hg := digits_get 40 (n + 5) 16 (by omega)
  rw [hg] at hb ⊢
  have hl : ((digits (n + 5) 40).set 16 ((n + 5) / 256 ^ 16 % 256 - 4)).length = 40 := by rw [List.length_set, digits_length]
  have hv := val_set (digits (n + 5) 40) 16 ((n + 5) / 256 ^ 16 % 256 - 4) (by rw [digits_length]; omega)
  rw [hg, val_digits] at hv
  have hby : Bs ((digits (n + 5) 40).set 16 ((n + 5) / 256 ^ 16 % 256 - 4)) := fun z hz => by
    rcases List.mem_or_eq_of_mem_set hz with h1 | h1
    · exact digits_bytes 40 _ z h1
    · rw [h1]; omega
  have := digits_unique hby hv
  rw [hl] at this
  rw [this]
  congr 1
  unfold modulus
  omega
theorem least_small {n : Int} (h0 : 0 ≤ n) (hn : n < 2 ^ 130) (hb : (digits (n + 5) 40).getD 16 0 < 4) : digits n 40 = digits (n % modulus) 40 := by
  rw [digits_get 40 (n + 5) 16 (by omega)] at hb
  congr 1
  unfold modulus
  omega
end Go.Proofs.YtebcejncjljmhaaDoor.Po
