/-
  Operations of a drawn region, one by one: min, len, s[:h] of an array, append within the room, a store into a box; what a row is to a step that touches no cells: no program here. No conditions beyond those stated.
-/
import Derived.Test.YtdfnacnklmmjhaaWide
import Derived.OneCell
import Derived.Laws.Small
namespace Go.Proofs.Ytdfnacnklmmjhaa.Held
open Go.RowKit Go.Proofs.Ytdfnacnklmmjhaa.Mem
set_option linter.unusedVariables false

theorem run_slice_arr_h {P : Program} (t e : TypeId) (n g h : Nat) (w : World) (ht : P.underlying t = some (.array n e)) (hs : (P.info? e).map (·.size) = some 1) (h0 : 0 < n) (hn : h ≤ n) :
    (Instr.sliceAt t (.pointer (some ⟨g, 0, none⟩)) none (some (.int .i64 (h : Int))) none).run P w = .ok (.slice (some ⟨g, 0, none⟩) h n) w := by
  have hz : (sizeOf e).run P w = .ok 1 w := by
    cases hq : P.info? e with
    | none => simp [hq] at hs
    | some q => simp [hq] at hs; simp [sizeOf, typeInfo, hq, hs]
  have ea : (Addr.mk g 0 none).add 0 = ⟨g, 0, none⟩ := by unfold Addr.add; split <;> simp_all
  simp [Instr.sliceAt, Instr.sureAddr, run_underlying ht, Instr.sliceBounds, run_sliceBound, hz, Sem.run_bind, Result.andThen, ea, (by omega : (h : Int) ≤ n)]

section
variable {P : Program} {S : World → Prop} {ρ : Operand → Value} {o : Oper}
theorem y_min {x y : Operand} {k : IntKind} {a b r : Int} {ts : Array TypeId} (ho : o.op = .call { callee := .builtin .min, args := #[x, y], argTypes := ts }) (hx : ρ x = .int k a) (hy : ρ y = .int k b) (hr : (if b < a then b else a) = r) :
    ∀ w, S w → (execOp ρ o).run P w = .ok (.value (.int k r)) w := fun w _ => by
  unfold execOp
  simp [ho, resolve, invoke, builtin, hx, hy, run_min_int2, hr]
end

section
variable {P : Program} {ops : Array Oper} {Q : Exit → Act → World → Prop}
theorem op_append_fits (i : Nat) (d : Option Tmp) {o : Oper} {a : Act} {w : World} {K : Act → World → Prop} {s x : Operand} (ts : TypeId) (hi : ops[i]? = some o) (hd : o.dst = d) (hw : Region.wanted o (yielded ops a.tmps) = true)
    (ho : o.op = .call { callee := .builtin .append, args := #[s, x], argTypes := #[ts, ts] }) (base : Nat) (e : TypeId) (k : IntKind) (bytes : Nat) (ht : P.underlying ts = some (.slice e))
    (hinfo : (P.info? e).map (fun i => (i.zero, i.size, i.bytes)) = some (some (.int k 0), 1, bytes)) (g cap len : Nat) (zs : List Int) (hs : a.eval s = .slice (some ⟨g, 0, none⟩) len cap) (hl : zs.length = len)
    (hown : Mem.Own w base e k (.slice (some ⟨g, 0, none⟩) len cap) zs) (B : Nat) (A : Option Addr) (m c : Nat) (xs : List Int) (hx : a.eval x = .slice A m c) (hr : Ints w k B A m xs) (L : Nat) (hL : len + m = L) (hfit : L ≤ cap)
    (h : ∀ w', Mem.Own w' base e k (.slice (some ⟨g, 0, none⟩) L cap) (zs ++ xs) → w.grownBy w' (some g) → K (a.put d (.slice (some ⟨g, 0, none⟩) L cap)) w') : wpOp P ops Q i K a w := by
  subst hd
  subst hl
  subst hL
  refine op_wp i hi hw ?_
  obtain ⟨w', hrun, h2, h3⟩ := run_append_ints_fits (P := P) w base ts o.type e k bytes ht hinfo g cap zs hown B A m c xs hr hfit
  exact Lib.wp_append_run w s x ts ts ho _ _ hs hx _ w' hrun (h w' h2 h3)
/-- a store of a value of one cell into a box -/
theorem op_store_box (i : Nat) (d : Option Tmp) {o : Oper} {a : Act} {w : World} {K : Act → World → Prop} (ty : TypeId) {x y : Operand} (g : Nat) (t : TypeId) (old v : Value) (hi : ops[i]? = some o) (hd : o.dst = d) (hw : Region.wanted o (yielded ops a.tmps) = true)
    (ho : o.op = .store ty x y) (hx : a.eval x = .pointer (some ⟨g, 0, none⟩)) (hy : a.eval y = v) (hb : w.heap[g]? = some (.cells #[old] t (0, 0))) (hsz : (P.info? ty).map (·.size) = some 1) (h1 : v.cells = #[v]) (ho1 : v.oneCell' = true)
    (h : ∀ w', w'.heap[g]? = some (.cells #[v] t (0, 0)) → w.grownBy w' (some g) → K (a.put d undef) w') : wpOp P ops Q i K a w := by
  subst hd
  refine op_wp i hi hw ?_
  have hz : (sizeOf ty).run P w = .ok 1 w := by
    cases hq : P.info? ty with
    | none => simp [hq] at hsz
    | some q => simp [hq] at hsz; simp [sizeOf, typeInfo, hq, hsz]
  have ea : (Addr.mk g 0 none).add 0 = ⟨g, 0, none⟩ := by unfold Addr.add; split <;> simp_all
  have hrun : (storeVar ty ⟨g, 0, none⟩ v).run P w = .ok () (w.setCell ⟨g, 0, none⟩ v) := by
    simp [storeVar, hz, h1, Sem.run_bind, Result.andThen, storeCells, run_store P w _ v _ ho1, ea, cell_of_one hb, free_of_one hb]
  unfold Oper.wp execOp
  simp only [ho, hx, hy, Instr.storeAt, Instr.sureAddr, Sem.run_bind, Sem.run_pure, Result.andThen_ok, hrun]
  exact h _ (one_setCell hb) (grown_setCell _ _ _ _)
end

section
variable {F : Fence} {n : Nat} {P : Program} {ops : Array Oper} {rest : List Oper} {o : Oper} {a : Act} {w : World} {Q : Exit → Act → World → Prop}
/-- a value of one cell in a box of its own, the new world a letter -/
theorem wpListIn_box_cell (hw : Region.wanted o (yielded ops a.tmps) = true) (ty : TypeId) (x : Operand) (ho : o.op = .box ty x) (v : Value) (hx : a.eval x = v) (h1 : v.cells = #[v])
    (h : ∀ w', w'.heap[w.heap.size]? = some (.cells #[v] ty (0, 0)) → w.grownBy w' none → Hid (w'.heap.size = w.heap.size + 1) → wpListIn F n P ops Q rest (a.put o.dst (.pointer (some ⟨w.heap.size, 0, none⟩))) w') : wpListIn F n P ops Q (o :: rest) a w := by
  refine wpListIn_step fun K hK => ?_
  rw [if_pos hw]
  unfold Oper.wpIn
  refine ⟨fun f hf => by simp [Oper.about, ho] at hf, ?_⟩
  rw [Oper.semAt_plain F _ _ (by rw [ho]; intro c hc'; cases hc')]
  unfold execOp
  simp only [ho, hx, Sem.run_bind, Instr.box, newVar, newRow, run_newObj_alloc, Sem.run_pure, Result.andThen_ok, h1]
  exact hK _ _ (h _ (heap_alloc_new w _) (World.grownBy_alloc w _ none) (Lib.hid (by simp)))
theorem wpList_box_cell (hgd : o.guard = none) (ty : TypeId) (x : Operand) (ho : o.op = .box ty x) (v : Value) (hx : a.eval x = v) (h1 : v.cells = #[v])
    (h : ∀ w', w'.heap[w.heap.size]? = some (.cells #[v] ty (0, 0)) → w.grownBy w' none → Hid (w'.heap.size = w.heap.size + 1) → wpList P ops Q rest (a.put o.dst (.pointer (some ⟨w.heap.size, 0, none⟩))) w') : wpList P ops Q (o :: rest) a w := by
  refine wpList_plain hgd fun K hK => ?_
  unfold Oper.wp execOp
  simp only [ho, hx, Sem.run_bind, Instr.box, newVar, newRow, run_newObj_alloc, Sem.run_pure, Result.andThen_ok, h1]
  exact hK _ _ (h _ (heap_alloc_new w _) (World.grownBy_alloc w _ none) (Lib.hid (by simp)))
theorem run_alloc_one {P : Program} (ty : TypeId) (z : Value) (hz : (P.info? ty).bind (·.zero) = some z) (h1 : z.cells = #[z]) (v : Value) (w : World) :
    (Instr.alloc ty true v).run P w = .ok (.pointer (some ⟨w.heap.size, 0, none⟩)) (w.alloc (.cells #[z] ty)) := by
  cases hi : P.info? ty with
  | none => simp [hi] at hz
  | some i =>
    simp only [hi, Option.bind_some] at hz
    simp [Instr.alloc, zeroValue, typeInfo, hi, hz, newVar, newRow, h1]
/-- a new variable of one cell, the new world a letter -/
theorem wpListIn_alloc_cell (hw : Region.wanted o (yielded ops a.tmps) = true) (ty : TypeId) (ho : o.op = .alloc ty) (z : Value) (hz : (P.info? ty).bind (·.zero) = some z) (h1 : z.cells = #[z])
    (h : ∀ w', w'.heap[w.heap.size]? = some (.cells #[z] ty (0, 0)) → w.grownBy w' none → Hid (w'.heap.size = w.heap.size + 1) → wpListIn F n P ops Q rest (a.put o.dst (.pointer (some ⟨w.heap.size, 0, none⟩))) w') : wpListIn F n P ops Q (o :: rest) a w := by
  refine wpListIn_step fun K hK => ?_
  rw [if_pos hw]
  unfold Oper.wpIn
  refine ⟨fun f hf => by simp [Oper.about, ho] at hf, ?_⟩
  rw [Oper.semAt_plain F _ _ (by rw [ho]; intro c hc'; cases hc')]
  unfold execOp
  simp only [ho, run_alloc_one ty z hz h1, Sem.run_bind, Sem.run_pure, Result.andThen_ok]
  exact hK _ _ (h _ (heap_alloc_new w _) (World.grownBy_alloc w _ none) (Lib.hid (by simp)))
theorem run_store_box {P : Program} {w : World} (ty : TypeId) (g : Nat) (t : TypeId) (old v : Value) (hb : w.heap[g]? = some (.cells #[old] t (0, 0))) (hsz : (P.info? ty).map (·.size) = some 1) (h1 : v.cells = #[v]) (ho1 : v.oneCell' = true) :
    (storeVar ty ⟨g, 0, none⟩ v).run P w = .ok () (w.setCell ⟨g, 0, none⟩ v) := by
  have hz : (sizeOf ty).run P w = .ok 1 w := by
    cases hq : P.info? ty with
    | none => simp [hq] at hsz
    | some q => simp [hq] at hsz; simp [sizeOf, typeInfo, hq, hsz]
  have ea : (Addr.mk g 0 none).add 0 = ⟨g, 0, none⟩ := by unfold Addr.add; split <;> simp_all
  simp [storeVar, hz, h1, Sem.run_bind, Result.andThen, storeCells, run_store P w _ v _ ho1, ea, cell_of_one hb, free_of_one hb]
/-- a store into a box, the new world a letter -/
theorem wpListIn_store_box (hw : Region.wanted o (yielded ops a.tmps) = true) (ty : TypeId) (x y : Operand) (ho : o.op = .store ty x y) (g : Nat) (hx : a.eval x = .pointer (some ⟨g, 0, none⟩)) (t : TypeId) (old v : Value) (hy : a.eval y = v)
    (hb : w.heap[g]? = some (.cells #[old] t (0, 0))) (hsz : (P.info? ty).map (·.size) = some 1) (h1 : v.cells = #[v]) (ho1 : v.oneCell' = true)
    (h : ∀ w', w'.heap[g]? = some (.cells #[v] t (0, 0)) → w.grownBy w' (some g) → wpListIn F n P ops Q rest (a.put o.dst undef) w') : wpListIn F n P ops Q (o :: rest) a w := by
  refine wpListIn_step fun K hK => ?_
  rw [if_pos hw]
  unfold Oper.wpIn
  refine ⟨fun f hf => by simp [Oper.about, ho] at hf, ?_⟩
  rw [Oper.semAt_plain F _ _ (by rw [ho]; intro c hc'; cases hc')]
  unfold execOp
  simp only [ho, hx, hy, Instr.storeAt, Instr.sureAddr, Sem.run_bind, Sem.run_pure, Result.andThen_ok, run_store_box ty g t old v hb hsz h1 ho1]
  exact hK _ _ (h _ (one_setCell hb) (grown_setCell _ _ _ _))
end

/-- a round's one variable, in its slot -/
theorem zip_one (p : Tmp) (v : Value) (t : Array Value) : ((#[p].zip #[v]).foldl (fun t (p, v) => t.setIfInBounds p v) t) = t.setIfInBounds p v := by simp
theorem zip_two (p q : Tmp) (u v : Value) (t : Array Value) : ((#[p, q].zip #[u, v]).foldl (fun t (p, v) => t.setIfInBounds p v) t) = (t.setIfInBounds p u).setIfInBounds q v := by simp

/-- what lies in a block of cells stays at a step that turns none -/
theorem ne_of_cells {w : World} {g : Nat} {cs : Array Value} {t : TypeId} {fr : Nat × Nat} {row : Option Nat} (h : w.heap[g]? = some (.cells cs t fr)) (hr : ∀ r, row = some r → ∃ o : Obj, w.heap[r]? = some o ∧ o.isCells = false) : some g ≠ row := fun e => by
  obtain ⟨o, ho, hc⟩ := hr g e.symm
  rw [h] at ho
  cases ho
  cases hc
theorem keep_cells {w w' : World} {g : Nat} {cs : Array Value} {t : TypeId} {fr : Nat × Nat} {row : Option Nat} (h : w.heap[g]? = some (.cells cs t fr)) (hg : w.grownBy w' row) (hr : some g ≠ row) : w'.heap[g]? = some (.cells cs t fr) :=
  (hg.block g (Array.getElem?_eq_some_iff.1 h).1 hr).trans h
theorem _root_.Go.Proofs.Ytdfnacnklmmjhaa.Mem.Own.cells_ {w : World} {base : Nat} {t : TypeId} {k : IntKind} {g n c : Nat} {zs : List Int} (h : Mem.Own w base t k (.slice (some ⟨g, 0, none⟩) n c) zs) : ∃ cs, w.heap[g]? = some (.cells cs t (0, 0)) := by
  rcases h.2.2 with ⟨e, _⟩ | ⟨g', cap, cur, e, _, hgg, _⟩
  · cases e
  · injection e with e1
    injection e1 with e1
    injection e1 with e1
    subst e1
    exact ⟨cur, hgg⟩
theorem others_of_grown {w w' : World} {g : Nat} {cs : Array Value} {t : TypeId} {fr : Nat × Nat} (h : w.heap[g]? = some (.cells cs t fr)) (hg : w.grownBy w' (some g)) : KeepsOthers w w' := KeepsOthers.of_grownBy hg (fun j o e ho => by cases e; rw [h] at ho; cases ho; rfl)
theorem others_of_new {w w' : World} (hg : w.grownBy w' none) : KeepsOthers w w' := KeepsOthers.of_grownBy hg (fun j o e ho => by cases e)
end Go.Proofs.Ytdfnacnklmmjhaa.Held

