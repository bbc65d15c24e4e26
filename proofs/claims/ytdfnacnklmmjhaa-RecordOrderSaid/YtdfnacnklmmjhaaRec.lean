/-
  Structs and arrays as wholes, within a region that draws its order and outside it: the address of a field, a whole value read, built, boxed, stored: no program here. No conditions beyond those stated.
-/
import Derived.Test.YtdfnacnklmmjhaaCell
import Derived.Test.YtdfnacnklmmjhaaInE
import Derived.Laws.StructEq
import Derived.Laws.ResultCell
namespace Go.Proofs.Ytdfnacnklmmjhaa.Held
open Go.RowKit Go.Shelf Go.Proofs.Ytdfnacnklmmjhaa.Mem
set_option linter.unusedVariables false

/-- block g is just the cells cs -/
def Blk (w : World) (g : Nat) (t : TypeId) (cs : Array Value) : Prop := w.heap[g]? = some (.cells cs t (0, 0))
section
variable {w w' : World} {g : Nat} {t : TypeId} {cs : Array Value}
theorem Blk.lt (h : Blk w g t cs) : g < w.heap.size := (Array.getElem?_eq_some_iff.1 h).1
theorem Blk.below {B : Nat} (h : Blk w g t cs) (hb : Below B w w') (hg : g < B) : Blk w' g t cs := (hb.block g hg).trans h
theorem Blk.after (h : Blk w g t cs) (hb : Below w.heap.size w w') : Blk w' g t cs := (hb.block g h.lt).trans h
theorem Blk.grown {row : Option Nat} (h : Blk w g t cs) (hb : w.grownBy w' row) (hg : some g ≠ row) : Blk w' g t cs := keep_cells h hb hg
theorem Blk.cell (h : Blk w g t cs) {i : Nat} {v : Value} (hv : cs[i]? = some v) : w.cell? ⟨g, i, none⟩ = some v := (cell_of_row w g i cs t (0, 0) h).trans hv
theorem Blk.frozen (h : Blk w g t cs) (i : Nat) : w.frozen? ⟨g, i, none⟩ = false := by
  unfold Blk at h
  simp [World.frozen?, h]
theorem Blk.drew (h : Blk w g t cs) : Blk w.drew g t cs := h
theorem Blk.of_row {k : IntKind} {zs : List Int} (h : Row w g t k zs) : Blk w g t (arr k zs) := h.2
theorem Blk.row {k : IntKind} {zs : List Int} (h : Blk w g t (arr k zs)) (hw : ∀ z ∈ zs, (Lit.int k z).wf = true) : Row w g t k zs := ⟨hw, h⟩
theorem Blk.set (h : Blk w g t cs) (i : Nat) (v : Value) : Blk (w.setCell ⟨g, i, none⟩ v) g t (cs.setIfInBounds i v) := by
  unfold Blk at h ⊢
  simp only [World.setCell, Array.getElem?_modify, h, if_true, Option.map_some, Obj.cells.injEq, Option.some.injEq]
  refine ⟨?_, trivial, trivial⟩
  simp
end

section
variable {P : Program} {S : World → Prop} {ρ : Operand → Value} {o : Oper}
/-- a field's address -/
theorem y_field {t : TypeId} {x : Operand} {b off j k m s : Nat} {fs : Array Field} (ho : o.op = .fieldAddr t x j) (hx : ρ x = .pointer (some ⟨b, off, none⟩)) (hu : P.underlying t = some (.struct fs)) (hk : (fs[j]?).map (·.offset) = some k) (hz : (fs[j]?).bind (fun f => (P.info? f.type).map (·.size)) = some (s + 1)) (hm : off + k = m) :
    ∀ w, S w → (execOp ρ o).run P w = .ok (.value (.pointer (some ⟨b, m, none⟩))) w := fun w _ => by
  obtain ⟨f, hf, rfl⟩ := Option.map_eq_some_iff.1 hk
  subst hm
  rw [hf] at hz
  obtain ⟨q, hq, h1⟩ := Option.map_eq_some_iff.1 (show (P.info? f.type).map (·.size) = some (s + 1) from hz)
  have ea : (Addr.mk b off none).add f.offset = ⟨b, off + f.offset, none⟩ := by unfold Addr.add; split <;> simp_all
  have es : (sizeOf f.type).run P w = .ok (s + 1) w := by simp [sizeOf, typeInfo, hq, h1]
  simp [execOp, ho, hx, Instr.fieldAt, Instr.sureAddr, run_underlying hu, hf, fieldPlace, ea, es]
/-- a field of a value, of one cell -/
theorem y_fieldv {t : TypeId} {x : Operand} {j k : Nat} {cs : Array Value} {fs : Array Field} {v : Value} (ho : o.op = .field t x j) (hx : ρ x = .agg cs) (hu : P.underlying t = some (.struct fs)) (hk : (fs[j]?).map (·.offset) = some k) (hp : (fs[j]?).map (fun f => P.plainKey f.type) = some true) (hv : cs[k]? = some v) :
    ∀ w, S w → (execOp ρ o).run P w = .ok (.value v) w := fun w _ => by
  obtain ⟨f, hf, rfl⟩ := Option.map_eq_some_iff.1 hk
  rw [hf] at hp
  have hpt := run_part_plain (P := P) w (Option.some.inj hp) (xs := cs) (off := f.offset) hv
  simp [execOp, ho, hx, Instr.field, run_underlying hu, hf, asAgg, hpt]
/-- a struct or an array, whole -/
theorem y_load_blk {ty : TypeId} {x : Operand} {b n : Nat} {t : TypeId} {cs : Array Value} {d : TypeDesc} (ho : o.op = .load ty x) (hx : ρ x = .pointer (some ⟨b, 0, none⟩)) (hu : P.underlying ty = some d) (hd : (match d with | .struct _ | .array _ _ => true | _ => false) = true) (hi : (P.info? ty).map (·.size) = some n) (hs : cs.size = n)
    (hc : ∀ w, S w → Blk w b t cs) : ∀ w, S w → (execOp ρ o).run P w = .ok (.value (.agg cs)) w := fun w hw => by
  simp only [execOp, ho, hx, Instr.loadAt, Instr.sureAddr, Sem.run_bind, Sem.run_pure, Result.andThen_ok, run_loadVar_row w b t ty cs (0, 0) d (hc w hw) hu hd (by rw [hi, hs])]
theorem y_build {t : TypeId} {parts : Array (Nat × Operand)} {cs : Array Value} (ho : o.op = .build t parts) (hf : P.built t (parts.map fun (i, x) => (i, ρ x)).toList = some cs) : ∀ w, S w → (execOp ρ o).run P w = .ok (.value (.agg cs)) w := fun w _ => by
  simp [execOp, ho, run_build w t _ cs hf]
theorem y_extract {x : Operand} {j : Nat} {vs : Array Value} {v : Value} (ho : o.op = .extract x j) (hx : ρ x = .tuple vs) (hv : vs[j]? = some v) : ∀ w, S w → (execOp ρ o).run P w = .ok (.value v) w := fun w _ => by
  simp [execOp, ho, hx, Instr.extract, hv]
/-- a comparison, by what it tells -/
theorem y_lss {t ty : TypeId} {x y : Operand} {k : IntKind} {a b : Int} {r : Bool} (ho : o.op = .binOp .lss t x y ty) (hx : ρ x = .int k a) (hy : ρ y = .int k b) (hr : decide (a < b) = r) : ∀ w, S w → (execOp ρ o).run P w = .ok (.value (.bool r)) w :=
  y_bin ho hx hy (fun w => by simp [eqGuard]) (fun w => by subst hr; simp [binOp, Op.intCmp])
theorem y_gtr {t ty : TypeId} {x y : Operand} {k : IntKind} {a b : Int} {r : Bool} (ho : o.op = .binOp .gtr t x y ty) (hx : ρ x = .int k a) (hy : ρ y = .int k b) (hr : decide (b < a) = r) : ∀ w, S w → (execOp ρ o).run P w = .ok (.value (.bool r)) w :=
  y_bin ho hx hy (fun w => by simp [eqGuard]) (fun w => by subst hr; simp [binOp, Op.intCmp])
theorem y_eqI {t ty : TypeId} {x y : Operand} {k : IntKind} {a b : Int} {r : Bool} (ho : o.op = .binOp .eql t x y ty) (hx : ρ x = .int k a) (hy : ρ y = .int k b) (hr : decide (a = b) = r) : ∀ w, S w → (execOp ρ o).run P w = .ok (.value (.bool r)) w :=
  y_bin ho hx hy (fun w => by simp [eqGuard]) (fun w => by subst hr; simp [binOp]; try rfl)
theorem y_neI {t ty : TypeId} {x y : Operand} {k : IntKind} {a b : Int} {r : Bool} (ho : o.op = .binOp .neq t x y ty) (hx : ρ x = .int k a) (hy : ρ y = .int k b) (hr : decide (a ≠ b) = r) : ∀ w, S w → (execOp ρ o).run P w = .ok (.value (.bool r)) w :=
  y_bin ho hx hy (fun w => by simp [eqGuard]) (fun w => by subst hr; simp [binOp]; try rfl)
end
/-- a whole value stored, the new world a letter -/
theorem op_store_blk {P : Program} {ops : Array Oper} {Q : Exit → Act → World → Prop} (i : Nat) (d : Option Tmp) {o : Oper} {a : Act} {w : World} {K : Act → World → Prop} (ty : TypeId) {x y : Operand} (g n : Nat) (t : TypeId) (old cs : Array Value) (hi : ops[i]? = some o) (hd : o.dst = d) (hw : Region.wanted o (yielded ops a.tmps) = true)
    (ho : o.op = .store ty x y) (hx : a.eval x = .pointer (some ⟨g, 0, none⟩)) (hy : a.eval y = .agg cs) (hb : Blk w g t old) (hsz : (P.info? ty).map (·.size) = some n) (hn : cs.size = n) (ho' : old.size = n) (h1 : cs.all (·.oneCell') = true)
    (h : ∀ w', Blk w' g t cs → w.grownBy w' (some g) → K (a.put d undef) w') : wpOp P ops Q i K a w := by
  subst hd
  refine op_wp i hi hw ?_
  unfold Oper.wp execOp
  simp only [ho, hx, hy, Instr.storeAt, Instr.sureAddr, Sem.run_bind, Sem.run_pure, Result.andThen_ok, run_storeVar_row w g t ty _ cs hb (by rw [hsz, hn]) (by rw [ho', hn]) h1]
  exact h _ (by unfold Blk at hb ⊢; simp [World.setRow, Array.getElem?_modify, hb]) (grown_setRow _ _ _)
section
variable {P : Program} {ops : Array Oper} {rest : List Oper} {o : Oper} {a : Act} {w : World} {Q : Exit → Act → World → Prop}
theorem wpList_box_blk (hw : Region.wanted o (yielded ops a.tmps) = true) (ty : TypeId) (x : Operand) (ho : o.op = .box ty x) (cs : Array Value) (hx : a.eval x = .agg cs)
    (h : ∀ w', Blk w' w.heap.size ty cs → w.grownBy w' none → Hid (w'.heap.size = w.heap.size + 1) → wpList P ops Q rest (a.put o.dst (.pointer (some ⟨w.heap.size, 0, none⟩))) w') : wpList P ops Q (o :: rest) a w :=
  wpList_step fun _ hK => by
    rw [if_pos hw]
    unfold Oper.wp execOp
    simp only [ho, hx, Sem.run_bind, Instr.box, newVar, newRow, run_newObj_alloc, Sem.run_pure, Result.andThen_ok, Value.cells]
    exact hK _ _ (h _ (heap_alloc_new w _) (World.grownBy_alloc w _ none) (Lib.hid (by simp)))
theorem run_alloc_blk (ty : TypeId) (cs : Array Value) (hz : (P.info? ty).bind (·.zero) = some (.agg cs)) (v : Value) :
    (Instr.alloc ty true v).run P w = .ok (.pointer (some ⟨w.heap.size, 0, none⟩)) (w.alloc (.cells cs ty)) := by
  obtain ⟨inf, hi, h0⟩ := Option.bind_eq_some_iff.1 hz
  simp [Instr.alloc, zeroValue, typeInfo, hi, h0, newVar, newRow, Value.cells, Result.andThen]
theorem wpList_alloc_blk (hw : Region.wanted o (yielded ops a.tmps) = true) (ty : TypeId) (ho : o.op = .alloc ty) (cs : Array Value) (hz : (P.info? ty).bind (·.zero) = some (.agg cs))
    (h : ∀ w', Blk w' w.heap.size ty cs → w.grownBy w' none → Hid (w'.heap.size = w.heap.size + 1) → wpList P ops Q rest (a.put o.dst (.pointer (some ⟨w.heap.size, 0, none⟩))) w') : wpList P ops Q (o :: rest) a w :=
  wpList_step fun _ hK => by
    rw [if_pos hw]
    unfold Oper.wp execOp
    simp only [ho, run_alloc_blk ty cs hz, Sem.run_bind, Sem.run_pure, Result.andThen_ok]
    exact hK _ _ (h _ (heap_alloc_new w _) (World.grownBy_alloc w _ none) (Lib.hid (by simp)))
theorem wpList_store_blk (hw : Region.wanted o (yielded ops a.tmps) = true) (ty : TypeId) (x y : Operand) (ho : o.op = .store ty x y) (g n : Nat) (hx : a.eval x = .pointer (some ⟨g, 0, none⟩)) (t : TypeId) (old cs : Array Value) (hy : a.eval y = .agg cs)
    (hb : Blk w g t old) (hsz : (P.info? ty).map (·.size) = some n) (hn : cs.size = n) (ho' : old.size = n) (h1 : cs.all (·.oneCell') = true)
    (h : ∀ w', Blk w' g t cs → w.grownBy w' (some g) → Hid (w'.heap.size = w.heap.size) → wpList P ops Q rest (a.put o.dst undef) w') : wpList P ops Q (o :: rest) a w :=
  wpList_step fun _ hK => by
    rw [if_pos hw]
    unfold Oper.wp execOp
    simp only [ho, hx, hy, Instr.storeAt, Instr.sureAddr, Sem.run_bind, Sem.run_pure, Result.andThen_ok, run_storeVar_row w g t ty _ cs hb (by rw [hsz, hn]) (by rw [ho', hn]) h1]
    exact hK _ _ (h _ (by unfold Blk at hb ⊢; simp [World.setRow, Array.getElem?_modify, hb]) (grown_setRow _ _ _) (Lib.hid (by simp [World.setRow])))
theorem wpList_load_blk (hw : Region.wanted o (yielded ops a.tmps) = true) (ty : TypeId) (x : Operand) (ho : o.op = .load ty x) (g n : Nat) (hx : a.eval x = .pointer (some ⟨g, 0, none⟩)) (t : TypeId) (cs : Array Value) (hb : Blk w g t cs) (d : TypeDesc) (hu : P.underlying ty = some d) (hd : (match d with | .struct _ | .array _ _ => true | _ => false) = true) (hi : (P.info? ty).map (·.size) = some n) (hn : cs.size = n)
    (h : wpList P ops Q rest (a.put o.dst (.agg cs)) w) : wpList P ops Q (o :: rest) a w :=
  wpList_step fun _ hK => by
    rw [if_pos hw]
    exact wp_load_row ty x ho g hx t cs (0, 0) d hb hu hd (by rw [hi, hn]) (hK _ _ h)
theorem wpList_build_blk (hg : o.guard = none) (t : TypeId) (parts : Array (Nat × Operand)) (ho : o.op = .build t parts) (cs : Array Value) (hf : P.built t (parts.map fun (i, x) => (i, a.eval x)).toList = some cs) (h : wpList P ops Q rest (a.put o.dst (.agg cs)) w) : wpList P ops Q (o :: rest) a w :=
  wpList_build hg t parts ho (by rw [hf]; rfl) (by rw [hf]; exact h)
/-- an operation that yields v, outside a drawn region -/
theorem wpList_run (hw : Region.wanted o (yielded ops a.tmps) = true) {v : Value} (hr : (execOp a.eval o).run P w = .ok (.value v) w) (h : wpList P ops Q rest (a.put o.dst v) w) : wpList P ops Q (o :: rest) a w :=
  wpList_step fun _ hK => by
    rw [if_pos hw]
    unfold Oper.wp
    rw [hr]
    exact hK _ _ h
/-- a shift to the right by a number of places that the caller names -/
theorem wpList_shr (hgd : o.guard = none) (t u : TypeId) (x y : Operand) (ho : o.op = .binOp .shr t x y u) (k k' : IntKind) (v r : Int) (n : Nat) (hx : a.eval x = .int k v) (hy : a.eval y = .int k' (n : Int)) (hn : n ≤ k.bits) (hr : v / 2 ^ n = r)
    (h : wpList P ops Q rest (a.put o.dst (.int k r)) w) : wpList P ops Q (o :: rest) a w := by
  refine wpList_plain hgd fun K hK => ?_
  unfold Oper.wp execOp
  simp [ho, hx, hy, Held.run_shr t k k' n hn hr]
  exact hK _ _ h
/-- a field of one cell stored -/
theorem wpList_store_field (hw : Region.wanted o (yielded ops a.tmps) = true) (ty : TypeId) (x y : Operand) (ho : o.op = .store ty x y) (g i : Nat) (hx : a.eval x = .pointer (some ⟨g, i, none⟩)) (t : TypeId) (cs : Array Value) (v : Value) (hy : a.eval y = v)
    (hb : Blk w g t cs) (hi : i < cs.size) (hsz : (P.info? ty).map (·.size) = some 1) (h1 : v.cells = #[v]) (ho1 : v.oneCell' = true)
    (h : ∀ w', Blk w' g t (cs.setIfInBounds i v) → w.grownBy w' (some g) → Hid (w'.heap.size = w.heap.size) → wpList P ops Q rest (a.put o.dst undef) w') : wpList P ops Q (o :: rest) a w :=
  wpList_step fun _ hK => by
    rw [if_pos hw]
    unfold Oper.wp execOp
    simp only [ho, hx, hy, Instr.storeAt, Instr.sureAddr, Sem.run_bind, Sem.run_pure, Result.andThen_ok, run_store_elem ty g i _ v (hb.cell (Array.getElem?_eq_getElem hi)) (hb.frozen i) hsz h1 ho1]
    exact hK _ _ (h _ (hb.set i v) (grown_setCell _ _ _ _) (Lib.hid (by simp [World.setCell])))
end
theorem results_blk {P : Program} {fn : Func} {p : Tmp} {ty : TypeId} (h : fn.results = #[.cell p ty]) (tmps : Array Value) (w : World) (g n : Nat) (t : TypeId) (cs : Array Value) (hp : tmps.getD p undef = .pointer (some ⟨g, 0, none⟩))
    (hr : Blk w g t cs) (d : TypeDesc) (hu : P.underlying ty = some d) (hd : (match d with | .struct _ | .array _ _ => true | _ => false) = true) (hi : (P.info? ty).map (·.size) = some n) (hn : cs.size = n) : (results fn tmps).run P w = .ok (.agg cs) w :=
  results_cell_row h tmps w g t cs (0, 0) d hp hr hu hd (by rw [hi, hn])
theorem results_blk_tmp {P : Program} {fn : Func} {p u : Tmp} {ty : TypeId} (h : fn.results = #[.cell p ty, .tmp u]) (tmps : Array Value) (w : World) (g n : Nat) (t : TypeId) (cs : Array Value) (x : Value) (hp : tmps.getD p undef = .pointer (some ⟨g, 0, none⟩)) (hx : tmps.getD u undef = x)
    (hr : Blk w g t cs) (d : TypeDesc) (hu : P.underlying ty = some d) (hd : (match d with | .struct _ | .array _ _ => true | _ => false) = true) (hi : (P.info? ty).map (·.size) = some n) (hn : cs.size = n) : (results fn tmps).run P w = .ok (.tuple #[.agg cs, x]) w := by
  rw [results_cell_tmp h, hp, hx]
  have ha : (asAddr (.pointer (some ⟨g, 0, none⟩))).run P w = .ok ⟨g, 0, none⟩ w := by simp [asAddr]
  rw [ha]
  simp only [Result.andThen_ok]
  rw [run_loadVar_row (P := P) w g t ty cs (0, 0) d hr hu hd (by rw [hi, hn])]
  rfl
end Go.Proofs.Ytdfnacnklmmjhaa.Held

