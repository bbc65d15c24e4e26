/-
  Arrays of numbers, in blocks of their own and by value: no program here. No conditions beyond those stated.
-/
import Derived.Test.YtdfnacnklmmjhaaOwn
import Derived.Laws.Rows
import Derived.Laws.Tables
import Derived.ChangeKeysEq
import Derived.Deep.OwnRows
import Derived.Laws.Slices
namespace Go.Proofs.Ytdfnacnklmmjhaa.Mem
open Go.RowKit
set_option linter.unusedVariables false

/-- numbers as an array by value -/
def arr (k : IntKind) (zs : List Int) : Array Value := (zs.map (Value.int k)).toArray
theorem arr_size (k : IntKind) (zs : List Int) : (arr k zs).size = zs.length := by simp [arr]
theorem arr_get (k : IntKind) (zs : List Int) {i : Nat} (h : i < zs.length) : (arr k zs)[i]? = some (.int k (zs.getD i 0)) := by
  simp [arr, List.getD_eq_getElem?_getD, h]
theorem arr_one (k : IntKind) (zs : List Int) : (arr k zs).all (·.oneCell') = true := by
  rw [Array.all_eq_true_iff_forall_mem]
  intro v hv
  simp only [arr, List.mem_toArray, List.mem_map] at hv
  obtain ⟨z, _, rfl⟩ := hv
  rfl

theorem run_index_arr {P : Program} (t e : TypeId) (n : Nat) (k : IntKind) (zs : List Int) (i : Nat) (w : World) (ht : P.underlying t = some (.array n e)) (hs : (P.info? e).map (·.size) = some 1) (hp : P.plainKey e = true)
    (hn : zs.length = n) (hi : i < n) : (Instr.index t (.agg (arr k zs)) (.int .i64 (i : Int))).run P w = .ok (.int k (zs.getD i 0)) w := by
  have h1 : (0 : Int) ≤ (i : Int) ∧ (i : Int) < (n : Int) := by omega
  have hz : (sizeOf e).run P w = .ok 1 w := by
    cases hq : P.info? e with
    | none => simp [hq] at hs
    | some q => simp [hq] at hs; simp [sizeOf, typeInfo, hq, hs]
  have hpt := run_part_plain (P := P) w hp (xs := arr k zs) (off := i) (arr_get k zs (by omega))
  simp [Instr.index, run_underlying ht, asIntOf, h1, hz, hpt, Sem.run_bind, Result.andThen]
  omega

section
variable {w w' : World} {g : Nat} {t : TypeId} {k : IntKind} {zs : List Int}
theorem Row.set (h : Row w g t k zs) (i : Nat) {z : Int} (hz : (Lit.int k z).wf = true) : Row (w.setCell ⟨g, i, none⟩ (.int k z)) g t k (zs.set i z) := by
  refine ⟨fun y hy => ?_, ?_⟩
  · rcases List.mem_or_eq_of_mem_set hy with h1 | h1
    · exact h.1 y h1
    · rw [h1]; exact hz
  · have hg := h.2
    simp only [World.setCell, Array.getElem?_modify, hg, if_true, Option.map_some, Obj.cells.injEq, Option.some.injEq]
    refine ⟨?_, trivial, trivial⟩
    rw [List.map_set]
    simp
theorem Row.other (h : Row w g t k zs) {p : Addr} (hp : p.block ≠ g) (v : Value) : Row (w.setCell p v) g t k zs := ⟨h.1, (heap_setCell_other w p g v (fun e => hp e.symm)).trans h.2⟩
theorem Row.alloc (h : Row w g t k zs) (o : Obj) : Row (w.alloc o) g t k zs := ⟨h.1, (Below.heap_alloc w o g h.lt).trans h.2⟩
theorem Row.drewN (h : Row w g t k zs) (m : Nat) : Row (w.drewN m) g t k zs := h
theorem Row.new (w : World) (t : TypeId) (hz : ∀ z ∈ zs, (Lit.int k z).wf = true) : Row (w.alloc (.cells (arr k zs) t)) w.heap.size t k zs := ⟨hz, heap_alloc_new w _⟩
theorem Row.setRow {old : List Int} (h : Row w g t k old) (hz : ∀ z ∈ zs, (Lit.int k z).wf = true) : Row (w.setRow g (arr k zs)) g t k zs := ⟨hz, setRow_heap w g _ _ t (0, 0) h.2⟩
theorem Row.setRow_other (h : Row w g t k zs) {g' : Nat} (hg : g' ≠ g) (cs : Array Value) : Row (w.setRow g' cs) g t k zs := ⟨h.1, (Go.setRow_other w g' g cs hg.symm).trans h.2⟩
theorem grown_setRow (w : World) (g : Nat) (cs : Array Value) : w.grownBy (w.setRow g cs) (some g) :=
  ⟨rfl, rfl, rfl, by simp, fun j _ hne => setRow_other w g j cs (fun e => hne (by rw [e]))⟩
end

section
variable {P : Program} {ops : Array Oper} {rest : List Oper} {o : Oper} {a : Act} {w : World} {Q : Exit → Act → World → Prop}
theorem wpList_load_Row (hgd : o.guard = none) (ty : TypeId) (x : Operand) (ho : o.op = .load ty x) (g : Nat) (hx : a.eval x = .pointer (some ⟨g, 0, none⟩)) (t : TypeId) (k : IntKind) (zs : List Int) (hr : Row w g t k zs)
    (n : Nat) (e : TypeId) (hu : P.underlying ty = some (.array n e)) (hi : (P.info? ty).map (·.size) = some n) (hn : zs.length = n)
    (h : wpList P ops Q rest (a.put o.dst (.agg (arr k zs))) w) : wpList P ops Q (o :: rest) a w :=
  wpList_load_row hgd ty x ho g hx t (arr k zs) (0, 0) _ hr.2 hu rfl (by rw [hi, arr_size, hn]) h
theorem wpList_store_Row (hgd : o.guard = none) (ty : TypeId) (x y : Operand) (ho : o.op = .store ty x y) (g : Nat) (hx : a.eval x = .pointer (some ⟨g, 0, none⟩)) (t : TypeId) (k : IntKind) (old zs : List Int) (hy : a.eval y = .agg (arr k zs))
    (hr : Row w g t k old) (n : Nat) (hi : (P.info? ty).map (·.size) = some n) (hn : zs.length = n) (ho' : old.length = n)
    (h : wpList P ops Q rest (a.put o.dst undef) (w.setRow g (arr k zs))) : wpList P ops Q (o :: rest) a w :=
  wpList_store_row hgd ty x y ho g (arr k zs) hx hy t _ hr.2 (by rw [hi, arr_size, hn]) (by simp [arr, ho', hn]) (arr_one k zs) h
end

theorem run_slice_arr_lh {P : Program} (t e : TypeId) (n g l h : Nat) (w : World) (ht : P.underlying t = some (.array n e)) (hs : (P.info? e).map (·.size) = some 1) (hl : l < n) (hh : l ≤ h) (hn : h ≤ n) :
    (Instr.sliceAt t (.pointer (some ⟨g, 0, none⟩)) (some (.int .i64 (l : Int))) (some (.int .i64 (h : Int))) none).run P w = .ok (.slice (some ⟨g, l, none⟩) (h - l) (n - l)) w := by
  have hz : (sizeOf e).run P w = .ok 1 w := by
    cases hq : P.info? e with
    | none => simp [hq] at hs
    | some q => simp [hq] at hs; simp [sizeOf, typeInfo, hq, hs]
  have e0 : ¬ n = l := by omega
  have ea : (Addr.mk g 0 none).add l = ⟨g, l, none⟩ := by unfold Addr.add; split <;> simp_all
  simp [Instr.sliceAt, Instr.sureAddr, run_underlying ht, Instr.sliceBounds, run_sliceBound, hz, Sem.run_bind, Result.andThen, e0, ea, (by omega : (l : Int) ≤ h), (by omega : (h : Int) ≤ n)]
theorem run_slice_arr_l {P : Program} (t e : TypeId) (n g l : Nat) (w : World) (ht : P.underlying t = some (.array n e)) (hs : (P.info? e).map (·.size) = some 1) (hl : l < n) :
    (Instr.sliceAt t (.pointer (some ⟨g, 0, none⟩)) (some (.int .i64 (l : Int))) none none).run P w = .ok (.slice (some ⟨g, l, none⟩) (n - l) (n - l)) w := by
  have hz : (sizeOf e).run P w = .ok 1 w := by
    cases hq : P.info? e with
    | none => simp [hq] at hs
    | some q => simp [hq] at hs; simp [sizeOf, typeInfo, hq, hs]
  have e0 : ¬ n = l := by omega
  have ea : (Addr.mk g 0 none).add l = ⟨g, l, none⟩ := by unfold Addr.add; split <;> simp_all
  simp [Instr.sliceAt, Instr.sureAddr, run_underlying ht, Instr.sliceBounds, run_sliceBound, hz, Sem.run_bind, Result.andThen, e0, ea, (by omega : (l : Int) ≤ n)]

theorem wpList_build_Row {P : Program} {ops : Array Oper} {rest : List Oper} {o : Oper} {a : Act} {w : World} {Q : Exit → Act → World → Prop} (hg : o.guard = none) (t : TypeId) (parts : Array (Nat × Operand)) (ho : o.op = .build t parts) (k : IntKind) (zs : List Int)
    (hf : P.built t (parts.map fun (i, x) => (i, a.eval x)).toList = some (arr k zs)) (h : wpList P ops Q rest (a.put o.dst (.agg (arr k zs))) w) : wpList P ops Q (o :: rest) a w :=
  wpList_build hg t parts ho (by rw [hf]; rfl) (by rw [hf]; exact h)

theorem made_zeros (k : IntKind) (n : Nat) : madeCells #[Value.int k 0] n = arr k (List.replicate n 0) := by
  apply Array.ext
  · simp [madeCells, arr]
  · intro i h1 h2
    simp [madeCells, arr, Nat.mod_one]

theorem wpList_make_Row {P : Program} (w : World) {ops : Array Oper} {rest : List Oper} {o : Oper} {a : Act} {Q : Exit → Act → World → Prop} (hg : o.guard = none) (l c : Operand) (t : TypeId) (hop : o.op = Op.makeSlice t l c)
    (e : TypeId) (k : IntKind) (bytes : Nat) (ht : P.underlying t = some (.slice e)) (hinfo : (P.info? e).map (fun i => (i.zero, i.size, i.bytes)) = some (some (.int k 0), 1, bytes))
    (kl kc : IntKind) (N M : Int) (n : Nat) (hl : a.eval l = .int kl N) (hc : a.eval c = .int kc M) (hN : N = (n : Int)) (hM : M = (n : Int)) (hby : bytes ≤ 8) (hn : n ≤ 17592186044416)
    (hK : ∀ w', Row w' w.heap.size e k (List.replicate n 0) → w.grownBy w' none → w'.heap.size = w.heap.size + 1 → wpList P ops Q rest (a.put o.dst (.slice (some ⟨w.heap.size, 0, none⟩) n n)) w') :
    wpList P ops Q (o :: rest) a w := by
  obtain ⟨i, hi, hz, hs, hb⟩ := info_parts hinfo
  subst hN
  subst hM
  refine wpList_make_row w hg l c t hop e i (.int k 0) ht hi hz hs rfl kl kc n hl hc (by rw [hb]; exact Nat.le_trans (Nat.mul_le_mul hby hn) (by omega)) (by omega) ?_
  refine hK _ ?_ (World.grownBy_alloc w _ none) (by simp)
  rw [made_zeros]
  exact Row.new w e (fun z hz => by rw [List.eq_of_mem_replicate hz]; cases k <;> decide)

theorem results_Row {P : Program} {fn : Func} {p : Tmp} {ty : TypeId} (h : fn.results = #[.cell p ty]) (tmps : Array Value) (w : World) (g : Nat) (t : TypeId) (k : IntKind) (zs : List Int) (hp : tmps.getD p undef = .pointer (some ⟨g, 0, none⟩))
    (hr : Row w g t k zs) (n : Nat) (e : TypeId) (hu : P.underlying ty = some (.array n e)) (hi : (P.info? ty).map (·.size) = some n) (hn : zs.length = n) : (results fn tmps).run P w = .ok (.agg (arr k zs)) w :=
  results_cell_row h tmps w g t (arr k zs) (0, 0) _ hp hr.2 hu rfl (by rw [hi, arr_size, hn])
end Go.Proofs.Ytdfnacnklmmjhaa.Mem

