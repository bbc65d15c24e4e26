/-
  Operations of a drawn region, one by one: min, len, s[:h] of an array, append within the room, a store into a box; what a row is to a step that touches no cells: no program here.
  The function Expand of package hkdf by its contract.
  The functions Extract and Key of package hkdf by their contracts.
  copy within a region that draws its order: no program here.
  A store of one number into a block that is known whole, the new world a letter: no program here.
  More operations of a region that draws its order: the address of an element, products, shifts, bits: no program here.
  Variables of one cell, the new world a letter; a function value held against nil; what is unlike, elements of several cells, within a region that draws its order: no program here.
  Numbers as bytes, and Poly1305, as plain functions: no program here.
-/
import Derived.Test.YtjelacblnjbfgaaDoorB5
import Derived.OneCell
import Derived.Laws.Small
import Derived.Test.YtjelacblnjbfgaaDoorB4
import Derived.Deep.MidRow
import Derived.Test.YtjelacblnjbfgaaDoorB2
set_option linter.unusedVariables false
namespace Go.Proofs.YtjelacblnjbfgaaDoor.Held
open Go.RowKit Mem
theorem run_slice_arr_h {P : Program} (t e : TypeId) (n g h : Nat) (w : World) (ht : P.underlying t = some (.array n e)) (hs : (P.info? e).map (·.size) = some 1) (h0 : 0 < n) (hn : h ≤ n) :
    (Instr.sliceAt t (.pointer (some ⟨g, 0, none⟩)) none (some (.int .i64 (h : Int))) none).run P w = .ok (.slice (some ⟨g, 0, none⟩) h n) w := by
  have hz : (sizeOf e).run P w = .ok 1 w := by
    cases hq : P.info? e with
    | none => simp [hq] at hs
    | some q => simp [hq] at hs; simp [sizeOf, typeInfo, hq, hs]
  have ea : (Addr.mk g 0 none).add 0 = ⟨g, 0, none⟩ := by unfold Addr.add; split <;> simp_all
  simp [Instr.sliceAt, Instr.sureAddr, run_underlying ht, Instr.sliceBounds, run_sliceBound, hz, Sem.run_bind, Result.andThen, ea, (by omega : (h : Int) ≤ n)]
section
variable {P : Program} {S : World → Prop} {ρ : Operand → Value} {o : Oper}
theorem y_min {x y : Operand} {k : IntKind} {a b r : Int} {ts : Array TypeId} (ho : o.op = .call { callee := .builtin .min, args := #[x, y], argTypes := ts }) (hx : ρ x = .int k a) (hy : ρ y = .int k b) (hr : (if b < a then b else a) = r) :
    ∀ w, S w → (execOp ρ o).run P w = .ok (.value (.int k r)) w := fun w _ => by
  unfold execOp
  simp [ho, resolve, invoke, builtin, hx, hy, run_min_int2, hr]
end
section
variable {P : Program} {ops : Array Oper} {Q : Exit → Act → World → Prop}
theorem op_append_fits (i : Nat) (d : Option Tmp) {o : Oper} {a : Act} {w : World} {K : Act → World → Prop} {s x : Operand} (ts : TypeId) (hi : ops[i]? = some o) (hd : o.dst = d) (hw : Region.wanted o (yielded ops a.tmps) = true)
    (ho : o.op = .call { callee := .builtin .append, args := #[s, x], argTypes := #[ts, ts] }) (base : Nat) (e : TypeId) (k : IntKind) (bytes : Nat) (ht : P.underlying ts = some (.slice e))
    (hinfo : (P.info? e).map (fun i => (i.zero, i.size, i.bytes)) = some (some (.int k 0), 1, bytes)) (g cap len : Nat) (zs : List Int) (hs : a.eval s = .slice (some ⟨g, 0, none⟩) len cap) (hl : zs.length = len)
    (hown : Mem.Own w base e k (.slice (some ⟨g, 0, none⟩) len cap) zs) (B : Nat) (A : Option Addr) (m c : Nat) (xs : List Int) (hx : a.eval x = .slice A m c) (hr : Ints w k B A m xs) (L : Nat) (hL : len + m = L) (hfit : L ≤ cap)
    (h : ∀ w', Mem.Own w' base e k (.slice (some ⟨g, 0, none⟩) L cap) (zs ++ xs) → w.grownBy w' (some g) → K (a.put d (.slice (some ⟨g, 0, none⟩) L cap)) w') : wpOp P ops Q i K a w := by
  subst hd
  subst hl
  subst hL
  refine op_wp i hi hw ?_
  obtain ⟨w', hrun, h2, h3⟩ := run_append_ints_fits (P := P) w base ts o.type e k bytes ht hinfo g cap zs hown B A m c xs hr hfit
  exact Lib.wp_append_run w s x ts ts ho _ _ hs hx _ w' hrun (h w' h2 h3)
theorem op_store_box (i : Nat) (d : Option Tmp) {o : Oper} {a : Act} {w : World} {K : Act → World → Prop} (ty : TypeId) {x y : Operand} (g : Nat) (t : TypeId) (old v : Value) (hi : ops[i]? = some o) (hd : o.dst = d) (hw : Region.wanted o (yielded ops a.tmps) = true)
    (ho : o.op = .store ty x y) (hx : a.eval x = .pointer (some ⟨g, 0, none⟩)) (hy : a.eval y = v) (hb : w.heap[g]? = some (.cells #[old] t (0, 0))) (hsz : (P.info? ty).map (·.size) = some 1) (h1 : v.cells = #[v]) (ho1 : v.oneCell' = true)
    (h : ∀ w', w'.heap[g]? = some (.cells #[v] t (0, 0)) → w.grownBy w' (some g) → K (a.put d undef) w') : wpOp P ops Q i K a w := by
  subst hd
  refine op_wp i hi hw ?_
  have hz : (sizeOf ty).run P w = .ok 1 w := by
    cases hq : P.info? ty with
    | none => simp [hq] at hsz
    | some q => simp [hq] at hsz; simp [sizeOf, typeInfo, hq, hsz]
  have ea : (Addr.mk g 0 none).add 0 = ⟨g, 0, none⟩ := by unfold Addr.add; split <;> simp_all
  have hrun : (storeVar ty ⟨g, 0, none⟩ v).run P w = .ok () (w.setCell ⟨g, 0, none⟩ v) := by
    simp [storeVar, hz, h1, Sem.run_bind, Result.andThen, storeCells, run_store P w _ v _ ho1, ea, cell_of_one hb, free_of_one hb]
  unfold Oper.wp execOp
  simp only [ho, hx, hy, Instr.storeAt, Instr.sureAddr, Sem.run_bind, Sem.run_pure, Result.andThen_ok, hrun]
  exact h _ (one_setCell hb) (grown_setCell _ _ _ _)
end
section
variable {F : Fence} {n : Nat} {P : Program} {ops : Array Oper} {rest : List Oper} {o : Oper} {a : Act} {w : World} {Q : Exit → Act → World → Prop}
theorem wpListIn_box_cell (hw : Region.wanted o (yielded ops a.tmps) = true) (ty : TypeId) (x : Operand) (ho : o.op = .box ty x) (v : Value) (hx : a.eval x = v) (h1 : v.cells = #[v])
    (h : ∀ w', w'.heap[w.heap.size]? = some (.cells #[v] ty (0, 0)) → w.grownBy w' none → Hid (w'.heap.size = w.heap.size + 1) → wpListIn F n P ops Q rest (a.put o.dst (.pointer (some ⟨w.heap.size, 0, none⟩))) w') : wpListIn F n P ops Q (o :: rest) a w := by
  refine wpListIn_step fun K hK => ?_
  rw [if_pos hw]
  unfold Oper.wpIn
  refine ⟨fun f hf => by simp [Oper.about, ho] at hf, ?_⟩
  rw [Oper.semAt_plain F _ _ (by rw [ho]; intro c hc'; cases hc')]
  unfold execOp
  simp only [ho, hx, Sem.run_bind, Instr.box, newVar, newRow, run_newObj_alloc, Sem.run_pure, Result.andThen_ok, h1]
  exact hK _ _ (h _ (heap_alloc_new w _) (World.grownBy_alloc w _ none) (Lib.hid (by simp)))
theorem wpList_box_cell (hgd : o.guard = none) (ty : TypeId) (x : Operand) (ho : o.op = .box ty x) (v : Value) (hx : a.eval x = v) (h1 : v.cells = #[v])
    (h : ∀ w', w'.heap[w.heap.size]? = some (.cells #[v] ty (0, 0)) → w.grownBy w' none → Hid (w'.heap.size = w.heap.size + 1) → wpList P ops Q rest (a.put o.dst (.pointer (some ⟨w.heap.size, 0, none⟩))) w') : wpList P ops Q (o :: rest) a w := by
  refine wpList_plain hgd fun K hK => ?_
  unfold Oper.wp execOp
  simp only [ho, hx, Sem.run_bind, Instr.box, newVar, newRow, run_newObj_alloc, Sem.run_pure, Result.andThen_ok, h1]
  exact hK _ _ (h _ (heap_alloc_new w _) (World.grownBy_alloc w _ none) (Lib.hid (by simp)))
theorem run_alloc_one {P : Program} (ty : TypeId) (z : Value) (hz : (P.info? ty).bind (·.zero) = some z) (h1 : z.cells = #[z]) (v : Value) (w : World) :
    (Instr.alloc ty true v).run P w = .ok (.pointer (some ⟨w.heap.size, 0, none⟩)) (w.alloc (.cells #[z] ty)) := by
  cases hi : P.info? ty with
  | none => simp [hi] at hz
  | some i =>
    simp only [hi, Option.bind_some] at hz
    simp [Instr.alloc, zeroValue, typeInfo, hi, hz, newVar, newRow, h1]
theorem wpListIn_alloc_cell (hw : Region.wanted o (yielded ops a.tmps) = true) (ty : TypeId) (ho : o.op = .alloc ty) (z : Value) (hz : (P.info? ty).bind (·.zero) = some z) (h1 : z.cells = #[z])
    (h : ∀ w', w'.heap[w.heap.size]? = some (.cells #[z] ty (0, 0)) → w.grownBy w' none → Hid (w'.heap.size = w.heap.size + 1) → wpListIn F n P ops Q rest (a.put o.dst (.pointer (some ⟨w.heap.size, 0, none⟩))) w') : wpListIn F n P ops Q (o :: rest) a w := by
  refine wpListIn_step fun K hK => ?_
  rw [if_pos hw]
  unfold Oper.wpIn
  refine ⟨fun f hf => by simp [Oper.about, ho] at hf, ?_⟩
  rw [Oper.semAt_plain F _ _ (by rw [ho]; intro c hc'; cases hc')]
  unfold execOp
  simp only [ho, run_alloc_one ty z hz h1, Sem.run_bind, Sem.run_pure, Result.andThen_ok]
  exact hK _ _ (h _ (heap_alloc_new w _) (World.grownBy_alloc w _ none) (Lib.hid (by simp)))
theorem run_store_box {P : Program} {w : World} (ty : TypeId) (g : Nat) (t : TypeId) (old v : Value) (hb : w.heap[g]? = some (.cells #[old] t (0, 0))) (hsz : (P.info? ty).map (·.size) = some 1) (h1 : v.cells = #[v]) (ho1 : v.oneCell' = true) :
    (storeVar ty ⟨g, 0, none⟩ v).run P w = .ok () (w.setCell ⟨g, 0, none⟩ v) := by
  have hz : (sizeOf ty).run P w = .ok 1 w := by
    cases hq : P.info? ty with
    | none => simp [hq] at hsz
    | some q => simp [hq] at hsz; simp [sizeOf, typeInfo, hq, hsz]
  have ea : (Addr.mk g 0 none).add 0 = ⟨g, 0, none⟩ := by unfold Addr.add; split <;> simp_all
  simp [storeVar, hz, h1, Sem.run_bind, Result.andThen, storeCells, run_store P w _ v _ ho1, ea, cell_of_one hb, free_of_one hb]
theorem wpListIn_store_box (hw : Region.wanted o (yielded ops a.tmps) = true) (ty : TypeId) (x y : Operand) (ho : o.op = .store ty x y) (g : Nat) (hx : a.eval x = .pointer (some ⟨g, 0, none⟩)) (t : TypeId) (old v : Value) (hy : a.eval y = v)
    (hb : w.heap[g]? = some (.cells #[old] t (0, 0))) (hsz : (P.info? ty).map (·.size) = some 1) (h1 : v.cells = #[v]) (ho1 : v.oneCell' = true)
    (h : ∀ w', w'.heap[g]? = some (.cells #[v] t (0, 0)) → w.grownBy w' (some g) → wpListIn F n P ops Q rest (a.put o.dst undef) w') : wpListIn F n P ops Q (o :: rest) a w := by
  refine wpListIn_step fun K hK => ?_
  rw [if_pos hw]
  unfold Oper.wpIn
  refine ⟨fun f hf => by simp [Oper.about, ho] at hf, ?_⟩
  rw [Oper.semAt_plain F _ _ (by rw [ho]; intro c hc'; cases hc')]
  unfold execOp
  simp only [ho, hx, hy, Instr.storeAt, Instr.sureAddr, Sem.run_bind, Sem.run_pure, Result.andThen_ok, run_store_box ty g t old v hb hsz h1 ho1]
  exact hK _ _ (h _ (one_setCell hb) (grown_setCell _ _ _ _))
end
theorem zip_one (p : Tmp) (v : Value) (t : Array Value) : ((#[p].zip #[v]).foldl (fun t (p, v) => t.setIfInBounds p v) t) = t.setIfInBounds p v := by simp
theorem zip_two (p q : Tmp) (u v : Value) (t : Array Value) : ((#[p, q].zip #[u, v]).foldl (fun t (p, v) => t.setIfInBounds p v) t) = (t.setIfInBounds p u).setIfInBounds q v := by simp
theorem ne_of_cells {w : World} {g : Nat} {cs : Array Value} {t : TypeId} {fr : Nat × Nat} {row : Option Nat} (h : w.heap[g]? = some (.cells cs t fr)) (hr : ∀ r, row = some r → ∃ o : Obj, w.heap[r]? = some o ∧ o.isCells = false) : some g ≠ row := fun e => by
  obtain ⟨o, ho, hc⟩ := hr g e.symm
  rw [h] at ho
  cases ho
  cases hc
theorem keep_cells {w w' : World} {g : Nat} {cs : Array Value} {t : TypeId} {fr : Nat × Nat} {row : Option Nat} (h : w.heap[g]? = some (.cells cs t fr)) (hg : w.grownBy w' row) (hr : some g ≠ row) : w'.heap[g]? = some (.cells cs t fr) :=
  (hg.block g (Array.getElem?_eq_some_iff.1 h).1 hr).trans h
theorem _root_.Go.Proofs.YtjelacblnjbfgaaDoor.Mem.Own.cells_ {w : World} {base : Nat} {t : TypeId} {k : IntKind} {g n c : Nat} {zs : List Int} (h : Mem.Own w base t k (.slice (some ⟨g, 0, none⟩) n c) zs) : ∃ cs, w.heap[g]? = some (.cells cs t (0, 0)) := by
  rcases h.2.2 with ⟨e, _⟩ | ⟨g', cap, cur, e, _, hgg, _⟩
  · cases e
  · injection e with e1
    injection e1 with e1
    injection e1 with e1
    subst e1
    exact ⟨cur, hgg⟩
theorem others_of_grown {w w' : World} {g : Nat} {cs : Array Value} {t : TypeId} {fr : Nat × Nat} (h : w.heap[g]? = some (.cells cs t fr)) (hg : w.grownBy w' (some g)) : KeepsOthers w w' := KeepsOthers.of_grownBy hg (fun j o e ho => by cases e; rw [h] at ho; cases ho; rfl)
theorem others_of_new {w w' : World} (hg : w.grownBy w' none) : KeepsOthers w w' := KeepsOthers.of_grownBy hg (fun j o e ho => by cases e)
end Go.Proofs.YtjelacblnjbfgaaDoor.Held
namespace Go.Proofs.YtjelacblnjbfgaaDoor.Hkdf
open Go.RowKit Go.Shelf Go.Proofs.YtjelacblnjbfgaaDoor Mem Help Go.Proofs.YtjelacblnjbfgaaDoor.Sum Sha Mac Go.Proofs.YtjelacblnjbfgaaDoor.Range
attribute [local go_sem] Oper.semAt_some
attribute [local irreducible] wpList wpListIn
def Inv (w : World) (g lb nb n : Nat) (key info : List Int) (k : Nat) (W : World) : Prop :=
  32 * k < n ∧ W.heap[lb]? = some (.cells #[.slice (some ⟨g, 0, none⟩) (32 * k) n] 27 (0, 0)) ∧ Mem.Own W w.heap.size 5 .u8 (.slice (some ⟨g, 0, none⟩) (32 * k) n) (out key info (32 * k)) ∧
    W.heap[nb]? = some (.cells #[.int .i64 (n : Int)] 3 (0, 0)) ∧ Below w.heap.size w W
def Done (w : World) (g lb n : Nat) (key info : List Int) (c : Code) (k : Nat) (W : World) : Prop :=
  c = .exit 0 ∧ W.heap[lb]? = some (.cells #[.slice (some ⟨g, 0, none⟩) n n] 27 (0, 0)) ∧ Mem.Own W w.heap.size 5 .u8 (.slice (some ⟨g, 0, none⟩) n n) (out key info n) ∧ Below w.heap.size w W
theorem Inv.far (w : World) (g lb nb n : Nat) (key info : List Int) {B : Nat} (hw : w.heap.size < B) (hg : g < B) (hl : lb < B) (hn : nb < B) : Far B (Inv w g lb nb n key info) := by
  intro k W W' row h hgr hr
  have hne : ∀ i, i < B → some i ≠ row := fun i hi e => by have := hr i e.symm; omega
  obtain ⟨h0, h1, h2, h3, h4⟩ := h
  refine ⟨h0, Held.keep_cells h1 hgr (hne _ hl), h2.kept hgr (.inr (hne _ hg)), Held.keep_cells h3 hgr (hne _ hn), h4.grown hgr h4.size (fun r e => by have := hr r e; omega)⟩
theorem Done.far (w : World) (g lb n : Nat) (key info : List Int) (c : Code) {B : Nat} (hw : w.heap.size < B) (hg : g < B) (hl : lb < B) : Far B (Done w g lb n key info c) := by
  intro k W W' row h hgr hr
  have hne : ∀ i, i < B → some i ≠ row := fun i hi e => by have := hr i e.symm; omega
  obtain ⟨h0, h1, h2, h4⟩ := h
  refine ⟨h0, Held.keep_cells h1 hgr (hne _ hl), h2.kept hgr (.inr (hne _ hg)), h4.grown hgr h4.size (fun r e => by have := hr r e; omega)⟩
set_option maxRecDepth 100000 in
set_option maxHeartbeats 8000000 in
theorem expand_any (key info : List Int) (hk : key.length = 32) (hkb : ∀ z ∈ key, (Lit.int .u8 z).wf = true) (B : Nat) (A : Option Addr) (m c n : Nat) (w : World) (hi : Ints w .u8 B A m info) (hB : B ≤ w.heap.size) (hmc : m ≤ c) (hcm : c ≤ maxLen) (hm : m ≤ 274877906944)
    (hn1 : 1 ≤ n) (hn2 : n ≤ 8160) (hT0 : Tab w 2 Sum.H0) (hT1 : Tab w 3 Sum.K) :
    Calls Tryd.prog 62 #[.agg (arr .u8 key), .slice A m c, .int .i64 (n : Int)] w fun e w' => ∃ g, e = .returned (.tuple #[.slice (some ⟨g, 0, none⟩) n n, .int .i64 0]) ∧ w.heap.size ≤ g ∧ Row w' g 5 .u8 (out key info n) ∧ Below w.heap.size w w' := by
  refine (callsIn_wide (n := 3)).1 ?_
  refine callsIn_of_wp_marks Tryd.func62 rfl trivial ?_ rfl
  simp only [Tryd.ntmps62, List.size_toArray, List.length_cons, List.length_nil, Nat.reduceAdd, Nat.reduceSub, Array.replicate_succ, Array.replicate_zero, List.push_toArray, List.append_toArray, List.nil_append, List.cons_append]
  have HK := Lib.hid hk
  clear hk
  have q1 : ¬ (n : Int) < 1 := by omega
  have q2 : ¬ (8160 : Int) < (n : Int) := by omega
  obtain ⟨i0, hi0, hz0, hs0, hb0⟩ := info_parts info_u8
  gi_wp2_with (first
    | (refine wpListIn_box_Row rfl 22 _ rfl .u8 key rfl hkb ?_; intro w1 r1 g1 z1)
    | (refine Held.wpListIn_box_cell (w := w1) rfl 3 _ rfl (.int .i64 (n : Int)) rfl rfl ?_; intro w2 h2 g2 z2; have cn2 := cell_of_one h2)
    | (refine wpListIn_make_own w2 rfl _ _ 27 rfl w.heap.size 5 i0 (.int .u8 0) 1 Tryd.underlying27 hi0 hz0 hs0 .i64 .i64 _ n rfl rfl (by omega) (by rw [hb0]; omega) (by unfold maxLen; omega) (by have := g1.size; have := g2.size; omega) ?_; intro w3 hown3 g3)
    | (refine Held.wpListIn_alloc_cell (w := w3) rfl 27 rfl (.slice none 0 0) (by kernel_rfl) rfl ?_; intro w4 h4 g4 z4)
    | (refine Held.wpListIn_store_box (w := w4) rfl 27 _ _ rfl w3.heap.size rfl 27 _ (.slice (some ⟨w2.heap.size, 0, none⟩) 0 n) rfl h4 (by kernel_rfl) rfl rfl ?_; intro w5 h5 g5; have r15 := (((r1.grown g2 (by simp)).grown g3 (by simp)).grown g4 (by simp)).grown g5 (by have := g1.size; have := g2.size; have := g3.size; intro e; injection e with e; have := r1.lt; omega))
    | (refine wpListIn_load_Row (w := w5) rfl 22 _ rfl w.heap.size rfl 22 .u8 _ r15 32 5 Tryd.underlying22 info_32 HK.out ?_))
  obtain ⟨nb, hnb⟩ : ∃ nb, w1.heap.size = nb := ⟨_, rfl⟩
  obtain ⟨g, hg⟩ : ∃ g, w2.heap.size = g := ⟨_, rfl⟩
  obtain ⟨lb, hlb⟩ : ∃ lb, w3.heap.size = lb := ⟨_, rfl⟩
  have e1 := z1.out
  have e2 := z2.out
  have lg : w2.heap.size < w3.heap.size := (hown3.lt _ rfl).2
  have s4 := g4.size
  have s5 := g5.size
  have c2 : Below w.heap.size w w2 := ((Below.refl _ w).grown g1 (Nat.le_refl _) (by simp)).grown g2 (by omega) (by simp)
  have c5 : Below w.heap.size w w5 := ((c2.grown g3 c2.size (by simp)).grown g4 (by omega) (by simp)).grown g5 (by omega) (fun r e => by cases e; omega)
  rw [hnb] at e1 e2 h2
  rw [hg] at e2
  rw [hg] at lg hown3 h5
  rw [hlb] at lg s4 h5 g5
  rw [hnb, hg, hlb]
  have o5 : Mem.Own w5 w.heap.size 5 .u8 (.slice (some ⟨g, 0, none⟩) 0 n) (out key info 0) := by
    rw [out_zero]
    have o3 : Mem.Own w3 w.heap.size 5 .u8 (.slice (some ⟨g, 0, none⟩) 0 n) [] := ⟨by simp, hown3⟩
    exact (o3.kept g4 (.inr (by simp [Value.ownBlock]))).kept g5 (.inr (fun e => by have e : some g = some lb := e; injection e with e; omega))
  have n5 := Held.keep_cells (Held.keep_cells (Held.keep_cells h2 g3 (by simp)) g4 (by simp)) g5 (by intro e; injection e with e; omega)
  have i5 : Inv w g lb nb n key info 0 w5 := ⟨by omega, h5, o5, n5, c5⟩
  have hwn : w.heap.size < nb := by omega
  have hng : nb < g := by omega
  have hl5 : lb < w5.heap.size := (Array.getElem?_eq_some_iff.1 h5).1
  clear e1 e2 s4 s5 c2 n5 o5 h2 h5 h4 hown3 g1 g2 g3 g4 g5 z1 z2 z4 cn2 r1 r15 hnb hg hlb hi0 hz0 hs0 hb0
  refine ⟨trivial, ?_⟩
  refine (callsIn_wide.2 (follow_any key hkb A m c w5)).mono ?_
  rintro e W6 ⟨rfl, rk, ck, b6, z6⟩
  have i6 : Inv w g lb nb n key info 0 W6 := Inv.far w g lb nb n key info (B := w5.heap.size) (by omega) (by omega) hl5 (by omega) 0 _ _ none i5 (grown_of_below b6 none) (fun r e => by cases e)
  have c6 := i6.2.2.2.2
  obtain ⟨fb, hfb⟩ : ∃ fb, w5.heap.size = fb := ⟨_, rfl⟩
  rw [hfb] at rk ck b6 z6 hl5 ⊢
  have hSlt : ∀ b, b < w.heap.size → ¬ (b = g ∨ b = lb) := fun b hb e => by omega
  have z6' := z6.out
  have hit := fun n => follow_stop n fb (fb + 1) (fun b => b = g ∨ b = lb) key info A m c W6 rk HK.out ck (by omega) (by omega) (IntsN.of (hi.below (c6.mono hB)) (fun b hb => hSlt b (by omega))) hmc hcm hm (fun b hb => by omega) (hT0.below c6 hT0.lt) (hT1.below c6 hT1.lt) (hSlt _ hT0.lt) (hSlt _ hT1.lt)
  clear rk ck b6 i5 c5 hfb
  gi_wp2_with fail
  refine wpIn_rangeFunc_stop rfl (by omega) (gf := 75) (lb := #[.pointer (some ⟨fb, 0, none⟩), .pointer (some ⟨fb + 1, 0, none⟩)]) rfl trivial (enters_of Tryd.func75 (by kernel_rfl) rfl)
    (hit _) (fun h k => h.trans k) (fun W l o o' hl ho hc _ => Only.put W l o o' ho hc) (Below.refl _ _) (fun _ => rfl)
    256 (Inv w g lb nb n key info) (Done w g lb n key info) (Inv.far w g lb nb n key info (by omega) (by omega) (by omega) (by omega)) (fun c => Done.far w g lb n key info c (by omega) (by omega) (by omega)) (fun k W h => by have := h.1; omega) i6
    (fun x a' k W => Inv w g lb nb n key info k W ∧ ∃ p, lb < p ∧ Row W p 22 .u8 x ∧ a' = { tmps := #[.agg (arr .u8 key), .slice A m c, .int .i64 (n : Int), .pointer (some ⟨w.heap.size, 0, none⟩), undef, .pointer (some ⟨nb, 0, none⟩), .slice none 0 0, .int .i64 0, .pointer (some ⟨lb, 0, none⟩), .pointer (some ⟨p, 0, none⟩), .int .i64 (n : Int), .bool false, .bool false, .int .i64 (n : Int), .bool false, .bool false, .int .i64 (n : Int), .slice (some ⟨g, 0, none⟩) 0 n, .agg (arr .u8 key), .slice A m c, .func (.func 75) #[] #[.pointer (some ⟨fb, 0, none⟩), .pointer (some ⟨fb + 1, 0, none⟩)], .agg (arr .u8 x), undef, undef, undef, undef, undef, undef, undef, undef, undef, undef, undef, undef, undef], defers := [] }) ?ib ?assign ?body ?done ?stop
  case ib =>
    rintro x a' k W W' row ⟨hi, p, hp, hr, h3⟩ hgr hrow
    exact ⟨Inv.far w g lb nb n key info (B := lb + 1) (by omega) (by omega) (by omega) (by omega) k W W' row hi hgr (fun r e => by have := (hrow r e).1; omega), p, hp, hr.grown hgr (Held.ne_of_cells hr.2 (fun r e => (hrow r e).2)), h3⟩
  case assign =>
    intro l k x W K hi hat hsz hK
    have hxl : x.length = 32 := by
      have hat : (if k < 255 then some (piece key info (k + 1)) else none) = some x := hat
      split at hat
      · injection hat with hat; rw [← hat]; exact piece_length _ _ _
      · cases hat
    have hxw : ∀ z ∈ x, (Lit.int .u8 z).wf = true := by
      have hat : (if k < 255 then some (piece key info (k + 1)) else none) = some x := hat
      split at hat
      · injection hat with hat; rw [← hat]; exact piece_wf _ _ _
      · cases hat
    have HXL := Lib.hid hxl
    have HXW := Lib.hid hxw
    have HAT := Lib.hid hat
    clear hxl hxw hat
    simp only [Held.zip_one, List.setIfInBounds_toArray, List.set_cons_zero, List.set_cons_succ]
    gi_wp2_with (first
      | (refine wpListIn_alloc_Row rfl 22 rfl .u8 32 zero_32 ?_; intro w1 r1 g1 z1)
      | (refine wpListIn_store_RowTo (w := w1) rfl 22 _ _ rfl W.heap.size rfl 22 .u8 _ x rfl r1 32 info_32 HXL.out (by simp) HXW.out ?_; intro w2 r2 g2 z2))
    have b2 : Below W.heap.size W w2 := ((Below.refl _ W).grown g1 (Nat.le_refl _) (by simp)).grown g2 g1.size (fun r e => by cases e; exact Nat.le_refl _)
    exact hK _ _ ((Held.others_of_new g1).trans (Held.others_of_grown r1.2 g2)) (Only.of_below b2) ⟨Inv.far w g lb nb n key info (B := W.heap.size) (by omega) (by omega) (by omega) (by omega) k _ _ none hi (grown_of_below b2 none) (fun r e => by cases e), W.heap.size, by omega, r2, rfl⟩
  case body =>
    rintro l k x a' W hl hrec ⟨⟨i0, i1, i2, i3, i4⟩, p, hp, hr, rfl⟩ hat hsz
    have hat : (if k < 255 then some (piece key info (k + 1)) else none) = some x := hat
    have hk255 : k < 255 := by
      by_cases h : k < 255
      · exact h
      · rw [if_neg h] at hat; cases hat
    rw [if_pos hk255] at hat
    injection hat with hat
    subst hat
    obtain ⟨q, hq⟩ : ∃ q, 32 * k = q := ⟨_, rfl⟩
    rw [hq] at i0 i1 i2
    obtain ⟨j, hj⟩ : ∃ j, j = min 32 (n - q) := ⟨_, rfl⟩
    obtain ⟨L, hLL⟩ : ∃ L, q + j = L := ⟨_, rfl⟩
    have hj32 : j ≤ 32 := by omega
    have HQL := Lib.hid (show (out key info q).length = q from out_length _ _ _ (by omega))
    have HO := Lib.hid (show out key info q ++ (piece key info (k + 1)).take j = out key info L by rw [← hLL, ← hq]; exact out_step key info k j hk255 hj32)
    have HL := Lib.hid hLL
    have ip := hr.ints (n := j) (by rw [piece_length]; omega)
    have cl := cell_of_one i1
    obtain ⟨cs, hcs⟩ := i2.cells_
    have hsub : IntKind.i64.wrap ((n : Int) - (q : Int)) = ((n - q : Nat) : Int) := by simp [IntKind.wrap, IntKind.bits, IntKind.signed]; omega
    have hmin : (if ((n - q : Nat) : Int) < 32 then ((n - q : Nat) : Int) else 32) = (j : Int) := by split <;> omega
    have hLn : L ≤ n := by omega
    clear hrec
    gi_wp2_with fail
    refine Held.wpIn_region_heldR (r := some l) (S := fun X => X.heap[nb]? = some (.cells #[.int .i64 (n : Int)] 3 (0, 0))) rfl (by kernel_rfl) (by kernel_rfl) (fun a w h => h) ?_
    change wpAnyH _ _ _ _ _ _ _ _ W.drew
    have c0_0 : W.drew.heap[nb]? = some (.cells #[.int .i64 (n : Int)] 3 (0, 0)) := i3
    refine Held.tk (v := .int .i64 (n : Int)) 1 (some 23) rfl (Held.y_load rfl rfl (by kernel_rfl) (fun X h => cell_of_one h)) c0_0 ?_
    simp only [Act.put, Z1, Z2, Z3]
    refine Held.two 0 2 (by kernel_rfl) ?_ ?_
    · refine Held.op_load 0 (some 22) 27 ⟨lb, 0, none⟩ (.slice (some ⟨g, 0, none⟩) q n) rfl rfl rfl rfl rfl (Held.run_loadVar_cell _ _ _ _ (by kernel_rfl) cl) ?_
      have c0_1 := c0_0
      refine ⟨c0_1, ?_⟩
      simp only [Act.put, Z1, Z2, Z3]
      refine Held.one 2 (by kernel_rfl) ?_
      refine Held.op_load 2 (some 24) 27 ⟨lb, 0, none⟩ (.slice (some ⟨g, 0, none⟩) q n) rfl rfl rfl rfl rfl (Held.run_loadVar_cell _ _ _ _ (by kernel_rfl) cl) ?_
      have c0_2 := c0_1
      refine ⟨c0_2, ?_⟩
      simp only [Act.put, Z1, Z2, Z3]
      refine Held.tk (v := .int .i64 (q : Int)) 3 (some 25) rfl (Held.y_len rfl rfl (by kernel_rfl)) c0_2 ?_
      simp only [Act.put, Z1, Z2, Z3]
      refine Held.tk (v := .int .i64 ((n - q : Nat) : Int)) 4 (some 26) rfl (Held.y_int rfl rfl rfl (Held.run_sub 3 .i64 hsub)) c0_2 ?_
      simp only [Act.put, Z1, Z2, Z3]
      refine Held.tk (v := .int .i64 (j : Int)) 5 (some 27) rfl (Held.y_min rfl rfl rfl hmin) c0_2 ?_
      simp only [Act.put, Z1, Z2, Z3]
      refine Held.tk (v := .slice (some ⟨p, 0, none⟩) j 32) 6 (some 28) rfl (Held.y_slice rfl (fun X => Held.run_slice_arr_h (P := Tryd.prog) 22 5 32 p j X Tryd.underlying22 (by kernel_rfl) (by omega) hj32)) c0_2 ?_
      simp only [Act.put, Z1, Z2, Z3]
      refine Held.one 7 (by kernel_rfl) ?_
      refine Held.op_append_fits 7 (some 29) 27 rfl rfl rfl rfl w.heap.size 5 .u8 1 Tryd.underlying27 info_u8 g n q (out key info q) rfl HQL.out (i2.drewN 1) W.heap.size (some ⟨p, 0, none⟩) j 32 ((piece key info (k + 1)).take j) rfl (ip.drew) L HL.out (by omega) ?_
      intro wA oA gA
      have c0_3 := Held.keep_cells c0_2 gA (by simp; omega)
      refine ⟨c0_3, ?_⟩
      simp only [Act.put, Z1, Z2, Z3]
      refine Held.one 8 (by kernel_rfl) ?_
      refine Held.op_store_box 8 none 27 lb 27 _ (.slice (some ⟨g, 0, none⟩) L n) rfl rfl rfl rfl rfl rfl (Held.keep_cells (w := W.drew) i1 gA (by simp; omega)) (by kernel_rfl) rfl rfl ?_
      intro wB lB gB
      have c0_4 := Held.keep_cells c0_3 gB (by simp; omega)
      refine ⟨c0_4, ?_⟩
      simp only [Act.put]
      refine wpAnyH_done (by kernel_rfl) ?_ _
      have cB := cell_of_one lB
      have nB := cell_of_one c0_4
      have kA := Held.others_of_grown (w := W.drew) hcs gA
      have kB := Held.others_of_grown (Held.keep_cells (w := W.drew) i1 gA (by simp; omega)) gB
      have kW : KeepsOthers W wB := KeepsOthers.trans (show KeepsOthers W wA from ⟨kA.size, kA.same⟩) kB
      have oW : Only (fun b => b = g ∨ b = lb) W wB := Only.trans (show Only _ W wA from ⟨gA.size, (Only.of_grown (w := W.drew) gA (S := fun b => b = g ∨ b = lb) (fun r e => by cases e; exact .inl rfl)).block⟩) (Only.of_grown gB (fun r e => by cases e; exact .inr rfl))
      have oB := oA.kept gB (.inr (fun e => by have e : some g = some lb := e; injection e with e; omega))
      rw [HO.out] at oB
      have bB : Below w.heap.size w wB := ((i4.drew).grown gA i4.size (fun r e => by cases e; omega)).grown gB (by have := i4.size; have := gA.size; exact Nat.le_trans (by assumption) this) (fun r e => by cases e; omega)
      by_cases hlast : L = n
      · have t1 : (decide ((L : Int) = (n : Int))) = true := by simp [hlast]
        gi_wp2_with fail
        exact ⟨kW, rfl, by rw [← hlast] at lB ⊢; exact lB, by rw [← hlast] at oB ⊢; exact oB, bB⟩
      · have t1 : ¬ ((L : Int) = (n : Int)) := by omega
        gi_wp2_with fail
        exact ⟨kW, oW, by omega, by rw [show 32 * (k + 1) = L by omega]; exact lB, by rw [show 32 * (k + 1) = L by omega]; exact oB, c0_4, bB⟩
    · refine Held.op_load 2 (some 24) 27 ⟨lb, 0, none⟩ (.slice (some ⟨g, 0, none⟩) q n) rfl rfl rfl rfl rfl (Held.run_loadVar_cell _ _ _ _ (by kernel_rfl) cl) ?_
      have c0_1 := c0_0
      refine ⟨c0_1, ?_⟩
      simp only [Act.put, Z1, Z2, Z3]
      refine Held.tk (v := .int .i64 (q : Int)) 3 (some 25) rfl (Held.y_len rfl rfl (by kernel_rfl)) c0_1 ?_
      simp only [Act.put, Z1, Z2, Z3]
      refine Held.tk (v := .int .i64 ((n - q : Nat) : Int)) 4 (some 26) rfl (Held.y_int rfl rfl rfl (Held.run_sub 3 .i64 hsub)) c0_1 ?_
      simp only [Act.put, Z1, Z2, Z3]
      refine Held.tk (v := .int .i64 (j : Int)) 5 (some 27) rfl (Held.y_min rfl rfl rfl hmin) c0_1 ?_
      simp only [Act.put, Z1, Z2, Z3]
      refine Held.tk (v := .slice (some ⟨p, 0, none⟩) j 32) 6 (some 28) rfl (Held.y_slice rfl (fun X => Held.run_slice_arr_h (P := Tryd.prog) 22 5 32 p j X Tryd.underlying22 (by kernel_rfl) (by omega) hj32)) c0_1 ?_
      simp only [Act.put, Z1, Z2, Z3]
      refine Held.one 0 (by kernel_rfl) ?_
      refine Held.op_load 0 (some 22) 27 ⟨lb, 0, none⟩ (.slice (some ⟨g, 0, none⟩) q n) rfl rfl rfl rfl rfl (Held.run_loadVar_cell _ _ _ _ (by kernel_rfl) cl) ?_
      have c0_2 := c0_1
      refine ⟨c0_2, ?_⟩
      simp only [Act.put, Z1, Z2, Z3]
      refine Held.one 7 (by kernel_rfl) ?_
      refine Held.op_append_fits 7 (some 29) 27 rfl rfl rfl rfl w.heap.size 5 .u8 1 Tryd.underlying27 info_u8 g n q (out key info q) rfl HQL.out (i2.drewN 1) W.heap.size (some ⟨p, 0, none⟩) j 32 ((piece key info (k + 1)).take j) rfl (ip.drew) L HL.out (by omega) ?_
      intro wA oA gA
      have c0_3 := Held.keep_cells c0_2 gA (by simp; omega)
      refine ⟨c0_3, ?_⟩
      simp only [Act.put, Z1, Z2, Z3]
      refine Held.one 8 (by kernel_rfl) ?_
      refine Held.op_store_box 8 none 27 lb 27 _ (.slice (some ⟨g, 0, none⟩) L n) rfl rfl rfl rfl rfl rfl (Held.keep_cells (w := W.drew) i1 gA (by simp; omega)) (by kernel_rfl) rfl rfl ?_
      intro wB lB gB
      have c0_4 := Held.keep_cells c0_3 gB (by simp; omega)
      refine ⟨c0_4, ?_⟩
      simp only [Act.put]
      refine wpAnyH_done (by kernel_rfl) ?_ _
      have cB := cell_of_one lB
      have nB := cell_of_one c0_4
      have kA := Held.others_of_grown (w := W.drew) hcs gA
      have kB := Held.others_of_grown (Held.keep_cells (w := W.drew) i1 gA (by simp; omega)) gB
      have kW : KeepsOthers W wB := KeepsOthers.trans (show KeepsOthers W wA from ⟨kA.size, kA.same⟩) kB
      have oW : Only (fun b => b = g ∨ b = lb) W wB := Only.trans (show Only _ W wA from ⟨gA.size, (Only.of_grown (w := W.drew) gA (S := fun b => b = g ∨ b = lb) (fun r e => by cases e; exact .inl rfl)).block⟩) (Only.of_grown gB (fun r e => by cases e; exact .inr rfl))
      have oB := oA.kept gB (.inr (fun e => by have e : some g = some lb := e; injection e with e; omega))
      rw [HO.out] at oB
      have bB : Below w.heap.size w wB := ((i4.drew).grown gA i4.size (fun r e => by cases e; omega)).grown gB (by have := i4.size; have := gA.size; exact Nat.le_trans (by assumption) this) (fun r e => by cases e; omega)
      by_cases hlast : L = n
      · have t1 : (decide ((L : Int) = (n : Int))) = true := by simp [hlast]
        gi_wp2_with fail
        exact ⟨kW, rfl, by rw [← hlast] at lB ⊢; exact lB, by rw [← hlast] at oB ⊢; exact oB, bB⟩
      · have t1 : ¬ ((L : Int) = (n : Int)) := by omega
        gi_wp2_with fail
        exact ⟨kW, oW, by omega, by rw [show 32 * (k + 1) = L by omega]; exact lB, by rw [show 32 * (k + 1) = L by omega]; exact oB, c0_4, bB⟩
  case done =>
    rintro D k W hD hat ⟨h0, _⟩ hDl
    have hat : (if k < 255 then some (piece key info (k + 1)) else none) = none := hat
    by_cases h : k < 255
    · rw [if_pos h] at hat; cases hat
    · omega
  case stop =>
    rintro D c k W hD ⟨rfl, i1, i2, ib⟩ hDl
    have cl := cell_of_one i1
    gi_wp2_with fail
    have ge : w.heap.size ≤ g := by omega
    have hf := (i2.fill (M := (out key info n).map (Value.int .u8)) (by rw [List.take_of_length_le]; simp [out_length key info n hn2])).done (Nat.le_refl _) (by simp [out_length key info n hn2])
    have hgD : g ≠ D := by omega
    refine ⟨by simp, .inl ⟨_, _, rfl, run_takeDeferred hDl, ?_⟩⟩
    have r9 : Row (W.putObj D (.deferred none)) g 5 .u8 (out key info n) := ⟨out_wf _ _ _, (World.putObj_heap_other hgD).trans hf⟩
    refine ⟨_, results_tmp2 rfl _ _ _, g, rfl, ge, r9, ?_⟩
    exact ib.grown (grownBy_putObj' _ D _) ib.size (fun r e => by have := c6.size; cases e; omega)
end Go.Proofs.YtjelacblnjbfgaaDoor.Hkdf
namespace Go.Proofs.YtjelacblnjbfgaaDoor.Hkdf
open Go.RowKit Go.Shelf Go.Proofs.YtjelacblnjbfgaaDoor Mem Help Go.Proofs.YtjelacblnjbfgaaDoor.Sum Sha Mac
attribute [local irreducible] wpList
def hkey (salt key info : List Int) : List Int := out (tag salt key) info 32
theorem hkey_length (salt key info : List Int) : (hkey salt key info).length = 32 := out_length _ _ _ (by omega)
theorem hkey_wf (salt key info : List Int) : ∀ z ∈ hkey salt key info, (Lit.int .u8 z).wf = true := out_wf _ _ _
theorem tag_wf (key msg : List Int) : ∀ z ∈ tag key msg, (Lit.int .u8 z).wf = true := fun z hz => wf_of_byte (tag_bytes _ _ z hz)
theorem hkey_def (salt key info : List Int) : hkey salt key info = out (tag salt key) info 32 := rfl
attribute [irreducible] hkey
set_option maxRecDepth 100000 in
set_option maxHeartbeats 1000000 in
theorem extract_any (B B' : Nat) (A A' : Option Addr) (n c n' c' : Nat) (salt key : List Int) (w : World) (h : Ints w .u8 B A n salt) (hB : B ≤ w.heap.size) (hc : n ≤ c) (hc' : c ≤ maxLen) (hn : n ≤ 274877906944)
    (h' : Ints w .u8 B' A' n' key) (hB' : B' ≤ w.heap.size) (hd : n' ≤ c') (hd' : c' ≤ maxLen) (hn' : n' ≤ 274877906944) (hT0 : Tab w 2 Sum.H0) (hT1 : Tab w 3 Sum.K) :
    Calls Tryd.prog 63 #[.slice A n c, .slice A' n' c'] w fun e w' => e = .returned (.agg (arr .u8 (tag salt key))) ∧ Below w.heap.size w w' := by
  go_enter Tryd.func63, Tryd.ntmps63
  go_wp2_with (refine wpList_alloc_Row rfl 22 rfl .u8 32 zero_32 ?_; intro w1 r1 g1 z1)
  have b1 : Below w.heap.size w w1 := (Below.refl _ w).grown g1 (Nat.le_refl _) (by simp)
  have l1 := r1.lt
  refine (tag_one w1 B B' A A' n c n' c' 1 salt key (h.below (b1.mono hB)) (by omega) hc hc' (by omega) (h'.below (b1.mono hB')) (by omega) hd hd' (by omega) (hT0.below b1 hT0.lt) (hT1.below b1 hT1.lt)).mono ?_
  rintro e w2 ⟨rfl, hb2⟩
  have b2 := b1.trans (hb2.mono b1.size)
  have r2 := r1.below hb2 l1
  clear hb2 b1 r1 g1 z1
  go_wp2_with (refine wpList_store_RowTo rfl 22 _ _ rfl w.heap.size rfl 22 .u8 _ (tag salt key) rfl r2 32 info_32 (tag_length _ _) (by simp) (tag_wf _ _) ?_; intro w3 r3 g3 z3)
  exact bodyPost_ret (results_Row rfl _ _ w.heap.size _ _ _ rfl r3 32 5 Tryd.underlying22 info_32 (tag_length _ _)) rfl ⟨rfl, b2.grown g3 b2.size (fun r e => by cases e; exact Nat.le_refl _)⟩
theorem expand_32 (key info : List Int) (hk : key.length = 32) (hkb : ∀ z ∈ key, (Lit.int .u8 z).wf = true) (B : Nat) (A : Option Addr) (m c : Nat) (w : World) (hi : Ints w .u8 B A m info) (hB : B ≤ w.heap.size) (hmc : m ≤ c) (hcm : c ≤ maxLen) (hm : m ≤ 274877906944)
    (hT0 : Tab w 2 Sum.H0) (hT1 : Tab w 3 Sum.K) :
    Calls Tryd.prog 62 #[.agg (arr .u8 key), .slice A m c, .int .i64 32] w fun e w' => ∃ g, e = .returned (.tuple #[.slice (some ⟨g, 0, none⟩) 32 32, .int .i64 0]) ∧ w.heap.size ≤ g ∧ Row w' g 5 .u8 (out key info 32) ∧ Below w.heap.size w w' :=
  expand_any key info hk hkb B A m c 32 w hi hB hmc hcm hm (by omega) (by omega) hT0 hT1
theorem over_32 (xs : List Int) (h : xs.length = 32) : laidOver (List.replicate 32 0) 0 xs = xs := by
  rw [laidOver, List.take_zero, List.nil_append, Nat.zero_add, h, List.drop_of_length_le (by simp), List.append_nil]
set_option maxRecDepth 100000 in
set_option maxHeartbeats 2000000 in
theorem key_any (B B' B2 : Nat) (A A' A2 : Option Addr) (n c n' c' m c2 : Nat) (salt key info : List Int) (w : World) (h : Ints w .u8 B A n salt) (hB : B ≤ w.heap.size) (hc : n ≤ c) (hc' : c ≤ maxLen) (hn : n ≤ 274877906944)
    (h' : Ints w .u8 B' A' n' key) (hB' : B' ≤ w.heap.size) (hd : n' ≤ c') (hd' : c' ≤ maxLen) (hn' : n' ≤ 274877906944) (h2 : Ints w .u8 B2 A2 m info) (hB2 : B2 ≤ w.heap.size) (hmc : m ≤ c2) (hcm : c2 ≤ maxLen) (hm : m ≤ 274877906944)
    (hT0 : Tab w 2 Sum.H0) (hT1 : Tab w 3 Sum.K) :
    Calls Tryd.prog 42 #[.slice A n c, .slice A' n' c', .slice A2 m c2] w fun e w' => e = .returned (.agg (arr .u8 (hkey salt key info))) ∧ Below w.heap.size w w' := by
  have hsl := fun W g => run_slice_arr_all (P := Tryd.prog) 22 5 32 g W Tryd.underlying22 (by kernel_rfl) (by omega)
  go_enter Tryd.func42, Tryd.ntmps42
  go_wp2_with (first
    | (refine wpList_alloc_Row (w := w) rfl 22 rfl .u8 32 zero_32 ?_; intro w1 r1 g1 z1)
    | (refine wpList_alloc_Row (w := w1) rfl 22 rfl .u8 32 zero_32 ?_; intro w2 r2 g2 z2))
  have b2 : Below w.heap.size w w2 := ((Below.refl _ w).grown g1 (Nat.le_refl _) (by simp)).grown g2 g1.size (by simp)
  obtain ⟨g, hg⟩ : ∃ g, w1.heap.size = g := ⟨_, rfl⟩
  have hgw : w.heap.size < g := by rw [← hg]; exact r1.lt
  rw [hg] at r2 ⊢
  have r12 := r1.grown g2 (by simp)
  clear hg r1 g1 g2 z1 z2
  refine (extract_any B B' A A' n c n' c' salt key w2 (h.below (b2.mono hB)) (by have := b2.size; omega) hc hc' hn (h'.below (b2.mono hB')) (by have := b2.size; omega) hd hd' hn' (hT0.below b2 hT0.lt) (hT1.below b2 hT1.lt)).mono ?_
  rintro e w3 ⟨rfl, hb3⟩
  have b3 := b2.trans (hb3.mono b2.size)
  have q2 := r2.below hb3 r2.lt
  have q1 := r12.below hb3 r12.lt
  clear hb3 b2 r2 r12
  go_wp2_with fail
  refine (expand_32 (tag salt key) info (tag_length _ _) (tag_wf _ _) B2 A2 m c2 w3 (h2.below (b3.mono hB2)) (by have := b3.size; omega) hmc hcm hm (hT0.below b3 hT0.lt) (hT1.below b3 hT1.lt)).mono ?_
  rintro e w4 ⟨ga, rfl, hga, ra, hb4⟩
  have b4 := b3.trans (hb4.mono b3.size)
  have p2 := q2.below hb4 q2.lt
  have p1 := q1.below hb4 q1.lt
  have hgl := q2.lt
  have HO := Lib.hid (out_length (tag salt key) info 32 (by omega))
  have ia := ra.ints (n := 32) (by rw [HO.out]; omega)
  rw [List.take_of_length_le (by rw [HO.out]; omega)] at ia
  have HW := Lib.hid (out_wf (tag salt key) info 32)
  clear hb4 b3 q2 q1 ra
  have hfold : out (tag salt key) info 32 = hkey salt key info := (hkey_def _ _ _).symm
  rw [hfold] at ia HO HW
  obtain ⟨ks, hks⟩ : ∃ ks, hkey salt key info = ks := ⟨_, rfl⟩
  rw [hks] at ia HO HW
  have HKS := Lib.hid hks
  clear hfold hks
  go_wp2_with (first
    | (refine wpList_copy_Row (w := w4) rfl _ _ 27 27 rfl 5 Tryd.underlying27 (by kernel_rfl) g 0 32 32 w4.heap.size (some ⟨ga, 0, none⟩) 32 32 rfl rfl 22 .u8 _ ks p2 ia (by simp) ?_; intro w5 r5 g5 z5; rw [List.take_of_length_le (by rw [HO.out]; omega), over_32 _ HO.out] at r5; have p15 := p1.grown g5 (by intro e; injection e with e; omega))
    | (refine wpList_load_Row (w := w5) rfl 22 _ rfl g rfl 22 .u8 _ r5 32 5 Tryd.underlying22 info_32 HO.out ?_)
    | (refine wpList_store_RowTo (w := w5) rfl 22 _ _ rfl w.heap.size rfl 22 .u8 _ ks rfl p15 32 info_32 HO.out (by simp) HW.out ?_; intro w6 r6 g6 z6))
  have b6 : Below w.heap.size w w6 := (b4.grown g5 b4.size (fun r e => by cases e; omega)).grown g6 (by have := b4.size; have := g5.size; omega) (fun r e => by cases e; exact Nat.le_refl _)
  exact bodyPost_ret (results_Row rfl _ _ w.heap.size _ _ _ rfl r6 32 5 Tryd.underlying22 info_32 HO.out) rfl ⟨by rw [HKS.out], b6⟩
end Go.Proofs.YtjelacblnjbfgaaDoor.Hkdf
namespace Go.Proofs.YtjelacblnjbfgaaDoor.Held
open Go.RowKit Mem
theorem op_copy_Row {P : Program} {ops : Array Oper} {Q : Exit → Act → World → Prop} (i : Nat) (dst : Option Tmp) {o : Oper} {a : Act} {w : World} {K : Act → World → Prop} {d s : Operand} (dT sT : TypeId) (hi : ops[i]? = some o) (hdst : o.dst = dst) (hw : Region.wanted o (yielded ops a.tmps) = true)
    (ho : o.op = .call { callee := .builtin .copy, args := #[d, s], argTypes := #[dT, sT] }) (e : TypeId) (hu : P.underlying dT = some (.slice e)) (hsz : (P.info? e).map (·.size) = some 1)
    (g off dLen dCap : Nat) (B : Nat) (A : Option Addr) (sLen sCap : Nat) (hd : a.eval d = .slice (some ⟨g, off, none⟩) dLen dCap) (hs : a.eval s = .slice A sLen sCap)
    (t : TypeId) (k : IntKind) (cur xs : List Int) (hr : Row w g t k cur) (hx : Ints w k B A sLen xs) (hfit : off + dLen ≤ cur.length)
    (h : ∀ w', Row w' g t k (laidOver cur off (xs.take (min sLen dLen))) → w.grownBy w' (some g) → K (a.put dst (.int .i64 ((min sLen dLen : Nat) : Int))) w') : wpOp P ops Q i K a w := by
  subst hdst
  refine op_wp i hi hw ?_
  obtain ⟨m, hm⟩ : ∃ m, min sLen dLen = m := ⟨_, rfl⟩
  rw [hm] at h
  have hlen : (xs.take m).length = m := by rw [List.length_take, hx.1]; omega
  by_cases h0 : m = 0
  · subst h0
    have hrun := run_copy_none (P := P) w dT sT o.type e (some ⟨g, off, none⟩) A dLen dCap sLen sCap hu hsz hm
    unfold Oper.wp
    simp [execOp, ho, resolve, invoke, builtin, hd, hs, hrun, Result.andThen]
    exact h w (by rw [List.take_zero, laidOver_nil]; exact hr) (World.grownBy.refl _ _)
  · obtain ⟨b, o2, rfl, _, hc⟩ := hx.2.2 (by omega)
    have hrun := run_copy_row (P := P) w dT sT o.type e g off dLen dCap ⟨b, o2, none⟩ sLen sCap (cur.map (Value.int k)).toArray t ((xs.take m).map (Value.int k)) hu hsz hr.2 (by rw [List.length_map, hlen]; exact hm.symm)
      (fun j v hv => by
        have hj : j < m := by
          have := (List.getElem?_eq_some_iff.1 hv).1
          rw [List.length_map, hlen] at this
          exact this
        have e1 : (Addr.mk b o2 none).add j = ⟨b, o2 + j, none⟩ := by unfold Addr.add; split <;> simp_all
        rw [e1, hc j (by omega), ← hv]
        simp [List.getD_eq_getElem?_getD, hj, show j < xs.length by have := hx.1; omega])
      (by simp [hx.1]; omega) (by intro v hv; obtain ⟨z, _, rfl⟩ := List.mem_map.1 hv; rfl)
    have hcells : (((cur.map (Value.int k)).toArray.toList.take off ++ ((xs.take m).map (Value.int k) ++ (cur.map (Value.int k)).toArray.toList.drop (off + ((xs.take m).map (Value.int k)).length)))).toArray = arr k (laidOver cur off (xs.take m)) := by
      rw [List.length_map, hlen]
      simp [arr, laidOver, List.map_take, List.map_drop, hlen]
    have hrun' : (Builtin.copy_ #[dT, sT] o.type #[.slice (some ⟨g, off, none⟩) dLen dCap, .slice (some ⟨b, o2, none⟩) sLen sCap]).run P w = .ok (.int .i64 (m : Int)) (w.setRow g (arr k (laidOver cur off (xs.take m)))) := by
      rw [← hcells]
      have := hrun
      rw [List.length_map, hlen, List.append_assoc] at this
      rw [List.length_map, hlen]
      exact this
    unfold Oper.wp
    simp [execOp, ho, resolve, invoke, builtin, hd, hs, hrun', Result.andThen]
    exact h _ (hr.setRow (fun z hz => by
      rcases laidOver_mem hz with h1 | h1
      · exact hr.1 z h1
      · exact hx.2.1 z (List.mem_of_mem_take h1))) (grown_setRow _ _ _)
end Go.Proofs.YtjelacblnjbfgaaDoor.Held
namespace Go.Proofs.YtjelacblnjbfgaaDoor.Mem
open Go.RowKit Go.Shelf
theorem run_store_elem {P : Program} {w : World} (ty : TypeId) (g i : Nat) (u v : Value) (hc : w.cell? ⟨g, i, none⟩ = some u) (hf : w.frozen? ⟨g, i, none⟩ = false) (hsz : (P.info? ty).map (·.size) = some 1) (h1 : v.cells = #[v]) (ho1 : v.oneCell' = true) :
    (storeVar ty ⟨g, i, none⟩ v).run P w = .ok () (w.setCell ⟨g, i, none⟩ v) := by
  have hz : (sizeOf ty).run P w = .ok 1 w := by
    cases hq : P.info? ty with
    | none => simp [hq] at hsz
    | some q => simp [hq] at hsz; simp [sizeOf, typeInfo, hq, hsz]
  have ea : (Addr.mk g i none).add 0 = ⟨g, i, none⟩ := by unfold Addr.add; split <;> simp_all
  simp [storeVar, hz, h1, Sem.run_bind, Result.andThen, storeCells, run_store P w _ v _ ho1, ea, hc, hf]
theorem wpList_store_elem {P : Program} {ops : Array Oper} {rest : List Oper} {o : Oper} {a : Act} {w : World} {Q : Exit → Act → World → Prop} (hgd : o.guard = none) (ty : TypeId) (x y : Operand) (ho : o.op = .store ty x y) (g i : Nat) (hx : a.eval x = .pointer (some ⟨g, i, none⟩)) (t : TypeId) (k : IntKind) (zs : List Int) (z : Int) (hy : a.eval y = .int k z)
    (hr : Row w g t k zs) (hi : i < zs.length) (hsz : (P.info? ty).map (·.size) = some 1) (hz : (Lit.int k z).wf = true)
    (h : ∀ w', Row w' g t k (zs.set i z) → w.grownBy w' (some g) → Hid (w'.heap.size = w.heap.size) → wpList P ops Q rest (a.put o.dst undef) w') : wpList P ops Q (o :: rest) a w := by
  refine wpList_plain hgd fun K hK => ?_
  unfold Oper.wp execOp
  simp only [ho, hx, hy, Instr.storeAt, Instr.sureAddr, Sem.run_bind, Sem.run_pure, Result.andThen_ok, run_store_elem ty g i _ (.int k z) (hr.cell hi) (hr.frozen i) hsz rfl rfl]
  exact hK _ _ (h _ (hr.set i hz) (grown_setCell _ _ _ _) (Lib.hid (by simp [World.setCell])))
end Go.Proofs.YtjelacblnjbfgaaDoor.Mem
namespace Go.Proofs.YtjelacblnjbfgaaDoor.Held
open Go.RowKit Mem
section
variable {P : Program}
theorem run_addr_arr (t e : TypeId) (n g i : Nat) (k : IntKind) (ht : P.underlying t = some (.array n e)) (hs : (P.info? e).map (·.size) = some 1) (hi : i < n) (w : World) :
    (Instr.indexAt t (.pointer (some ⟨g, 0, none⟩)) (.int k (i : Int))).run P w = .ok (.pointer (some ⟨g, i, none⟩)) w := by
  have he : P.elem t = e := by simp [Program.elem, ht]
  have hl : P.arrayLen t = n := by simp [Program.arrayLen, ht]
  have hz : (sizeOf e).run P w = .ok 1 w := by
    cases hq : P.info? e with
    | none => simp [hq] at hs
    | some q => simp [hq] at hs; simp [sizeOf, typeInfo, hq, hs]
  have ea : (Addr.mk g 0 none).add i = ⟨g, i, none⟩ := by unfold Addr.add; split <;> simp_all
  rw [run_indexAt_array w t ⟨g, 0, none⟩ k (i : Int) (by rw [he, hl]; exact ht), he, hl, if_pos ⟨by omega, by omega⟩, hz]
  simp [Result.andThen, ea]
theorem run_addr_slice (t e : TypeId) (b off len cap i : Nat) (k : IntKind) (ht : P.underlying t = some (.slice e)) (hs : (P.info? e).map (·.size) = some 1) (hi : i < len) (w : World) :
    (Instr.indexAt t (.slice (some ⟨b, off, none⟩) len cap) (.int k (i : Int))).run P w = .ok (.pointer (some ⟨b, off + i, none⟩)) w := by
  have he : P.elem t = e := by simp [Program.elem, ht]
  have hz : (sizeOf e).run P w = .ok 1 w := by
    cases hq : P.info? e with
    | none => simp [hq] at hs
    | some q => simp [hq] at hs; simp [sizeOf, typeInfo, hq, hs]
  have ea : (Addr.mk b off none).add i = ⟨b, off + i, none⟩ := by unfold Addr.add; split <;> simp_all
  rw [run_indexAt_slice w t ⟨b, off, none⟩ len cap k (i : Int) (by rw [he]; exact ht), he, if_pos ⟨by omega, by omega⟩, hz]
  simp [Result.andThen, ea]
theorem run_mul (t : TypeId) (k : IntKind) {a b r : Int} (hr : k.wrap (a * b) = r) (w : World) : (binOp .mul t (.int k a) (.int k b)).run P w = .ok (.int k r) w := by simp [binOp, Op.intArith, hr]
end
section
variable {P : Program} {S : World → Prop} {ρ : Operand → Value} {o : Oper}
theorem y_addr {t : TypeId} {x ix : Operand} {u v r : Value} (ho : o.op = .indexAddr t x ix) (hx : ρ x = u) (hi : ρ ix = v) (hr : ∀ w, (Instr.indexAt t u v).run P w = .ok r w) : ∀ w, S w → (execOp ρ o).run P w = .ok (.value r) w := fun w _ => by
  simp [execOp, ho, hx, hi, hr w]
end
theorem run_bitop {P : Program} {op : BinOp} (hop : op = .xor ∨ op = .or ∨ op = .and) (t : TypeId) (k : IntKind) {a b r : Int} (hr : bits op k a b = r) (w : World) : (binOp op t (.int k a) (.int k b)).run P w = .ok (.int k r) w := by
  subst hr; rcases hop with rfl | rfl | rfl <;> simp [binOp, Op.intBits, bits]
theorem run_shr {P : Program} (t : TypeId) (k k' : IntKind) {a r : Int} (n : Nat) (hn : n ≤ k.bits) (hr : a / 2 ^ n = r) (w : World) : (binOp .shr t (.int k a) (.int k' (n : Int))).run P w = .ok (.int k r) w := by
  subst hr
  rw [binOp_shr, shift_shr k k' a (n : Int) (by omega) (by omega), Int.toNat_natCast]
  rfl
end Go.Proofs.YtjelacblnjbfgaaDoor.Held
namespace Go.Proofs.YtjelacblnjbfgaaDoor.Held
open Go.RowKit Mem
theorem wpList_store_box {P : Program} {ops : Array Oper} {rest : List Oper} {o : Oper} {a : Act} {w : World} {Q : Exit → Act → World → Prop} (hw : Region.wanted o (yielded ops a.tmps) = true) (ty : TypeId) (x y : Operand) (ho : o.op = .store ty x y) (g : Nat) (hx : a.eval x = .pointer (some ⟨g, 0, none⟩)) (t : TypeId) (old v : Value) (hy : a.eval y = v)
    (hb : w.heap[g]? = some (.cells #[old] t (0, 0))) (hsz : (P.info? ty).map (·.size) = some 1) (h1 : v.cells = #[v]) (ho1 : v.oneCell' = true)
    (h : ∀ w', w'.heap[g]? = some (.cells #[v] t (0, 0)) → w.grownBy w' (some g) → wpList P ops Q rest (a.put o.dst undef) w') : wpList P ops Q (o :: rest) a w :=
  wpList_step fun _ hK => by
    rw [if_pos hw]
    unfold Oper.wp execOp
    simp only [ho, hx, hy, Instr.storeAt, Instr.sureAddr, Sem.run_bind, Sem.run_pure, Result.andThen_ok, run_store_box ty g t old v hb hsz h1 ho1]
    exact hK _ _ (h _ (one_setCell hb) (grown_setCell _ _ _ _))
theorem row_form {w : World} {base : Nat} {e : TypeId} {s n : Nat} {v : Value} {xs : List Value} (h : w.ownsRow base e s v n xs) : ∃ A c, v = .slice A n c ∧ n ≤ c ∧ c ≤ maxLen := by
  rcases h.2 with ⟨rfl, hn⟩ | ⟨g, cap, cur, rfl, _, _, h1, h2, _⟩
  · exact ⟨none, 0, by rw [hn], by omega, by simp [maxLen]⟩
  · exact ⟨_, cap, rfl, h1, h2⟩
theorem wpList_alloc_cell {P : Program} {ops : Array Oper} {rest : List Oper} {o : Oper} {a : Act} {w : World} {Q : Exit → Act → World → Prop} (hw : Region.wanted o (yielded ops a.tmps) = true) (ty : TypeId) (ho : o.op = .alloc ty) (z : Value) (hz : (P.info? ty).bind (·.zero) = some z) (h1 : z.cells = #[z])
    (h : ∀ w', w'.heap[w.heap.size]? = some (.cells #[z] ty (0, 0)) → w.grownBy w' none → Hid (w'.heap.size = w.heap.size + 1) → wpList P ops Q rest (a.put o.dst (.pointer (some ⟨w.heap.size, 0, none⟩))) w') : wpList P ops Q (o :: rest) a w :=
  wpList_step fun _ hK => by
    rw [if_pos hw]
    unfold Oper.wp execOp
    simp only [ho, run_alloc_one ty z hz h1, Sem.run_bind, Sem.run_pure, Result.andThen_ok]
    exact hK _ _ (h _ (heap_alloc_new w _) (World.grownBy_alloc w _ none) (Lib.hid (by simp)))
theorem range_below {B : Nat} {w w' : World} {b o : Nat} {cs : List Value} (h : w.rangeAt b o cs) (hb : Below B w w') (hB : b < B) : w'.rangeAt b o cs := fun j v hv => (hb.cell (p := ⟨b, o + j, none⟩) hB).trans (h j v hv)
end Go.Proofs.YtjelacblnjbfgaaDoor.Held
namespace Go.Proofs.YtjelacblnjbfgaaDoor.Po
open Go.Proofs.YtjelacblnjbfgaaDoor.Sum
def val : List Int → Int
  | [] => 0
  | x :: xs => x + 256 * val xs
def digits (n : Int) : Nat → List Int
  | 0 => []
  | k + 1 => n % 256 :: digits (n / 256) k
def carried (c : Int) : List Int → List Int
  | [] => []
  | x :: xs => (c + x) % 256 :: carried ((c + x) / 256) xs
theorem digits_length : ∀ (k : Nat) (n : Int), (digits n k).length = k
  | 0, _ => rfl
  | k + 1, n => by rw [digits, List.length_cons, digits_length k]
theorem digits_bytes : ∀ (k : Nat) (n : Int), Bs (digits n k)
  | 0, _ => fun z hz => by cases hz
  | k + 1, n => fun z hz => by
    rcases List.mem_cons.1 hz with rfl | h
    · omega
    · exact digits_bytes k _ z h
theorem val_digits : ∀ (k : Nat) (n : Int), val (digits n k) = n % 256 ^ k
  | 0, n => by simp [digits, val]
  | k + 1, n => by
    rw [digits, val, val_digits k, Int.pow_succ, Int.mul_comm (256 ^ k) 256]
    have hN : (0 : Int) < 256 ^ k := Int.pow_pos (by omega)
    generalize (256 : Int) ^ k = N at hN ⊢
    have h1 := Int.emod_nonneg (n / 256) (show N ≠ 0 by omega)
    have h2 := Int.emod_lt_of_pos (n / 256) hN
    have h3 := Int.mul_ediv_add_emod (n / 256) N
    have h4 : n = (n % 256 + 256 * (n / 256 % N)) + 256 * N * (n / 256 / N) := by
      rw [Int.mul_assoc]
      omega
    have h5 : n % (256 * N) = (n % 256 + 256 * (n / 256 % N)) % (256 * N) := by
      conv => lhs; rw [h4]
      rw [Int.add_mul_emod_self_left]
    rw [h5]
    exact (Int.emod_eq_of_lt (by omega) (by omega)).symm
theorem val_nonneg : ∀ {xs : List Int}, (∀ x ∈ xs, 0 ≤ x) → 0 ≤ val xs
  | [], _ => Int.le_refl _
  | x :: xs, h => by
    have h1 := h x List.mem_cons_self
    have h2 := val_nonneg (xs := xs) fun y hy => h y (List.mem_cons_of_mem _ hy)
    rw [val]
    omega
theorem val_lt : ∀ {xs : List Int}, Bs xs → val xs < 256 ^ xs.length
  | [], _ => by simp [val]
  | x :: xs, h => by
    have h1 := h x List.mem_cons_self
    have h2 := val_lt (xs := xs) fun y hy => h y (List.mem_cons_of_mem _ hy)
    rw [val, List.length_cons, Int.pow_succ]
    omega
theorem digits_get : ∀ (k : Nat) (n : Int) (i : Nat), i < k → (digits n k).getD i 0 = n / 256 ^ i % 256
  | 0, _, _, h => absurd h (by omega)
  | k + 1, n, 0, _ => by simp [digits]
  | k + 1, n, i + 1, h => by
    rw [digits, List.getD_cons_succ, digits_get k _ i (by omega), Int.pow_succ, Int.mul_comm (256 ^ i) 256, Int.ediv_ediv_of_nonneg (by omega : (0 : Int) ≤ 256)]
def modulus : Int := 2 ^ 130 - 5
def clampAt (key : List Int) (i : Nat) : Int := if i % 4 = 3 then key.getD i 0 % 16 else if i = 4 ∨ i = 8 ∨ i = 12 then key.getD i 0 / 4 * 4 else key.getD i 0
def clamp (key : List Int) : List Int := (List.range 16).map (clampAt key)
def step (r a : Int) (piece : List Int) : Int := (a + val (piece ++ [1])) * r % modulus
def acc (r : Int) (m : List Int) : Nat → Int
  | 0 => 0
  | k + 1 => step r (acc r m k) ((m.drop (16 * k)).take 16)
def count (m : List Int) : Nat := (m.length + 15) / 16
def poly (key msg : List Int) : List Int := digits (acc (val (clamp key)) msg (count msg) + val ((key.drop 16).take 16)) 16
theorem val_append : ∀ (xs ys : List Int), val (xs ++ ys) = val xs + 256 ^ xs.length * val ys
  | [], ys => by simp [val]
  | x :: xs, ys => by
    rw [List.cons_append, val, val, val_append xs ys, List.length_cons, Int.pow_succ, Int.mul_comm (256 ^ xs.length) 256, Int.mul_assoc]
    omega
theorem clampAt_bound {key : List Int} (h : Bs key) (i : Nat) : 0 ≤ clampAt key i ∧ clampAt key i ≤ 255 := by
  have := h.at_ i
  unfold clampAt
  split
  · omega
  · split <;> omega
theorem clamp_bytes {key : List Int} (h : Bs key) : Bs (clamp key) := fun z hz => by
  obtain ⟨i, _, rfl⟩ := List.mem_map.1 hz
  exact clampAt_bound h i
theorem poly_length (key msg : List Int) : (poly key msg).length = 16 := digits_length _ _
theorem poly_bytes (key msg : List Int) : Bs (poly key msg) := digits_bytes _ _
theorem clamp_length (key : List Int) : (clamp key).length = 16 := by simp [clamp]
end Go.Proofs.YtjelacblnjbfgaaDoor.Po
