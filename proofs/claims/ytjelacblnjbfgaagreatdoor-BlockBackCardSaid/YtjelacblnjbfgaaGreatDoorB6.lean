/-
  Operations of a drawn region, one by one: min, len, s[:h] of an array, append within the room, a store into a box; what a row is to a step that touches no cells: no program here.
  The function Expand of package hkdf by its contract.
  The functions Extract and Key of package hkdf by their contracts.
  The document's own Pad by its contract.
-/
import Derived.Test.YtjelacblnjbfgaaGreatDoorB5
import Derived.OneCell
import Derived.Laws.Small
import Derived.Test.YtjelacblnjbfgaaGreatDoorB3
import Derived.Great.BuildSlice
set_option linter.unusedVariables false
namespace Go.Proofs.YtjelacblnjbfgaaGreatDoor.Held
open Go.RowKit Mem
theorem run_slice_arr_h {P : Program} (t e : TypeId) (n g h : Nat) (w : World) (ht : P.underlying t = some (.array n e)) (hs : (P.info? e).map (·.size) = some 1) (h0 : 0 < n) (hn : h ≤ n) :
    (Instr.sliceAt t (.pointer (some ⟨g, 0, none⟩)) none (some (.int .i64 (h : Int))) none).run P w = .ok (.slice (some ⟨g, 0, none⟩) h n) w := by
  have hz : (sizeOf e).run P w = .ok 1 w := by
    cases hq : P.info? e with
    | none => simp [hq] at hs
    | some q => simp [hq] at hs; simp [sizeOf, typeInfo, hq, hs]
  have ea : (Addr.mk g 0 none).add 0 = ⟨g, 0, none⟩ := by unfold Addr.add; split <;> simp_all
  simp [Instr.sliceAt, Instr.sureAddr, run_underlying ht, Instr.sliceBounds, run_sliceBound, hz, Sem.run_bind, Result.andThen, ea, (by omega : (h : Int) ≤ n)]
section
variable {P : Program} {S : World → Prop} {ρ : Operand → Value} {o : Oper}
theorem y_min {x y : Operand} {k : IntKind} {a b r : Int} {ts : Array TypeId} (ho : o.op = .call { callee := .builtin .min, args := #[x, y], argTypes := ts }) (hx : ρ x = .int k a) (hy : ρ y = .int k b) (hr : (if b < a then b else a) = r) :
    ∀ w, S w → (execOp ρ o).run P w = .ok (.value (.int k r)) w := fun w _ => by
  unfold execOp
  simp [ho, resolve, invoke, builtin, hx, hy, run_min_int2, hr]
end
section
variable {P : Program} {ops : Array Oper} {Q : Exit → Act → World → Prop}
theorem op_append_fits (i : Nat) (d : Option Tmp) {o : Oper} {a : Act} {w : World} {K : Act → World → Prop} {s x : Operand} (ts : TypeId) (hi : ops[i]? = some o) (hd : o.dst = d) (hw : Region.wanted o (yielded ops a.tmps) = true)
    (ho : o.op = .call { callee := .builtin .append, args := #[s, x], argTypes := #[ts, ts] }) (base : Nat) (e : TypeId) (k : IntKind) (bytes : Nat) (ht : P.underlying ts = some (.slice e))
    (hinfo : (P.info? e).map (fun i => (i.zero, i.size, i.bytes)) = some (some (.int k 0), 1, bytes)) (g cap len : Nat) (zs : List Int) (hs : a.eval s = .slice (some ⟨g, 0, none⟩) len cap) (hl : zs.length = len)
    (hown : Mem.Own w base e k (.slice (some ⟨g, 0, none⟩) len cap) zs) (B : Nat) (A : Option Addr) (m c : Nat) (xs : List Int) (hx : a.eval x = .slice A m c) (hr : Ints w k B A m xs) (L : Nat) (hL : len + m = L) (hfit : L ≤ cap)
    (h : ∀ w', Mem.Own w' base e k (.slice (some ⟨g, 0, none⟩) L cap) (zs ++ xs) → w.grownBy w' (some g) → K (a.put d (.slice (some ⟨g, 0, none⟩) L cap)) w') : wpOp P ops Q i K a w := by
  subst hd
  subst hl
  subst hL
  refine op_wp i hi hw ?_
  obtain ⟨w', hrun, h2, h3⟩ := run_append_ints_fits (P := P) w base ts o.type e k bytes ht hinfo g cap zs hown B A m c xs hr hfit
  exact Lib.wp_append_run w s x ts ts ho _ _ hs hx _ w' hrun (h w' h2 h3)
theorem op_store_box (i : Nat) (d : Option Tmp) {o : Oper} {a : Act} {w : World} {K : Act → World → Prop} (ty : TypeId) {x y : Operand} (g : Nat) (t : TypeId) (old v : Value) (hi : ops[i]? = some o) (hd : o.dst = d) (hw : Region.wanted o (yielded ops a.tmps) = true)
    (ho : o.op = .store ty x y) (hx : a.eval x = .pointer (some ⟨g, 0, none⟩)) (hy : a.eval y = v) (hb : w.heap[g]? = some (.cells #[old] t (0, 0))) (hsz : (P.info? ty).map (·.size) = some 1) (h1 : v.cells = #[v]) (ho1 : v.oneCell' = true)
    (h : ∀ w', w'.heap[g]? = some (.cells #[v] t (0, 0)) → w.grownBy w' (some g) → K (a.put d undef) w') : wpOp P ops Q i K a w := by
  subst hd
  refine op_wp i hi hw ?_
  have hz : (sizeOf ty).run P w = .ok 1 w := by
    cases hq : P.info? ty with
    | none => simp [hq] at hsz
    | some q => simp [hq] at hsz; simp [sizeOf, typeInfo, hq, hsz]
  have ea : (Addr.mk g 0 none).add 0 = ⟨g, 0, none⟩ := by unfold Addr.add; split <;> simp_all
  have hrun : (storeVar ty ⟨g, 0, none⟩ v).run P w = .ok () (w.setCell ⟨g, 0, none⟩ v) := by
    simp [storeVar, hz, h1, Sem.run_bind, Result.andThen, storeCells, run_store P w _ v _ ho1, ea, cell_of_one hb, free_of_one hb]
  unfold Oper.wp execOp
  simp only [ho, hx, hy, Instr.storeAt, Instr.sureAddr, Sem.run_bind, Sem.run_pure, Result.andThen_ok, hrun]
  exact h _ (one_setCell hb) (grown_setCell _ _ _ _)
end
section
variable {F : Fence} {n : Nat} {P : Program} {ops : Array Oper} {rest : List Oper} {o : Oper} {a : Act} {w : World} {Q : Exit → Act → World → Prop}
theorem wpListIn_box_cell (hw : Region.wanted o (yielded ops a.tmps) = true) (ty : TypeId) (x : Operand) (ho : o.op = .box ty x) (v : Value) (hx : a.eval x = v) (h1 : v.cells = #[v])
    (h : ∀ w', w'.heap[w.heap.size]? = some (.cells #[v] ty (0, 0)) → w.grownBy w' none → Hid (w'.heap.size = w.heap.size + 1) → wpListIn F n P ops Q rest (a.put o.dst (.pointer (some ⟨w.heap.size, 0, none⟩))) w') : wpListIn F n P ops Q (o :: rest) a w := by
  refine wpListIn_step fun K hK => ?_
  rw [if_pos hw]
  unfold Oper.wpIn
  refine ⟨fun f hf => by simp [Oper.about, ho] at hf, ?_⟩
  rw [Oper.semAt_plain F _ _ (by rw [ho]; intro c hc'; cases hc')]
  unfold execOp
  simp only [ho, hx, Sem.run_bind, Instr.box, newVar, newRow, run_newObj_alloc, Sem.run_pure, Result.andThen_ok, h1]
  exact hK _ _ (h _ (heap_alloc_new w _) (World.grownBy_alloc w _ none) (Lib.hid (by simp)))
theorem wpList_box_cell (hgd : o.guard = none) (ty : TypeId) (x : Operand) (ho : o.op = .box ty x) (v : Value) (hx : a.eval x = v) (h1 : v.cells = #[v])
    (h : ∀ w', w'.heap[w.heap.size]? = some (.cells #[v] ty (0, 0)) → w.grownBy w' none → Hid (w'.heap.size = w.heap.size + 1) → wpList P ops Q rest (a.put o.dst (.pointer (some ⟨w.heap.size, 0, none⟩))) w') : wpList P ops Q (o :: rest) a w := by
  refine wpList_plain hgd fun K hK => ?_
  unfold Oper.wp execOp
  simp only [ho, hx, Sem.run_bind, Instr.box, newVar, newRow, run_newObj_alloc, Sem.run_pure, Result.andThen_ok, h1]
  exact hK _ _ (h _ (heap_alloc_new w _) (World.grownBy_alloc w _ none) (Lib.hid (by simp)))
theorem run_alloc_one {P : Program} (ty : TypeId) (z : Value) (hz : (P.info? ty).bind (·.zero) = some z) (h1 : z.cells = #[z]) (v : Value) (w : World) :
    (Instr.alloc ty true v).run P w = .ok (.pointer (some ⟨w.heap.size, 0, none⟩)) (w.alloc (.cells #[z] ty)) := by
  cases hi : P.info? ty with
  | none => simp [hi] at hz
  | some i =>
    simp only [hi, Option.bind_some] at hz
    simp [Instr.alloc, zeroValue, typeInfo, hi, hz, newVar, newRow, h1]
theorem wpListIn_alloc_cell (hw : Region.wanted o (yielded ops a.tmps) = true) (ty : TypeId) (ho : o.op = .alloc ty) (z : Value) (hz : (P.info? ty).bind (·.zero) = some z) (h1 : z.cells = #[z])
    (h : ∀ w', w'.heap[w.heap.size]? = some (.cells #[z] ty (0, 0)) → w.grownBy w' none → Hid (w'.heap.size = w.heap.size + 1) → wpListIn F n P ops Q rest (a.put o.dst (.pointer (some ⟨w.heap.size, 0, none⟩))) w') : wpListIn F n P ops Q (o :: rest) a w := by
  refine wpListIn_step fun K hK => ?_
  rw [if_pos hw]
  unfold Oper.wpIn
  refine ⟨fun f hf => by simp [Oper.about, ho] at hf, ?_⟩
  rw [Oper.semAt_plain F _ _ (by rw [ho]; intro c hc'; cases hc')]
  unfold execOp
  simp only [ho, run_alloc_one ty z hz h1, Sem.run_bind, Sem.run_pure, Result.andThen_ok]
  exact hK _ _ (h _ (heap_alloc_new w _) (World.grownBy_alloc w _ none) (Lib.hid (by simp)))
theorem run_store_box {P : Program} {w : World} (ty : TypeId) (g : Nat) (t : TypeId) (old v : Value) (hb : w.heap[g]? = some (.cells #[old] t (0, 0))) (hsz : (P.info? ty).map (·.size) = some 1) (h1 : v.cells = #[v]) (ho1 : v.oneCell' = true) :
    (storeVar ty ⟨g, 0, none⟩ v).run P w = .ok () (w.setCell ⟨g, 0, none⟩ v) := by
  have hz : (sizeOf ty).run P w = .ok 1 w := by
    cases hq : P.info? ty with
    | none => simp [hq] at hsz
    | some q => simp [hq] at hsz; simp [sizeOf, typeInfo, hq, hsz]
  have ea : (Addr.mk g 0 none).add 0 = ⟨g, 0, none⟩ := by unfold Addr.add; split <;> simp_all
  simp [storeVar, hz, h1, Sem.run_bind, Result.andThen, storeCells, run_store P w _ v _ ho1, ea, cell_of_one hb, free_of_one hb]
theorem wpListIn_store_box (hw : Region.wanted o (yielded ops a.tmps) = true) (ty : TypeId) (x y : Operand) (ho : o.op = .store ty x y) (g : Nat) (hx : a.eval x = .pointer (some ⟨g, 0, none⟩)) (t : TypeId) (old v : Value) (hy : a.eval y = v)
    (hb : w.heap[g]? = some (.cells #[old] t (0, 0))) (hsz : (P.info? ty).map (·.size) = some 1) (h1 : v.cells = #[v]) (ho1 : v.oneCell' = true)
    (h : ∀ w', w'.heap[g]? = some (.cells #[v] t (0, 0)) → w.grownBy w' (some g) → wpListIn F n P ops Q rest (a.put o.dst undef) w') : wpListIn F n P ops Q (o :: rest) a w := by
  refine wpListIn_step fun K hK => ?_
  rw [if_pos hw]
  unfold Oper.wpIn
  refine ⟨fun f hf => by simp [Oper.about, ho] at hf, ?_⟩
  rw [Oper.semAt_plain F _ _ (by rw [ho]; intro c hc'; cases hc')]
  unfold execOp
  simp only [ho, hx, hy, Instr.storeAt, Instr.sureAddr, Sem.run_bind, Sem.run_pure, Result.andThen_ok, run_store_box ty g t old v hb hsz h1 ho1]
  exact hK _ _ (h _ (one_setCell hb) (grown_setCell _ _ _ _))
end
theorem zip_one (p : Tmp) (v : Value) (t : Array Value) : ((#[p].zip #[v]).foldl (fun t (p, v) => t.setIfInBounds p v) t) = t.setIfInBounds p v := by simp
theorem zip_two (p q : Tmp) (u v : Value) (t : Array Value) : ((#[p, q].zip #[u, v]).foldl (fun t (p, v) => t.setIfInBounds p v) t) = (t.setIfInBounds p u).setIfInBounds q v := by simp
theorem ne_of_cells {w : World} {g : Nat} {cs : Array Value} {t : TypeId} {fr : Nat × Nat} {row : Option Nat} (h : w.heap[g]? = some (.cells cs t fr)) (hr : ∀ r, row = some r → ∃ o : Obj, w.heap[r]? = some o ∧ o.isCells = false) : some g ≠ row := fun e => by
  obtain ⟨o, ho, hc⟩ := hr g e.symm
  rw [h] at ho
  cases ho
  cases hc
theorem keep_cells {w w' : World} {g : Nat} {cs : Array Value} {t : TypeId} {fr : Nat × Nat} {row : Option Nat} (h : w.heap[g]? = some (.cells cs t fr)) (hg : w.grownBy w' row) (hr : some g ≠ row) : w'.heap[g]? = some (.cells cs t fr) :=
  (hg.block g (Array.getElem?_eq_some_iff.1 h).1 hr).trans h
theorem _root_.Go.Proofs.YtjelacblnjbfgaaGreatDoor.Mem.Own.cells_ {w : World} {base : Nat} {t : TypeId} {k : IntKind} {g n c : Nat} {zs : List Int} (h : Mem.Own w base t k (.slice (some ⟨g, 0, none⟩) n c) zs) : ∃ cs, w.heap[g]? = some (.cells cs t (0, 0)) := by
  rcases h.2.2 with ⟨e, _⟩ | ⟨g', cap, cur, e, _, hgg, _⟩
  · cases e
  · injection e with e1
    injection e1 with e1
    injection e1 with e1
    subst e1
    exact ⟨cur, hgg⟩
theorem others_of_grown {w w' : World} {g : Nat} {cs : Array Value} {t : TypeId} {fr : Nat × Nat} (h : w.heap[g]? = some (.cells cs t fr)) (hg : w.grownBy w' (some g)) : KeepsOthers w w' := KeepsOthers.of_grownBy hg (fun j o e ho => by cases e; rw [h] at ho; cases ho; rfl)
theorem others_of_new {w w' : World} (hg : w.grownBy w' none) : KeepsOthers w w' := KeepsOthers.of_grownBy hg (fun j o e ho => by cases e)
end Go.Proofs.YtjelacblnjbfgaaGreatDoor.Held
namespace Go.Proofs.YtjelacblnjbfgaaGreatDoor.Hkdf
open Go.RowKit Go.Shelf Go.Proofs.YtjelacblnjbfgaaGreatDoor Mem Help Go.Proofs.YtjelacblnjbfgaaGreatDoor.Sum Sha Mac Go.Proofs.YtjelacblnjbfgaaGreatDoor.Range
attribute [local go_sem] Oper.semAt_some
attribute [local irreducible] wpList wpListIn
def Inv (w : World) (g lb nb n : Nat) (key info : List Int) (k : Nat) (W : World) : Prop :=
  32 * k < n ∧ W.heap[lb]? = some (.cells #[.slice (some ⟨g, 0, none⟩) (32 * k) n] 27 (0, 0)) ∧ Mem.Own W w.heap.size 5 .u8 (.slice (some ⟨g, 0, none⟩) (32 * k) n) (out key info (32 * k)) ∧
    W.heap[nb]? = some (.cells #[.int .i64 (n : Int)] 3 (0, 0)) ∧ Below w.heap.size w W
def Done (w : World) (g lb n : Nat) (key info : List Int) (c : Code) (k : Nat) (W : World) : Prop :=
  c = .exit 0 ∧ W.heap[lb]? = some (.cells #[.slice (some ⟨g, 0, none⟩) n n] 27 (0, 0)) ∧ Mem.Own W w.heap.size 5 .u8 (.slice (some ⟨g, 0, none⟩) n n) (out key info n) ∧ Below w.heap.size w W
theorem Inv.far (w : World) (g lb nb n : Nat) (key info : List Int) {B : Nat} (hw : w.heap.size < B) (hg : g < B) (hl : lb < B) (hn : nb < B) : Far B (Inv w g lb nb n key info) := by
  intro k W W' row h hgr hr
  have hne : ∀ i, i < B → some i ≠ row := fun i hi e => by have := hr i e.symm; omega
  obtain ⟨h0, h1, h2, h3, h4⟩ := h
  refine ⟨h0, Held.keep_cells h1 hgr (hne _ hl), h2.kept hgr (.inr (hne _ hg)), Held.keep_cells h3 hgr (hne _ hn), h4.grown hgr h4.size (fun r e => by have := hr r e; omega)⟩
theorem Done.far (w : World) (g lb n : Nat) (key info : List Int) (c : Code) {B : Nat} (hw : w.heap.size < B) (hg : g < B) (hl : lb < B) : Far B (Done w g lb n key info c) := by
  intro k W W' row h hgr hr
  have hne : ∀ i, i < B → some i ≠ row := fun i hi e => by have := hr i e.symm; omega
  obtain ⟨h0, h1, h2, h4⟩ := h
  refine ⟨h0, Held.keep_cells h1 hgr (hne _ hl), h2.kept hgr (.inr (hne _ hg)), h4.grown hgr h4.size (fun r e => by have := hr r e; omega)⟩
set_option maxRecDepth 100000 in
set_option maxHeartbeats 8000000 in
theorem expand_any (key info : List Int) (hk : key.length = 32) (hkb : ∀ z ∈ key, (Lit.int .u8 z).wf = true) (B : Nat) (A : Option Addr) (m c n : Nat) (w : World) (hi : Ints w .u8 B A m info) (hB : B ≤ w.heap.size) (hmc : m ≤ c) (hcm : c ≤ maxLen) (hm : m ≤ 274877906944)
    (hn1 : 1 ≤ n) (hn2 : n ≤ 8160) (hT0 : Tab w 2 Sum.H0) (hT1 : Tab w 3 Sum.K) :
    Calls Tryz.prog 89 #[.agg (arr .u8 key), .slice A m c, .int .i64 (n : Int)] w fun e w' => ∃ g, e = .returned (.tuple #[.slice (some ⟨g, 0, none⟩) n n, .int .i64 0]) ∧ w.heap.size ≤ g ∧ Row w' g 5 .u8 (out key info n) ∧ Below w.heap.size w w' := by
  refine (callsIn_wide (n := 3)).1 ?_
  refine callsIn_of_wp_marks Tryz.func89 rfl trivial ?_ rfl
  simp only [Tryz.ntmps89, List.size_toArray, List.length_cons, List.length_nil, Nat.reduceAdd, Nat.reduceSub, Array.replicate_succ, Array.replicate_zero, List.push_toArray, List.append_toArray, List.nil_append, List.cons_append]
  have HK := Lib.hid hk
  clear hk
  have q1 : ¬ (n : Int) < 1 := by omega
  have q2 : ¬ (8160 : Int) < (n : Int) := by omega
  obtain ⟨i0, hi0, hz0, hs0, hb0⟩ := info_parts info_u8
  gi_wp2_with (first
    | (refine wpListIn_box_Row rfl 22 _ rfl .u8 key rfl hkb ?_; intro w1 r1 g1 z1)
    | (refine Held.wpListIn_box_cell (w := w1) rfl 3 _ rfl (.int .i64 (n : Int)) rfl rfl ?_; intro w2 h2 g2 z2; have cn2 := cell_of_one h2)
    | (refine wpListIn_make_own w2 rfl _ _ 27 rfl w.heap.size 5 i0 (.int .u8 0) 1 Tryz.underlying27 hi0 hz0 hs0 .i64 .i64 _ n rfl rfl (by omega) (by rw [hb0]; omega) (by unfold maxLen; omega) (by have := g1.size; have := g2.size; omega) ?_; intro w3 hown3 g3)
    | (refine Held.wpListIn_alloc_cell (w := w3) rfl 27 rfl (.slice none 0 0) (by kernel_rfl) rfl ?_; intro w4 h4 g4 z4)
    | (refine Held.wpListIn_store_box (w := w4) rfl 27 _ _ rfl w3.heap.size rfl 27 _ (.slice (some ⟨w2.heap.size, 0, none⟩) 0 n) rfl h4 (by kernel_rfl) rfl rfl ?_; intro w5 h5 g5; have r15 := (((r1.grown g2 (by simp)).grown g3 (by simp)).grown g4 (by simp)).grown g5 (by have := g1.size; have := g2.size; have := g3.size; intro e; injection e with e; have := r1.lt; omega))
    | (refine wpListIn_load_Row (w := w5) rfl 22 _ rfl w.heap.size rfl 22 .u8 _ r15 32 5 Tryz.underlying22 info_32 HK.out ?_))
  obtain ⟨nb, hnb⟩ : ∃ nb, w1.heap.size = nb := ⟨_, rfl⟩
  obtain ⟨g, hg⟩ : ∃ g, w2.heap.size = g := ⟨_, rfl⟩
  obtain ⟨lb, hlb⟩ : ∃ lb, w3.heap.size = lb := ⟨_, rfl⟩
  have e1 := z1.out
  have e2 := z2.out
  have lg : w2.heap.size < w3.heap.size := (hown3.lt _ rfl).2
  have s4 := g4.size
  have s5 := g5.size
  have c2 : Below w.heap.size w w2 := ((Below.refl _ w).grown g1 (Nat.le_refl _) (by simp)).grown g2 (by omega) (by simp)
  have c5 : Below w.heap.size w w5 := ((c2.grown g3 c2.size (by simp)).grown g4 (by omega) (by simp)).grown g5 (by omega) (fun r e => by cases e; omega)
  rw [hnb] at e1 e2 h2
  rw [hg] at e2
  rw [hg] at lg hown3 h5
  rw [hlb] at lg s4 h5 g5
  rw [hnb, hg, hlb]
  have o5 : Mem.Own w5 w.heap.size 5 .u8 (.slice (some ⟨g, 0, none⟩) 0 n) (out key info 0) := by
    rw [out_zero]
    have o3 : Mem.Own w3 w.heap.size 5 .u8 (.slice (some ⟨g, 0, none⟩) 0 n) [] := ⟨by simp, hown3⟩
    exact (o3.kept g4 (.inr (by simp [Value.ownBlock]))).kept g5 (.inr (fun e => by have e : some g = some lb := e; injection e with e; omega))
  have n5 := Held.keep_cells (Held.keep_cells (Held.keep_cells h2 g3 (by simp)) g4 (by simp)) g5 (by intro e; injection e with e; omega)
  have i5 : Inv w g lb nb n key info 0 w5 := ⟨by omega, h5, o5, n5, c5⟩
  have hwn : w.heap.size < nb := by omega
  have hng : nb < g := by omega
  have hl5 : lb < w5.heap.size := (Array.getElem?_eq_some_iff.1 h5).1
  clear e1 e2 s4 s5 c2 n5 o5 h2 h5 h4 hown3 g1 g2 g3 g4 g5 z1 z2 z4 cn2 r1 r15 hnb hg hlb hi0 hz0 hs0 hb0
  refine ⟨trivial, ?_⟩
  refine (callsIn_wide.2 (follow_any key hkb A m c w5)).mono ?_
  rintro e W6 ⟨rfl, rk, ck, b6, z6⟩
  have i6 : Inv w g lb nb n key info 0 W6 := Inv.far w g lb nb n key info (B := w5.heap.size) (by omega) (by omega) hl5 (by omega) 0 _ _ none i5 (grown_of_below b6 none) (fun r e => by cases e)
  have c6 := i6.2.2.2.2
  obtain ⟨fb, hfb⟩ : ∃ fb, w5.heap.size = fb := ⟨_, rfl⟩
  rw [hfb] at rk ck b6 z6 hl5 ⊢
  have hSlt : ∀ b, b < w.heap.size → ¬ (b = g ∨ b = lb) := fun b hb e => by omega
  have z6' := z6.out
  have hit := fun n => follow_stop n fb (fb + 1) (fun b => b = g ∨ b = lb) key info A m c W6 rk HK.out ck (by omega) (by omega) (IntsN.of (hi.below (c6.mono hB)) (fun b hb => hSlt b (by omega))) hmc hcm hm (fun b hb => by omega) (hT0.below c6 hT0.lt) (hT1.below c6 hT1.lt) (hSlt _ hT0.lt) (hSlt _ hT1.lt)
  clear rk ck b6 i5 c5 hfb
  gi_wp2_with fail
  refine wpIn_rangeFunc_stop rfl (by omega) (gf := 111) (lb := #[.pointer (some ⟨fb, 0, none⟩), .pointer (some ⟨fb + 1, 0, none⟩)]) rfl trivial (enters_of Tryz.func111 (by kernel_rfl) rfl)
    (hit _) (fun h k => h.trans k) (fun W l o o' hl ho hc _ => Only.put W l o o' ho hc) (Below.refl _ _) (fun _ => rfl)
    256 (Inv w g lb nb n key info) (Done w g lb n key info) (Inv.far w g lb nb n key info (by omega) (by omega) (by omega) (by omega)) (fun c => Done.far w g lb n key info c (by omega) (by omega) (by omega)) (fun k W h => by have := h.1; omega) i6
    (fun x a' k W => Inv w g lb nb n key info k W ∧ ∃ p, lb < p ∧ Row W p 22 .u8 x ∧ a' = { tmps := #[.agg (arr .u8 key), .slice A m c, .int .i64 (n : Int), .pointer (some ⟨w.heap.size, 0, none⟩), undef, .pointer (some ⟨nb, 0, none⟩), .slice none 0 0, .int .i64 0, .pointer (some ⟨lb, 0, none⟩), .pointer (some ⟨p, 0, none⟩), .int .i64 (n : Int), .bool false, .bool false, .int .i64 (n : Int), .bool false, .bool false, .int .i64 (n : Int), .slice (some ⟨g, 0, none⟩) 0 n, .agg (arr .u8 key), .slice A m c, .func (.func 111) #[] #[.pointer (some ⟨fb, 0, none⟩), .pointer (some ⟨fb + 1, 0, none⟩)], .agg (arr .u8 x), undef, undef, undef, undef, undef, undef, undef, undef, undef, undef, undef, undef, undef], defers := [] }) ?ib ?assign ?body ?done ?stop
  case ib =>
    rintro x a' k W W' row ⟨hi, p, hp, hr, h3⟩ hgr hrow
    exact ⟨Inv.far w g lb nb n key info (B := lb + 1) (by omega) (by omega) (by omega) (by omega) k W W' row hi hgr (fun r e => by have := (hrow r e).1; omega), p, hp, hr.grown hgr (Held.ne_of_cells hr.2 (fun r e => (hrow r e).2)), h3⟩
  case assign =>
    intro l k x W K hi hat hsz hK
    have hxl : x.length = 32 := by
      have hat : (if k < 255 then some (piece key info (k + 1)) else none) = some x := hat
      split at hat
      · injection hat with hat; rw [← hat]; exact piece_length _ _ _
      · cases hat
    have hxw : ∀ z ∈ x, (Lit.int .u8 z).wf = true := by
      have hat : (if k < 255 then some (piece key info (k + 1)) else none) = some x := hat
      split at hat
      · injection hat with hat; rw [← hat]; exact piece_wf _ _ _
      · cases hat
    have HXL := Lib.hid hxl
    have HXW := Lib.hid hxw
    have HAT := Lib.hid hat
    clear hxl hxw hat
    simp only [Held.zip_one, List.setIfInBounds_toArray, List.set_cons_zero, List.set_cons_succ]
    gi_wp2_with (first
      | (refine wpListIn_alloc_Row rfl 22 rfl .u8 32 zero_32 ?_; intro w1 r1 g1 z1)
      | (refine wpListIn_store_RowTo (w := w1) rfl 22 _ _ rfl W.heap.size rfl 22 .u8 _ x rfl r1 32 info_32 HXL.out (by simp) HXW.out ?_; intro w2 r2 g2 z2))
    have b2 : Below W.heap.size W w2 := ((Below.refl _ W).grown g1 (Nat.le_refl _) (by simp)).grown g2 g1.size (fun r e => by cases e; exact Nat.le_refl _)
    exact hK _ _ ((Held.others_of_new g1).trans (Held.others_of_grown r1.2 g2)) (Only.of_below b2) ⟨Inv.far w g lb nb n key info (B := W.heap.size) (by omega) (by omega) (by omega) (by omega) k _ _ none hi (grown_of_below b2 none) (fun r e => by cases e), W.heap.size, by omega, r2, rfl⟩
  case body =>
    rintro l k x a' W hl hrec ⟨⟨i0, i1, i2, i3, i4⟩, p, hp, hr, rfl⟩ hat hsz
    have hat : (if k < 255 then some (piece key info (k + 1)) else none) = some x := hat
    have hk255 : k < 255 := by
      by_cases h : k < 255
      · exact h
      · rw [if_neg h] at hat; cases hat
    rw [if_pos hk255] at hat
    injection hat with hat
    subst hat
    obtain ⟨q, hq⟩ : ∃ q, 32 * k = q := ⟨_, rfl⟩
    rw [hq] at i0 i1 i2
    obtain ⟨j, hj⟩ : ∃ j, j = min 32 (n - q) := ⟨_, rfl⟩
    obtain ⟨L, hLL⟩ : ∃ L, q + j = L := ⟨_, rfl⟩
    have hj32 : j ≤ 32 := by omega
    have HQL := Lib.hid (show (out key info q).length = q from out_length _ _ _ (by omega))
    have HO := Lib.hid (show out key info q ++ (piece key info (k + 1)).take j = out key info L by rw [← hLL, ← hq]; exact out_step key info k j hk255 hj32)
    have HL := Lib.hid hLL
    have ip := hr.ints (n := j) (by rw [piece_length]; omega)
    have cl := cell_of_one i1
    obtain ⟨cs, hcs⟩ := i2.cells_
    have hsub : IntKind.i64.wrap ((n : Int) - (q : Int)) = ((n - q : Nat) : Int) := by simp [IntKind.wrap, IntKind.bits, IntKind.signed]; omega
    have hmin : (if ((n - q : Nat) : Int) < 32 then ((n - q : Nat) : Int) else 32) = (j : Int) := by split <;> omega
    have hLn : L ≤ n := by omega
    clear hrec
    gi_wp2_with fail
    refine Held.wpIn_region_heldR (r := some l) (S := fun X => X.heap[nb]? = some (.cells #[.int .i64 (n : Int)] 3 (0, 0))) rfl (by kernel_rfl) (by kernel_rfl) (fun a w h => h) ?_
    change wpAnyH _ _ _ _ _ _ _ _ W.drew
    have c0_0 : W.drew.heap[nb]? = some (.cells #[.int .i64 (n : Int)] 3 (0, 0)) := i3
    refine Held.tk (v := .int .i64 (n : Int)) 1 (some 23) rfl (Held.y_load rfl rfl (by kernel_rfl) (fun X h => cell_of_one h)) c0_0 ?_
    simp only [Act.put, Z1, Z2, Z3]
    refine Held.two 0 2 (by kernel_rfl) ?_ ?_
    · refine Held.op_load 0 (some 22) 27 ⟨lb, 0, none⟩ (.slice (some ⟨g, 0, none⟩) q n) rfl rfl rfl rfl rfl (Held.run_loadVar_cell _ _ _ _ (by kernel_rfl) cl) ?_
      have c0_1 := c0_0
      refine ⟨c0_1, ?_⟩
      simp only [Act.put, Z1, Z2, Z3]
      refine Held.one 2 (by kernel_rfl) ?_
      refine Held.op_load 2 (some 24) 27 ⟨lb, 0, none⟩ (.slice (some ⟨g, 0, none⟩) q n) rfl rfl rfl rfl rfl (Held.run_loadVar_cell _ _ _ _ (by kernel_rfl) cl) ?_
      have c0_2 := c0_1
      refine ⟨c0_2, ?_⟩
      simp only [Act.put, Z1, Z2, Z3]
      refine Held.tk (v := .int .i64 (q : Int)) 3 (some 25) rfl (Held.y_len rfl rfl (by kernel_rfl)) c0_2 ?_
      simp only [Act.put, Z1, Z2, Z3]
      refine Held.tk (v := .int .i64 ((n - q : Nat) : Int)) 4 (some 26) rfl (Held.y_int rfl rfl rfl (Held.run_sub 3 .i64 hsub)) c0_2 ?_
      simp only [Act.put, Z1, Z2, Z3]
      refine Held.tk (v := .int .i64 (j : Int)) 5 (some 27) rfl (Held.y_min rfl rfl rfl hmin) c0_2 ?_
      simp only [Act.put, Z1, Z2, Z3]
      refine Held.tk (v := .slice (some ⟨p, 0, none⟩) j 32) 6 (some 28) rfl (Held.y_slice rfl (fun X => Held.run_slice_arr_h (P := Tryz.prog) 22 5 32 p j X Tryz.underlying22 (by kernel_rfl) (by omega) hj32)) c0_2 ?_
      simp only [Act.put, Z1, Z2, Z3]
      refine Held.one 7 (by kernel_rfl) ?_
      refine Held.op_append_fits 7 (some 29) 27 rfl rfl rfl rfl w.heap.size 5 .u8 1 Tryz.underlying27 info_u8 g n q (out key info q) rfl HQL.out (i2.drewN 1) W.heap.size (some ⟨p, 0, none⟩) j 32 ((piece key info (k + 1)).take j) rfl (ip.drew) L HL.out (by omega) ?_
      intro wA oA gA
      have c0_3 := Held.keep_cells c0_2 gA (by simp; omega)
      refine ⟨c0_3, ?_⟩
      simp only [Act.put, Z1, Z2, Z3]
      refine Held.one 8 (by kernel_rfl) ?_
      refine Held.op_store_box 8 none 27 lb 27 _ (.slice (some ⟨g, 0, none⟩) L n) rfl rfl rfl rfl rfl rfl (Held.keep_cells (w := W.drew) i1 gA (by simp; omega)) (by kernel_rfl) rfl rfl ?_
      intro wB lB gB
      have c0_4 := Held.keep_cells c0_3 gB (by simp; omega)
      refine ⟨c0_4, ?_⟩
      simp only [Act.put]
      refine wpAnyH_done (by kernel_rfl) ?_ _
      have cB := cell_of_one lB
      have nB := cell_of_one c0_4
      have kA := Held.others_of_grown (w := W.drew) hcs gA
      have kB := Held.others_of_grown (Held.keep_cells (w := W.drew) i1 gA (by simp; omega)) gB
      have kW : KeepsOthers W wB := KeepsOthers.trans (show KeepsOthers W wA from ⟨kA.size, kA.same⟩) kB
      have oW : Only (fun b => b = g ∨ b = lb) W wB := Only.trans (show Only _ W wA from ⟨gA.size, (Only.of_grown (w := W.drew) gA (S := fun b => b = g ∨ b = lb) (fun r e => by cases e; exact .inl rfl)).block⟩) (Only.of_grown gB (fun r e => by cases e; exact .inr rfl))
      have oB := oA.kept gB (.inr (fun e => by have e : some g = some lb := e; injection e with e; omega))
      rw [HO.out] at oB
      have bB : Below w.heap.size w wB := ((i4.drew).grown gA i4.size (fun r e => by cases e; omega)).grown gB (by have := i4.size; have := gA.size; exact Nat.le_trans (by assumption) this) (fun r e => by cases e; omega)
      by_cases hlast : L = n
      · have t1 : (decide ((L : Int) = (n : Int))) = true := by simp [hlast]
        gi_wp2_with fail
        exact ⟨kW, rfl, by rw [← hlast] at lB ⊢; exact lB, by rw [← hlast] at oB ⊢; exact oB, bB⟩
      · have t1 : ¬ ((L : Int) = (n : Int)) := by omega
        gi_wp2_with fail
        exact ⟨kW, oW, by omega, by rw [show 32 * (k + 1) = L by omega]; exact lB, by rw [show 32 * (k + 1) = L by omega]; exact oB, c0_4, bB⟩
    · refine Held.op_load 2 (some 24) 27 ⟨lb, 0, none⟩ (.slice (some ⟨g, 0, none⟩) q n) rfl rfl rfl rfl rfl (Held.run_loadVar_cell _ _ _ _ (by kernel_rfl) cl) ?_
      have c0_1 := c0_0
      refine ⟨c0_1, ?_⟩
      simp only [Act.put, Z1, Z2, Z3]
      refine Held.tk (v := .int .i64 (q : Int)) 3 (some 25) rfl (Held.y_len rfl rfl (by kernel_rfl)) c0_1 ?_
      simp only [Act.put, Z1, Z2, Z3]
      refine Held.tk (v := .int .i64 ((n - q : Nat) : Int)) 4 (some 26) rfl (Held.y_int rfl rfl rfl (Held.run_sub 3 .i64 hsub)) c0_1 ?_
      simp only [Act.put, Z1, Z2, Z3]
      refine Held.tk (v := .int .i64 (j : Int)) 5 (some 27) rfl (Held.y_min rfl rfl rfl hmin) c0_1 ?_
      simp only [Act.put, Z1, Z2, Z3]
      refine Held.tk (v := .slice (some ⟨p, 0, none⟩) j 32) 6 (some 28) rfl (Held.y_slice rfl (fun X => Held.run_slice_arr_h (P := Tryz.prog) 22 5 32 p j X Tryz.underlying22 (by kernel_rfl) (by omega) hj32)) c0_1 ?_
      simp only [Act.put, Z1, Z2, Z3]
      refine Held.one 0 (by kernel_rfl) ?_
      refine Held.op_load 0 (some 22) 27 ⟨lb, 0, none⟩ (.slice (some ⟨g, 0, none⟩) q n) rfl rfl rfl rfl rfl (Held.run_loadVar_cell _ _ _ _ (by kernel_rfl) cl) ?_
      have c0_2 := c0_1
      refine ⟨c0_2, ?_⟩
      simp only [Act.put, Z1, Z2, Z3]
      refine Held.one 7 (by kernel_rfl) ?_
      refine Held.op_append_fits 7 (some 29) 27 rfl rfl rfl rfl w.heap.size 5 .u8 1 Tryz.underlying27 info_u8 g n q (out key info q) rfl HQL.out (i2.drewN 1) W.heap.size (some ⟨p, 0, none⟩) j 32 ((piece key info (k + 1)).take j) rfl (ip.drew) L HL.out (by omega) ?_
      intro wA oA gA
      have c0_3 := Held.keep_cells c0_2 gA (by simp; omega)
      refine ⟨c0_3, ?_⟩
      simp only [Act.put, Z1, Z2, Z3]
      refine Held.one 8 (by kernel_rfl) ?_
      refine Held.op_store_box 8 none 27 lb 27 _ (.slice (some ⟨g, 0, none⟩) L n) rfl rfl rfl rfl rfl rfl (Held.keep_cells (w := W.drew) i1 gA (by simp; omega)) (by kernel_rfl) rfl rfl ?_
      intro wB lB gB
      have c0_4 := Held.keep_cells c0_3 gB (by simp; omega)
      refine ⟨c0_4, ?_⟩
      simp only [Act.put]
      refine wpAnyH_done (by kernel_rfl) ?_ _
      have cB := cell_of_one lB
      have nB := cell_of_one c0_4
      have kA := Held.others_of_grown (w := W.drew) hcs gA
      have kB := Held.others_of_grown (Held.keep_cells (w := W.drew) i1 gA (by simp; omega)) gB
      have kW : KeepsOthers W wB := KeepsOthers.trans (show KeepsOthers W wA from ⟨kA.size, kA.same⟩) kB
      have oW : Only (fun b => b = g ∨ b = lb) W wB := Only.trans (show Only _ W wA from ⟨gA.size, (Only.of_grown (w := W.drew) gA (S := fun b => b = g ∨ b = lb) (fun r e => by cases e; exact .inl rfl)).block⟩) (Only.of_grown gB (fun r e => by cases e; exact .inr rfl))
      have oB := oA.kept gB (.inr (fun e => by have e : some g = some lb := e; injection e with e; omega))
      rw [HO.out] at oB
      have bB : Below w.heap.size w wB := ((i4.drew).grown gA i4.size (fun r e => by cases e; omega)).grown gB (by have := i4.size; have := gA.size; exact Nat.le_trans (by assumption) this) (fun r e => by cases e; omega)
      by_cases hlast : L = n
      · have t1 : (decide ((L : Int) = (n : Int))) = true := by simp [hlast]
        gi_wp2_with fail
        exact ⟨kW, rfl, by rw [← hlast] at lB ⊢; exact lB, by rw [← hlast] at oB ⊢; exact oB, bB⟩
      · have t1 : ¬ ((L : Int) = (n : Int)) := by omega
        gi_wp2_with fail
        exact ⟨kW, oW, by omega, by rw [show 32 * (k + 1) = L by omega]; exact lB, by rw [show 32 * (k + 1) = L by omega]; exact oB, c0_4, bB⟩
  case done =>
    rintro D k W hD hat ⟨h0, _⟩ hDl
    have hat : (if k < 255 then some (piece key info (k + 1)) else none) = none := hat
    by_cases h : k < 255
    · rw [if_pos h] at hat; cases hat
    · omega
  case stop =>
    rintro D c k W hD ⟨rfl, i1, i2, ib⟩ hDl
    have cl := cell_of_one i1
    gi_wp2_with fail
    have ge : w.heap.size ≤ g := by omega
    have hf := (i2.fill (M := (out key info n).map (Value.int .u8)) (by rw [List.take_of_length_le]; simp [out_length key info n hn2])).done (Nat.le_refl _) (by simp [out_length key info n hn2])
    have hgD : g ≠ D := by omega
    refine ⟨by simp, .inl ⟨_, _, rfl, run_takeDeferred hDl, ?_⟩⟩
    have r9 : Row (W.putObj D (.deferred none)) g 5 .u8 (out key info n) := ⟨out_wf _ _ _, (World.putObj_heap_other hgD).trans hf⟩
    refine ⟨_, results_tmp2 rfl _ _ _, g, rfl, ge, r9, ?_⟩
    exact ib.grown (grownBy_putObj' _ D _) ib.size (fun r e => by have := c6.size; cases e; omega)
end Go.Proofs.YtjelacblnjbfgaaGreatDoor.Hkdf
namespace Go.Proofs.YtjelacblnjbfgaaGreatDoor.Hkdf
open Go.RowKit Go.Shelf Go.Proofs.YtjelacblnjbfgaaGreatDoor Mem Help Go.Proofs.YtjelacblnjbfgaaGreatDoor.Sum Sha Mac
attribute [local irreducible] wpList
def hkey (salt key info : List Int) : List Int := out (tag salt key) info 32
theorem hkey_length (salt key info : List Int) : (hkey salt key info).length = 32 := out_length _ _ _ (by omega)
theorem hkey_wf (salt key info : List Int) : ∀ z ∈ hkey salt key info, (Lit.int .u8 z).wf = true := out_wf _ _ _
theorem tag_wf (key msg : List Int) : ∀ z ∈ tag key msg, (Lit.int .u8 z).wf = true := fun z hz => wf_of_byte (tag_bytes _ _ z hz)
theorem hkey_def (salt key info : List Int) : hkey salt key info = out (tag salt key) info 32 := rfl
attribute [irreducible] hkey
set_option maxRecDepth 100000 in
set_option maxHeartbeats 1000000 in
theorem extract_any (B B' : Nat) (A A' : Option Addr) (n c n' c' : Nat) (salt key : List Int) (w : World) (h : Ints w .u8 B A n salt) (hB : B ≤ w.heap.size) (hc : n ≤ c) (hc' : c ≤ maxLen) (hn : n ≤ 274877906944)
    (h' : Ints w .u8 B' A' n' key) (hB' : B' ≤ w.heap.size) (hd : n' ≤ c') (hd' : c' ≤ maxLen) (hn' : n' ≤ 274877906944) (hT0 : Tab w 2 Sum.H0) (hT1 : Tab w 3 Sum.K) :
    Calls Tryz.prog 90 #[.slice A n c, .slice A' n' c'] w fun e w' => e = .returned (.agg (arr .u8 (tag salt key))) ∧ Below w.heap.size w w' := by
  go_enter Tryz.func90, Tryz.ntmps90
  go_wp2_with (refine wpList_alloc_Row rfl 22 rfl .u8 32 zero_32 ?_; intro w1 r1 g1 z1)
  have b1 : Below w.heap.size w w1 := (Below.refl _ w).grown g1 (Nat.le_refl _) (by simp)
  have l1 := r1.lt
  refine (tag_one w1 B B' A A' n c n' c' 1 salt key (h.below (b1.mono hB)) (by omega) hc hc' (by omega) (h'.below (b1.mono hB')) (by omega) hd hd' (by omega) (hT0.below b1 hT0.lt) (hT1.below b1 hT1.lt)).mono ?_
  rintro e w2 ⟨rfl, hb2⟩
  have b2 := b1.trans (hb2.mono b1.size)
  have r2 := r1.below hb2 l1
  clear hb2 b1 r1 g1 z1
  go_wp2_with (refine wpList_store_RowTo rfl 22 _ _ rfl w.heap.size rfl 22 .u8 _ (tag salt key) rfl r2 32 info_32 (tag_length _ _) (by simp) (tag_wf _ _) ?_; intro w3 r3 g3 z3)
  exact bodyPost_ret (results_Row rfl _ _ w.heap.size _ _ _ rfl r3 32 5 Tryz.underlying22 info_32 (tag_length _ _)) rfl ⟨rfl, b2.grown g3 b2.size (fun r e => by cases e; exact Nat.le_refl _)⟩
theorem expand_32 (key info : List Int) (hk : key.length = 32) (hkb : ∀ z ∈ key, (Lit.int .u8 z).wf = true) (B : Nat) (A : Option Addr) (m c : Nat) (w : World) (hi : Ints w .u8 B A m info) (hB : B ≤ w.heap.size) (hmc : m ≤ c) (hcm : c ≤ maxLen) (hm : m ≤ 274877906944)
    (hT0 : Tab w 2 Sum.H0) (hT1 : Tab w 3 Sum.K) :
    Calls Tryz.prog 89 #[.agg (arr .u8 key), .slice A m c, .int .i64 32] w fun e w' => ∃ g, e = .returned (.tuple #[.slice (some ⟨g, 0, none⟩) 32 32, .int .i64 0]) ∧ w.heap.size ≤ g ∧ Row w' g 5 .u8 (out key info 32) ∧ Below w.heap.size w w' :=
  expand_any key info hk hkb B A m c 32 w hi hB hmc hcm hm (by omega) (by omega) hT0 hT1
theorem over_32 (xs : List Int) (h : xs.length = 32) : laidOver (List.replicate 32 0) 0 xs = xs := by
  rw [laidOver, List.take_zero, List.nil_append, Nat.zero_add, h, List.drop_of_length_le (by simp), List.append_nil]
set_option maxRecDepth 100000 in
set_option maxHeartbeats 2000000 in
theorem key_any (B B' B2 : Nat) (A A' A2 : Option Addr) (n c n' c' m c2 : Nat) (salt key info : List Int) (w : World) (h : Ints w .u8 B A n salt) (hB : B ≤ w.heap.size) (hc : n ≤ c) (hc' : c ≤ maxLen) (hn : n ≤ 274877906944)
    (h' : Ints w .u8 B' A' n' key) (hB' : B' ≤ w.heap.size) (hd : n' ≤ c') (hd' : c' ≤ maxLen) (hn' : n' ≤ 274877906944) (h2 : Ints w .u8 B2 A2 m info) (hB2 : B2 ≤ w.heap.size) (hmc : m ≤ c2) (hcm : c2 ≤ maxLen) (hm : m ≤ 274877906944)
    (hT0 : Tab w 2 Sum.H0) (hT1 : Tab w 3 Sum.K) :
    Calls Tryz.prog 61 #[.slice A n c, .slice A' n' c', .slice A2 m c2] w fun e w' => e = .returned (.agg (arr .u8 (hkey salt key info))) ∧ Below w.heap.size w w' := by
  have hsl := fun W g => run_slice_arr_all (P := Tryz.prog) 22 5 32 g W Tryz.underlying22 (by kernel_rfl) (by omega)
  go_enter Tryz.func61, Tryz.ntmps61
  go_wp2_with (first
    | (refine wpList_alloc_Row (w := w) rfl 22 rfl .u8 32 zero_32 ?_; intro w1 r1 g1 z1)
    | (refine wpList_alloc_Row (w := w1) rfl 22 rfl .u8 32 zero_32 ?_; intro w2 r2 g2 z2))
  have b2 : Below w.heap.size w w2 := ((Below.refl _ w).grown g1 (Nat.le_refl _) (by simp)).grown g2 g1.size (by simp)
  obtain ⟨g, hg⟩ : ∃ g, w1.heap.size = g := ⟨_, rfl⟩
  have hgw : w.heap.size < g := by rw [← hg]; exact r1.lt
  rw [hg] at r2 ⊢
  have r12 := r1.grown g2 (by simp)
  clear hg r1 g1 g2 z1 z2
  refine (extract_any B B' A A' n c n' c' salt key w2 (h.below (b2.mono hB)) (by have := b2.size; omega) hc hc' hn (h'.below (b2.mono hB')) (by have := b2.size; omega) hd hd' hn' (hT0.below b2 hT0.lt) (hT1.below b2 hT1.lt)).mono ?_
  rintro e w3 ⟨rfl, hb3⟩
  have b3 := b2.trans (hb3.mono b2.size)
  have q2 := r2.below hb3 r2.lt
  have q1 := r12.below hb3 r12.lt
  clear hb3 b2 r2 r12
  go_wp2_with fail
  refine (expand_32 (tag salt key) info (tag_length _ _) (tag_wf _ _) B2 A2 m c2 w3 (h2.below (b3.mono hB2)) (by have := b3.size; omega) hmc hcm hm (hT0.below b3 hT0.lt) (hT1.below b3 hT1.lt)).mono ?_
  rintro e w4 ⟨ga, rfl, hga, ra, hb4⟩
  have b4 := b3.trans (hb4.mono b3.size)
  have p2 := q2.below hb4 q2.lt
  have p1 := q1.below hb4 q1.lt
  have hgl := q2.lt
  have HO := Lib.hid (out_length (tag salt key) info 32 (by omega))
  have ia := ra.ints (n := 32) (by rw [HO.out]; omega)
  rw [List.take_of_length_le (by rw [HO.out]; omega)] at ia
  have HW := Lib.hid (out_wf (tag salt key) info 32)
  clear hb4 b3 q2 q1 ra
  have hfold : out (tag salt key) info 32 = hkey salt key info := (hkey_def _ _ _).symm
  rw [hfold] at ia HO HW
  obtain ⟨ks, hks⟩ : ∃ ks, hkey salt key info = ks := ⟨_, rfl⟩
  rw [hks] at ia HO HW
  have HKS := Lib.hid hks
  clear hfold hks
  go_wp2_with (first
    | (refine wpList_copy_Row (w := w4) rfl _ _ 27 27 rfl 5 Tryz.underlying27 (by kernel_rfl) g 0 32 32 w4.heap.size (some ⟨ga, 0, none⟩) 32 32 rfl rfl 22 .u8 _ ks p2 ia (by simp) ?_; intro w5 r5 g5 z5; rw [List.take_of_length_le (by rw [HO.out]; omega), over_32 _ HO.out] at r5; have p15 := p1.grown g5 (by intro e; injection e with e; omega))
    | (refine wpList_load_Row (w := w5) rfl 22 _ rfl g rfl 22 .u8 _ r5 32 5 Tryz.underlying22 info_32 HO.out ?_)
    | (refine wpList_store_RowTo (w := w5) rfl 22 _ _ rfl w.heap.size rfl 22 .u8 _ ks rfl p15 32 info_32 HO.out (by simp) HW.out ?_; intro w6 r6 g6 z6))
  have b6 : Below w.heap.size w w6 := (b4.grown g5 b4.size (fun r e => by cases e; omega)).grown g6 (by have := b4.size; have := g5.size; omega) (fun r e => by cases e; exact Nat.le_refl _)
  exact bodyPost_ret (results_Row rfl _ _ w.heap.size _ _ _ rfl r6 32 5 Tryz.underlying22 info_32 HO.out) rfl ⟨by rw [HKS.out], b6⟩
end Go.Proofs.YtjelacblnjbfgaaGreatDoor.Hkdf
namespace Go.Proofs.YtjelacblnjbfgaaGreatDoor.Sha
open Go.RowKit Mem Help Go.Proofs.YtjelacblnjbfgaaGreatDoor.Sum
theorem pad_front (n : Nat) : (padI n).take (1 + (119 - n % 64) % 64) = 128 :: List.replicate ((119 - n % 64) % 64) 0 := by
  unfold padI
  rw [Nat.add_comm, List.take_succ_cons, List.take_left' (by simp)]
theorem pad_back (n k : Nat) (hk : k < 8) : (padI n).take (1 + (119 - n % 64) % 64 + (k + 1)) = (padI n).take (1 + (119 - n % 64) % 64 + k) ++ [((8 * n : Nat) : Int) / 2 ^ (56 - 8 * k) % 256] := by
  rw [show 1 + (119 - n % 64) % 64 + (k + 1) = 1 + (119 - n % 64) % 64 + k + 1 by omega, List.take_succ_eq_append_getElem (by rw [pad_length]; omega)]
  congr 2
  simp only [padI]
  rw [List.getElem_cons, dif_neg (by omega), List.getElem_append_right (by simp; omega)]
  simp only [List.length_replicate, List.getElem_map, List.getElem_range]
  have e : 1 + (119 - n % 64) % 64 + k - 1 - (119 - n % 64) % 64 = k := by omega
  rw [e]
theorem rpad_any (N : Int) (n : Nat) (w : World) (hN : (n : Int) = max N 0) (hn : n ≤ 17592186044416) :
    Calls Tryz.prog 116 #[.int .i64 N] w fun e w' => ∃ v, e = .returned v ∧ Mem.Own w' w.heap.size 5 .u8 v (padI n) ∧ Below w.heap.size w w' := by
  obtain ⟨z, hz⟩ : ∃ z, (119 - n % 64) % 64 = z := ⟨_, rfl⟩
  have hz64 : z < 64 := by omega
  have PF := Lib.hid (pad_front n)
  have PB := Lib.hid (pad_back n)
  have PL := Lib.hid (pad_length n)
  rw [hz] at PF PB PL
  have r1 : Row (w.alloc (.cells (arr .u8 [128]) 5)) w.heap.size 5 .u8 [128] := Row.new w _ (by simp; decide)
  have hown0 : Mem.Own (w.alloc (.cells (arr .u8 [128]) 5)) w.heap.size 5 .u8 (.slice (some ⟨w.heap.size, 0, none⟩) 1 1) [128] := r1.own (Nat.le_refl _) (n := 1) (by simp) (by simp [maxLen])
  have hbel0 : Below w.heap.size w (w.alloc (.cells (arr .u8 [128]) 5)) := (Below.refl _ w).alloc (Nat.le_refl _) _
  clear r1
  by_cases hneg : N ≤ 0
  · have e : n = 0 := by omega
    subst e
    have hz55 : z = 55 := by omega
    subst hz55
    clear hN hz
    go_enter Tryz.func116, Tryz.ntmps116
    go_wp2_with fail
    go_loopw [3] (fun v wr => ∃ k : Nat, k ≤ 55 ∧ Mem.Own wr w.heap.size 5 .u8 v (128 :: List.replicate k 0) ∧ Below w.heap.size w wr) (fun v _ => 55 + 1 - lenV v)
    case atStart => exact ⟨0, by omega, hown0, hbel0⟩
    case round =>
      clear hown0 hbel0
      obtain ⟨k, hk, hown, hbl⟩ := hrel
      obtain ⟨A, c, hv, hc1, hc2, hi⟩ := hown.form
      rw [List.length_cons, List.length_replicate] at hv hc1
      subst hv
      have hk64 : (k : Int) ≤ 64 := by omega
      by_cases hlt : k < 55
      · have hne : ¬ ((k : Int) + 1) % 64 = 56 := by omega
        have hneb : (((k : Int) + 1) % 64 != 56) = true := by simpa using hne
        have r0 : Row (wr.alloc (.cells (arr .u8 [0]) 5)) wr.heap.size 5 .u8 [0] := Row.new wr _ (by simp; decide)
        have i0 := r0.ints (n := 1) (by simp)
        have hsz := hbl.size
        go_wp2_with (at_builtin; refine wpList_append_ints _ rfl _ _ 27 rfl w.heap.size 5 .u8 1 Tryz.underlying27 info_u8 _ (128 :: List.replicate k 0) rfl (hown.alloc _) _ _ 1 1 [0] rfl i0 (by simp; omega) (by omega) (by simp; omega) ?_; intro v1 w1 hown1 hg1 hat1)
        go_roundw
        case rel =>
          refine ⟨k + 1, by omega, ?_, (hbl.alloc hsz _).grown hg1 (by simp; omega) (fun r e => ownBlock_ge hown.2.2 e)⟩
          have e : (128 :: List.replicate (k + 1) 0 : List Int) = (128 :: List.replicate k 0) ++ [0] := by rw [List.cons_append, ← List.replicate_succ']
          rw [e]; exact hown1
        case measure =>
          obtain ⟨A1, c1, hv1, _⟩ := hown1.form
          rw [hv1]
          simp [lenV]; omega
      · have hkz : k = 55 := by omega
        subst hkz
        have PF0 := PF.out
        rw [← PF0] at hown
        have hown : Mem.Own wr w.heap.size 5 .u8 (.slice A (55 + 1) c) ((padI 0).take (56 + 0)) := hown
        go_wp2_with fail
        go_loopw [3, 5] (fun v i wr => ∃ j : Nat, j ≤ 8 ∧ i = .int .i64 (7 - (j : Int)) ∧ Mem.Own wr w.heap.size 5 .u8 v ((padI 0).take (56 + j)) ∧ Below w.heap.size w wr) (fun _ i _ => (intOf i + 1).toNat)
        case atStart => exact ⟨0, by omega, rfl, hown, hbl⟩
        case round =>
          clear hown hbl
          obtain ⟨j, hj, rfl, hown, hbl⟩ := hrel
          have hlen : ((padI 0).take (56 + j)).length = 56 + j := by rw [List.length_take, PL.out]; omega
          obtain ⟨A, c, hv, hc1, hc2, hi⟩ := hown.form
          rw [hlen] at hv hc1
          subst hv
          have HLN := Lib.hid hlen
          clear hlen
          by_cases hlt8 : j < 8
          · have ei : (7 : Int) - (j : Int) = ((7 - j : Nat) : Int) := by omega
            rw [ei]
            obtain ⟨q, hq⟩ : ∃ q, 7 - j = q := ⟨_, rfl⟩
            rw [hq]
            have hq7 : q ≤ 7 := by omega
            have hq7i : (q : Int) ≤ 7 := by omega
            have hq0 : (0 : Int) ≤ (q : Int) := by omega
            have E := Lib.hid (show (0 : Int) = ((8 * 0 : Nat) : Int) / 2 ^ (56 - 8 * j) % 256 by rw [show 56 - 8 * j = 8 * q by omega]; simp)
            have hsz := hbl.size
            have rz : ∀ x : Int, 0 ≤ x → x ≤ 255 → Row (wr.alloc (.cells (arr .u8 [x]) 5)) wr.heap.size 5 .u8 [x] := fun x h1 h2 => Row.new wr _ (by simp [Lit.wf, IntKind.min, IntKind.max, IntKind.signed, IntKind.bits]; omega)
            have hx0 : (0 : Int) ≤ (0 : Int) := by omega
            have hx1 : (0 : Int) ≤ 255 := by omega
            have rx := rz _ hx0 hx1
            have ix := rx.ints (n := 1) (by simp)
            have HPB := Lib.hid (show (padI 0).take (56 + (j + 1)) = (padI 0).take (56 + j) ++ [((8 * 0 : Nat) : Int) / 2 ^ (56 - 8 * j) % 256] from PB.out j hlt8)
            clear rz hx0 hx1 ei
            go_wp2_with (at_builtin; refine wpList_append_ints _ rfl _ _ 27 rfl w.heap.size 5 .u8 1 Tryz.underlying27 info_u8 _ ((padI 0).take (56 + j)) rfl (hown.alloc _) _ _ 1 1 [(0 : Int)] rfl ix (by rw [HLN.out]; omega) (by omega) (by simp; omega) ?_; intro v1 w1 hown1 hg1 hat1)
            have own2 : Mem.Own w1 w.heap.size 5 .u8 v1 ((padI 0).take (56 + (j + 1))) := by rw [HPB.out, ← E.out]; exact hown1
            have bel2 : Below w.heap.size w w1 := (hbl.alloc hsz _).grown hg1 (by simp; omega) (fun r e => ownBlock_ge hown.2.2 e)
            have ej : Value.int .i64 ((q : Int) - 1) = .int .i64 (7 - ((j + 1 : Nat) : Int)) := by congr 1; omega
            go_roundw
            case rel => first | exact ⟨j + 1, by omega, ej, own2, bel2⟩ | ((repeat apply Exists.intro); exact ⟨⟨j + 1, by omega, ej, own2, bel2⟩, rfl⟩)
            case measure => simp [intOf]
          · have hj8 : j = 8 := by omega
            subst hj8
            have hall : (padI 0).take (56 + 8) = padI 0 := List.take_of_length_le (by rw [PL.out]; omega)
            rw [hall] at hown
            go_wp2_with fail
            go_ret
            exact ⟨_, rfl, hown, hbl⟩
  · have e : N = (n : Int) := by omega
    subst e
    have hnn : (n : Int) ≤ 17592186044416 := by omega
    have hn0 : (0 : Int) < (n : Int) := by omega
    clear hN hneg
    go_enter Tryz.func116, Tryz.ntmps116
    go_wp2_with fail
    go_loopw [3] (fun v wr => ∃ k : Nat, k ≤ z ∧ Mem.Own wr w.heap.size 5 .u8 v (128 :: List.replicate k 0) ∧ Below w.heap.size w wr) (fun v _ => z + 1 - lenV v)
    case atStart => exact ⟨0, by omega, hown0, hbel0⟩
    case round =>
      clear hown0 hbel0
      obtain ⟨k, hk, hown, hbl⟩ := hrel
      obtain ⟨A, c, hv, hc1, hc2, hi⟩ := hown.form
      rw [List.length_cons, List.length_replicate] at hv hc1
      subst hv
      have hk64 : (k : Int) ≤ 64 := by omega
      by_cases hlt : k < z
      · have hne : ¬ ((n : Int) + ((k : Int) + 1)) % 64 = 56 := by omega
        have hneb : (((n : Int) + ((k : Int) + 1)) % 64 != 56) = true := by simpa using hne
        have r0 : Row (wr.alloc (.cells (arr .u8 [0]) 5)) wr.heap.size 5 .u8 [0] := Row.new wr _ (by simp; decide)
        have i0 := r0.ints (n := 1) (by simp)
        have hsz := hbl.size
        go_wp2_with (at_builtin; refine wpList_append_ints _ rfl _ _ 27 rfl w.heap.size 5 .u8 1 Tryz.underlying27 info_u8 _ (128 :: List.replicate k 0) rfl (hown.alloc _) _ _ 1 1 [0] rfl i0 (by simp; omega) (by omega) (by simp; omega) ?_; intro v1 w1 hown1 hg1 hat1)
        go_roundw
        case rel =>
          refine ⟨k + 1, by omega, ?_, (hbl.alloc hsz _).grown hg1 (by simp; omega) (fun r e => ownBlock_ge hown.2.2 e)⟩
          have e : (128 :: List.replicate (k + 1) 0 : List Int) = (128 :: List.replicate k 0) ++ [0] := by rw [List.cons_append, ← List.replicate_succ']
          rw [e]; exact hown1
        case measure =>
          obtain ⟨A1, c1, hv1, _⟩ := hown1.form
          rw [hv1]
          simp [lenV]; omega
      · have hkz : k = z := by omega
        subst hkz
        rw [← PF.out] at hown
        have hnb : (((n : Int) + ((k : Int) + 1)) % 64 != 56) = false := by
          have : ((n : Int) + ((k : Int) + 1)) % 64 = 56 := by omega
          simpa using this
        go_wp2_with fail
        go_loopw [3, 5] (fun v i wr => ∃ j : Nat, j ≤ 8 ∧ i = .int .i64 (7 - (j : Int)) ∧ Mem.Own wr w.heap.size 5 .u8 v ((padI n).take (1 + k + j)) ∧ Below w.heap.size w wr) (fun _ i _ => (intOf i + 1).toNat)
        case atStart => exact ⟨0, by omega, rfl, hown, hbl⟩
        case round =>
          clear hown hbl
          obtain ⟨j, hj, rfl, hown, hbl⟩ := hrel
          have hlen : ((padI n).take (1 + k + j)).length = 1 + k + j := by rw [List.length_take, PL.out]; omega
          obtain ⟨A, c, hv, hc1, hc2, hi⟩ := hown.form
          rw [hlen] at hv hc1
          subst hv
          have HLN := Lib.hid hlen
          clear hlen
          by_cases hlt8 : j < 8
          · have ei : (7 : Int) - (j : Int) = ((7 - j : Nat) : Int) := by omega
            rw [ei]
            obtain ⟨q, hq⟩ : ∃ q, 7 - j = q := ⟨_, rfl⟩
            rw [hq]
            have hq7 : q ≤ 7 := by omega
            have hq7i : (q : Int) ≤ 7 := by omega
            have hq0 : (0 : Int) ≤ (q : Int) := by omega
            have E := Lib.hid (show ((n : Int) * 8) / 2 ^ (8 * q) % 256 = ((8 * n : Nat) : Int) / 2 ^ (56 - 8 * j) % 256 by rw [show 56 - 8 * j = 8 * q by omega]; congr 2; omega)
            have hsz := hbl.size
            have rz : ∀ x : Int, 0 ≤ x → x ≤ 255 → Row (wr.alloc (.cells (arr .u8 [x]) 5)) wr.heap.size 5 .u8 [x] := fun x h1 h2 => Row.new wr _ (by simp [Lit.wf, IntKind.min, IntKind.max, IntKind.signed, IntKind.bits]; omega)
            have hx0 : (0 : Int) ≤ ((n : Int) * 8) / 2 ^ (8 * q) % 256 := by omega
            have hx1 : ((n : Int) * 8) / 2 ^ (8 * q) % 256 ≤ 255 := by omega
            have rx := rz _ hx0 hx1
            have ix := rx.ints (n := 1) (by simp)
            have HPB := Lib.hid (PB.out j hlt8)
            clear rz hx0 hx1 ei
            go_wp2_with (at_builtin; refine wpList_append_ints _ rfl _ _ 27 rfl w.heap.size 5 .u8 1 Tryz.underlying27 info_u8 _ ((padI n).take (1 + k + j)) rfl (hown.alloc _) _ _ 1 1 [(n : Int) * 8 / 2 ^ (8 * q) % 256] rfl ix (by rw [HLN.out]; omega) (by omega) (by simp; omega) ?_; intro v1 w1 hown1 hg1 hat1)
            have own2 : Mem.Own w1 w.heap.size 5 .u8 v1 ((padI n).take (1 + k + (j + 1))) := by rw [HPB.out, ← E.out]; exact hown1
            have bel2 : Below w.heap.size w w1 := (hbl.alloc hsz _).grown hg1 (by simp; omega) (fun r e => ownBlock_ge hown.2.2 e)
            have ej : Value.int .i64 ((q : Int) - 1) = .int .i64 (7 - ((j + 1 : Nat) : Int)) := by congr 1; omega
            go_roundw
            case rel => first | exact ⟨j + 1, by omega, ej, own2, bel2⟩ | ((repeat apply Exists.intro); exact ⟨⟨j + 1, by omega, ej, own2, bel2⟩, rfl⟩)
            case measure => simp [intOf]
          · have hj8 : j = 8 := by omega
            subst hj8
            have hall : (padI n).take (1 + k + 8) = padI n := List.take_of_length_le (by rw [PL.out]; omega)
            rw [hall] at hown
            go_wp2_with fail
            go_ret
            exact ⟨_, rfl, hown, hbl⟩
end Go.Proofs.YtjelacblnjbfgaaGreatDoor.Sha
