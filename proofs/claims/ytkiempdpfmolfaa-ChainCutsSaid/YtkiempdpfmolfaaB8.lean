/-
  Package chain's alive, goesOn, bare, folded, finished, by their contracts.
  Which of two records stands ahead; the document's own sort, and neighbours that change places in rounds, as plain functions: they are the same.
  More steps of a region: a struct allocated, a list of structs built: no program here.
  One struct stored into a list whose block is known whole: no program here.
  Package merge's leads and settle by their contracts: which of two records stands ahead by either order; two neighbours of a list of the call's own.
  Lists of structs in a block that is filled step by step; append within the room: no program here.
  Appending a list of structs of any length, none among them, onto a list of the call's own; the library's slices.Clone and slices.Grow of records, by their contracts.
  Package chain's iterator over the carry and the records behind it, by its contract: it hands out each with its place.
  A region that draws its order and in the end stores into what it has loaded: what is loaded ahead of a store that waits for it may be taken first, as long as a condition holds till that store.
  The library's slices.Grow of no records and slices.Concat of two lists of records, by their contracts.
  The document's own ahead and Sort (dominoref14), by their contracts.
-/
import Derived.Test.YtkiempdpfmolfaaB6
import Derived.Test.YtkiempdpfmolfaaB7
import Derived.Test.YtkiempdpfmolfaaB4
import Derived.Test.YtkiempdpfmolfaaB5
import Derived.Test.YtkiempdpfmolfaaB2
import Derived.OwnWalk
import Derived.Lib.LazyBuf
import Derived.Test.YtkiempdpfmolfaaB1
set_option linter.unusedVariables false
namespace Go.Proofs.Ytkiempdpfmolfaa.Cn
open Go.RowKit Go.Shelf Go.Proofs.Ytkiempdpfmolfaa Mem Held Ct Rc Rs Sl Vm
attribute [local irreducible] wpList wpListIn Calls
theorem run_andNot_one {P : Program} (t : TypeId) (a b : Bool) (w : World) : (binOp .andNot t (.int .u64 (oneI a)) (.int .u64 (oneI b))).run P w = .ok (.int .u64 (oneI (a && !b))) w := by
  have : bits .andNot .u64 (oneI a) (oneI b) = oneI (a && !b) := by cases a <;> cases b <;> decide
  rw [← this]
  simp [binOp, Op.intBits, bits]
theorem run_or_one {P : Program} (t : TypeId) (a b : Bool) (w : World) : (binOp .or t (.int .u64 (oneI a)) (.int .u64 (oneI b))).run P w = .ok (.int .u64 (oneI (a || b))) w := by
  rw [← or_one a b]
  exact Held.run_bitop (by simp) t .u64 rfl w
theorem goes_eq (so r : R) : (!r.d && !(ahd r.d r.k so.d so.k || ahd so.d so.k r.d r.k)) = goesB so r := by
  unfold goesB ahd
  cases r.d <;> cases so.d <;> simp
  rw [Bool.eq_iff_iff]
  simp
  omega
theorem pick_cells (b : Bool) (x y : R) : pickV (oneI b) #[.bool x.d, .int .i64 x.k, .int .i64 x.v, .int .i64 x.s] #[.bool y.d, .int .i64 y.k, .int .i64 y.v, .int .i64 y.s] = #[.bool (if b = true then x else y).d, .int .i64 (if b = true then x else y).k, .int .i64 (if b = true then x else y).v, .int .i64 (if b = true then x else y).s] := by
  cases b <;> rfl
theorem bare_pick (r : R) : (if (!r.d) = true then (⟨false, r.k, r.v, 0⟩ : R) else RD) = bareR r := by
  unfold bareR
  cases r.d <;> rfl
theorem fin_pick (G : Int → Int → Int) (r : R) : (if (!r.d) = true then (⟨false, r.k, G r.k r.v, 0⟩ : R) else RD) = finR G r := by
  unfold finR
  cases r.d <;> rfl
theorem pick_rec (b : Bool) (x y z : R) (hz : (if b = true then x else y) = z) (hx : x.wf) (hy : y.wf) (w : World) : Calls Try.prog 23 #[.int .u64 (oneI b), .agg #[.bool x.d, .int .i64 x.k, .int .i64 x.v, .int .i64 x.s], .agg #[.bool y.d, .int .i64 y.k, .int .i64 y.v, .int .i64 y.s]] w fun e w' => e = .returned (.agg #[.bool z.d, .int .i64 z.k, .int .i64 z.v, .int .i64 z.s]) ∧ Below w.heap.size w w' := by
  subst hz
  have h := pick_any (oneI b) x.d x.k x.v x.s y.d y.k y.v y.s (one_wf b) hx.1 hx.2.1 hx.2.2 hy.1 hy.2.1 hy.2.2 w
  rw [pick_cells] at h
  exact h
set_option maxRecDepth 100000 in
set_option maxHeartbeats 4000000 in
theorem alive_any (ra : R) (hra : ra.wf) (w : World) :
    Calls Try.prog 35 #[.agg #[.bool ra.d, .int .i64 ra.k, .int .i64 ra.v, .int .i64 ra.s]] w fun e w' => e = .returned (.int .u64 (oneI (!ra.d))) ∧ Below w.heap.size w w' := by
  go_enter Try.func35, Try.ntmps35
  go_wp2_with (refine wpList_box_blk (w := w) rfl 26 _ rfl #[.bool ra.d, .int .i64 ra.k, .int .i64 ra.v, .int .i64 ra.s] rfl ?_; intro wra qra gra zra)
  have bz : Below w.heap.size w wra := (Below.refl _ w).grown gra (Nat.le_refl _) (by simp)
  have lra := qra.lt
  clear gra zra
  refine wp_region_held (S := fun W => Below wra.heap.size wra W) (by kernel_rfl) ?_
  change wpAnyH _ _ _ _ _ _ _ _ wra.drew
  have c0_0 := (Below.refl wra.heap.size wra).drew
  refine Held.tk (v := .agg #[.bool ra.d, .int .i64 ra.k, .int .i64 ra.v, .int .i64 ra.s]) 0 (some 3) rfl (Held.y_load_blk (n := 4) rfl rfl Try.underlying26 rfl (by kernel_rfl) rfl (fun W hW => qra.below hW qra.lt)) c0_0 ?_
  simp only [Act.put, Z1, Z2, Z3]
  refine Held.one 1 (by kernel_rfl) ?_
  refine Held.op_call 1 (some 4) 18 #[] rfl rfl rfl rfl (enters_of Try.func18 (by kernel_rfl) rfl) (by simp)
    (dead_any _) ?_
  rintro e w1 ⟨rfl, b1⟩
  have c0_1 := c0_0.trans (b1.mono c0_0.size)
  refine ⟨_, rfl, c0_1, ?_⟩
  simp only [Act.put, Z1, Z2, Z3]
  refine Held.one 2 (by kernel_rfl) ?_
  refine Held.op_call 2 (some 5) 36 #[.agg #[.bool ra.d, .int .i64 ra.k, .int .i64 ra.v, .int .i64 ra.s], .agg #[.bool true, .int .i64 0, .int .i64 0, .int .i64 0]] rfl rfl rfl rfl (enters_of Try.func36 (by kernel_rfl) rfl) (by simp [Act.eval])
    (ahead_any ra.d ra.k ra.v ra.s true 0 0 0 hra.1 hra.2.2 wf_dead.1 wf_dead.2.2 _) ?_
  rintro e w2 ⟨rfl, b2⟩
  have c0_2 := c0_1.trans (b2.mono c0_1.size)
  refine ⟨_, rfl, c0_2, ?_⟩
  simp only [Act.put, Z1, Z2, Z3]
  refine Held.tk (v := .int .u64 (oneI (ahd ra.d ra.k true 0))) 3 (some 2) rfl (Held.y_assign rfl rfl) c0_2 ?_
  simp only [Act.put, Z1, Z2, Z3]
  refine wpAnyH_done (by kernel_rfl) ?_ _
  have dz := bz.trans (c0_2.mono bz.size)
  go_wp2_with fail
  go_ret
  exact ⟨Mem.ret_int (by rw [show ahd ra.d ra.k true 0 = !ra.d by unfold ahd; simp]), dz⟩
set_option maxRecDepth 100000 in
set_option maxHeartbeats 4000000 in
theorem goes_any (so ra : R) (hso : so.wf) (hra : ra.wf) (w : World) :
    Calls Try.prog 22 #[.agg #[.bool so.d, .int .i64 so.k, .int .i64 so.v, .int .i64 so.s], .agg #[.bool ra.d, .int .i64 ra.k, .int .i64 ra.v, .int .i64 ra.s]] w fun e w' => e = .returned (.int .u64 (oneI (goesB so ra))) ∧ Below w.heap.size w w' := by
  go_enter Try.func22, Try.ntmps22
  go_wp2_with (first
    | (refine wpList_box_blk (w := w) rfl 26 _ rfl #[.bool so.d, .int .i64 so.k, .int .i64 so.v, .int .i64 so.s] rfl ?_; intro wso qso gso zso)
    | (refine wpList_box_blk (w := wso) rfl 26 _ rfl #[.bool ra.d, .int .i64 ra.k, .int .i64 ra.v, .int .i64 ra.s] rfl ?_; intro wra qra gra zra))
  have bz : Below w.heap.size w wra := ((Below.refl _ w).grown gso (Nat.le_refl _) (by simp)).grown gra (gso.size) (by simp)
  have lso := qso.lt
  have lra := qra.lt
  have qso := (qso).grown gra (by simp)
  clear gso zso gra zra
  refine wp_region_held (S := fun W => Below wra.heap.size wra W) (by kernel_rfl) ?_
  change wpAnyH _ _ _ _ _ _ _ _ wra.drew
  have c0_0 := (Below.refl wra.heap.size wra).drew
  refine Held.tk (v := .agg #[.bool ra.d, .int .i64 ra.k, .int .i64 ra.v, .int .i64 ra.s]) 0 (some 5) rfl (Held.y_load_blk (n := 4) rfl rfl Try.underlying26 rfl (by kernel_rfl) rfl (fun W hW => qra.below hW qra.lt)) c0_0 ?_
  simp only [Act.put, Z1, Z2, Z3]
  refine Held.tk (v := .agg #[.bool ra.d, .int .i64 ra.k, .int .i64 ra.v, .int .i64 ra.s]) 2 (some 7) rfl (Held.y_load_blk (n := 4) rfl rfl Try.underlying26 rfl (by kernel_rfl) rfl (fun W hW => qra.below hW qra.lt)) c0_0 ?_
  simp only [Act.put, Z1, Z2, Z3]
  refine Held.tk (v := .agg #[.bool so.d, .int .i64 so.k, .int .i64 so.v, .int .i64 so.s]) 3 (some 8) rfl (Held.y_load_blk (n := 4) rfl rfl Try.underlying26 rfl (by kernel_rfl) rfl (fun W hW => qso.below hW qso.lt)) c0_0 ?_
  simp only [Act.put, Z1, Z2, Z3]
  refine Held.tk (v := .agg #[.bool so.d, .int .i64 so.k, .int .i64 so.v, .int .i64 so.s]) 5 (some 10) rfl (Held.y_load_blk (n := 4) rfl rfl Try.underlying26 rfl (by kernel_rfl) rfl (fun W hW => qso.below hW qso.lt)) c0_0 ?_
  simp only [Act.put, Z1, Z2, Z3]
  refine Held.tk (v := .agg #[.bool ra.d, .int .i64 ra.k, .int .i64 ra.v, .int .i64 ra.s]) 6 (some 11) rfl (Held.y_load_blk (n := 4) rfl rfl Try.underlying26 rfl (by kernel_rfl) rfl (fun W hW => qra.below hW qra.lt)) c0_0 ?_
  simp only [Act.put, Z1, Z2, Z3]
  refine Held.one 1 (by kernel_rfl) ?_
  refine Held.op_call 1 (some 6) 35 #[.agg #[.bool ra.d, .int .i64 ra.k, .int .i64 ra.v, .int .i64 ra.s]] rfl rfl rfl rfl (enters_of Try.func35 (by kernel_rfl) rfl) (by simp [Act.eval])
    (alive_any ra hra _) ?_
  rintro e w1 ⟨rfl, b1⟩
  have c0_1 := c0_0.trans (b1.mono c0_0.size)
  refine ⟨_, rfl, c0_1, ?_⟩
  simp only [Act.put, Z1, Z2, Z3]
  refine Held.one 4 (by kernel_rfl) ?_
  refine Held.op_call 4 (some 9) 36 #[.agg #[.bool ra.d, .int .i64 ra.k, .int .i64 ra.v, .int .i64 ra.s], .agg #[.bool so.d, .int .i64 so.k, .int .i64 so.v, .int .i64 so.s]] rfl rfl rfl rfl (enters_of Try.func36 (by kernel_rfl) rfl) (by simp [Act.eval])
    (ahead_any ra.d ra.k ra.v ra.s so.d so.k so.v so.s hra.1 hra.2.2 hso.1 hso.2.2 _) ?_
  rintro e w2 ⟨rfl, b2⟩
  have c0_2 := c0_1.trans (b2.mono c0_1.size)
  refine ⟨_, rfl, c0_2, ?_⟩
  simp only [Act.put, Z1, Z2, Z3]
  refine Held.one 7 (by kernel_rfl) ?_
  refine Held.op_call 7 (some 12) 36 #[.agg #[.bool so.d, .int .i64 so.k, .int .i64 so.v, .int .i64 so.s], .agg #[.bool ra.d, .int .i64 ra.k, .int .i64 ra.v, .int .i64 ra.s]] rfl rfl rfl rfl (enters_of Try.func36 (by kernel_rfl) rfl) (by simp [Act.eval])
    (ahead_any so.d so.k so.v so.s ra.d ra.k ra.v ra.s hso.1 hso.2.2 hra.1 hra.2.2 _) ?_
  rintro e w3 ⟨rfl, b3⟩
  have c0_3 := c0_2.trans (b3.mono c0_2.size)
  refine ⟨_, rfl, c0_3, ?_⟩
  simp only [Act.put, Z1, Z2, Z3]
  refine Held.tk (v := .int .u64 (oneI (ahd ra.d ra.k so.d so.k || ahd so.d so.k ra.d ra.k))) 8 (some 13) rfl (Held.y_int rfl rfl rfl (run_or_one _ _ _)) c0_3 ?_
  simp only [Act.put, Z1, Z2, Z3]
  refine Held.tk (v := .int .u64 (oneI (!ra.d && !(ahd ra.d ra.k so.d so.k || ahd so.d so.k ra.d ra.k)))) 9 (some 14) rfl (Held.y_int rfl rfl rfl (run_andNot_one _ _ _)) c0_3 ?_
  simp only [Act.put, Z1, Z2, Z3]
  refine Held.tk (v := .int .u64 (oneI (!ra.d && !(ahd ra.d ra.k so.d so.k || ahd so.d so.k ra.d ra.k)))) 10 (some 4) rfl (Held.y_assign rfl rfl) c0_3 ?_
  simp only [Act.put, Z1, Z2, Z3]
  refine wpAnyH_done (by kernel_rfl) ?_ _
  have dz := bz.trans (c0_3.mono bz.size)
  go_wp2_with fail
  go_ret
  exact ⟨Mem.ret_int (by rw [goes_eq]), dz⟩
set_option maxRecDepth 100000 in
set_option maxHeartbeats 4000000 in
theorem bare_any (ra : R) (hra : ra.wf) (w : World) :
    Calls Try.prog 21 #[.agg #[.bool ra.d, .int .i64 ra.k, .int .i64 ra.v, .int .i64 ra.s]] w fun e w' => e = .returned (.agg #[.bool (bareR ra).d, .int .i64 (bareR ra).k, .int .i64 (bareR ra).v, .int .i64 (bareR ra).s]) ∧ Below w.heap.size w w' := by
  go_enter Try.func21, Try.ntmps21
  have hbuilt : (⟨false, ra.k, ra.v, 0⟩ : R).wf := ⟨hra.1, hra.2.1, rfl⟩
  go_wp2_with (first
    | (refine wpList_box_blk (w := w) rfl 26 _ rfl #[.bool ra.d, .int .i64 ra.k, .int .i64 ra.v, .int .i64 ra.s] rfl ?_; intro wra qra gra zra)
    | (refine wpList_alloc_blk (w := wra) rfl 26 rfl _ zero_rec ?_; intro wz qz gz zz))
  have bz : Below w.heap.size w wz := ((Below.refl _ w).grown gra (Nat.le_refl _) (by simp)).grown gz (gra.size) (by simp)
  have lra := qra.lt
  have lz := qz.lt
  have qra := (qra).grown gz (by simp)
  have lz : wra.heap.size ≤ wz.heap.size := Nat.le_of_lt lz
  have mra : w.heap.size < wra.heap.size := lra
  have hwt : w.heap.size ≤ wra.heap.size := Nat.le_of_lt mra
  clear gra zra gz zz
  refine wp_region_held (S := fun W => Below wra.heap.size wz W) (by kernel_rfl) ?_
  change wpAnyH _ _ _ _ _ _ _ _ wz.drew
  have c0_0 := (Below.refl wz.heap.size wz).drew
  refine Held.tk (v := .agg #[.bool ra.d, .int .i64 ra.k, .int .i64 ra.v, .int .i64 ra.s]) 0 (some 3) rfl (Held.y_load_blk (n := 4) rfl rfl Try.underlying26 rfl (by kernel_rfl) rfl (fun W hW => qra.below hW mra)) (c0_0.mono lz) ?_
  simp only [Act.put, Z1, Z2, Z3]
  refine Held.tk (v := .pointer (some ⟨w.heap.size, 1, none⟩)) 2 (some 5) rfl (Held.y_field (k := 1) (s := 0) rfl rfl Try.underlying26 rfl (by kernel_rfl) rfl) (c0_0.mono lz) ?_
  simp only [Act.put, Z1, Z2, Z3]
  refine Held.tk (v := .int .i64 ra.k) 3 (some 6) rfl (Held.y_load rfl rfl (by kernel_rfl) (fun W hW => (qra.below hW mra).cell rfl)) (c0_0.mono lz) ?_
  simp only [Act.put, Z1, Z2, Z3]
  refine Held.tk (v := .pointer (some ⟨w.heap.size, 2, none⟩)) 4 (some 7) rfl (Held.y_field (k := 2) (s := 0) rfl rfl Try.underlying26 rfl (by kernel_rfl) rfl) (c0_0.mono lz) ?_
  simp only [Act.put, Z1, Z2, Z3]
  refine Held.tk (v := .int .i64 ra.v) 5 (some 8) rfl (Held.y_load rfl rfl (by kernel_rfl) (fun W hW => (qra.below hW mra).cell rfl)) (c0_0.mono lz) ?_
  simp only [Act.put, Z1, Z2, Z3]
  refine Held.tk (v := .agg #[.bool false, .int .i64 ra.k, .int .i64 ra.v, .int .i64 0]) 6 (some 9) rfl (Held.y_build rfl (by kernel_rfl)) (c0_0.mono lz) ?_
  simp only [Act.put, Z1, Z2, Z3]
  refine Held.one 1 (by kernel_rfl) ?_
  refine Held.op_call 1 (some 4) 35 #[.agg #[.bool ra.d, .int .i64 ra.k, .int .i64 ra.v, .int .i64 ra.s]] rfl rfl rfl rfl (enters_of Try.func35 (by kernel_rfl) rfl) (by simp [Act.eval])
    (alive_any ra hra _) ?_
  rintro e w1 ⟨rfl, b1⟩
  have c0_1 := c0_0.trans (b1.mono c0_0.size)
  refine ⟨_, rfl, (c0_1.mono lz), ?_⟩
  simp only [Act.put, Z1, Z2, Z3]
  refine Held.one 7 (by kernel_rfl) ?_
  refine Held.op_call 7 (some 10) 18 #[] rfl rfl rfl rfl (enters_of Try.func18 (by kernel_rfl) rfl) (by simp)
    (dead_any _) ?_
  rintro e w2 ⟨rfl, b2⟩
  have c0_2 := c0_1.trans (b2.mono c0_1.size)
  refine ⟨_, rfl, (c0_2.mono lz), ?_⟩
  simp only [Act.put, Z1, Z2, Z3]
  refine Held.one 8 (by kernel_rfl) ?_
  refine Held.op_call 8 (some 11) 23 #[.int .u64 (oneI (!ra.d)), .agg #[.bool false, .int .i64 ra.k, .int .i64 ra.v, .int .i64 0], .agg #[.bool true, .int .i64 0, .int .i64 0, .int .i64 0]] rfl rfl rfl rfl (enters_of Try.func23 (by kernel_rfl) rfl) (by simp [Act.eval])
    (pick_rec (!ra.d) ⟨false, ra.k, ra.v, 0⟩ RD (bareR ra) (bare_pick ra) hbuilt wf_dead _) ?_
  rintro e w3 ⟨rfl, b3⟩
  have c0_3 := c0_2.trans (b3.mono c0_2.size)
  refine ⟨_, rfl, (c0_3.mono lz), ?_⟩
  simp only [Act.put, Z1, Z2, Z3]
  refine Held.one 9 (by kernel_rfl) ?_
  have qz := qz.below c0_3 qz.lt
  refine Held.op_store_blk 9 none 26 wra.heap.size 4 26 _ #[.bool (bareR ra).d, .int .i64 (bareR ra).k, .int .i64 (bareR ra).v, .int .i64 (bareR ra).s] rfl rfl rfl rfl rfl rfl qz info_rec rfl rfl (by kernel_rfl) ?_
  intro w4 qz g4
  have d4 := (bz.trans (c0_3.mono bz.size)).grown g4 (Nat.le_trans bz.size c0_3.size) (fun r e => by cases e; exact hwt)
  have c4 := (c0_3.mono lz).grown g4 (Nat.le_trans lz c0_3.size) (fun r e => by cases e; exact Nat.le_refl _)
  refine ⟨c4, ?_⟩
  simp only [Act.put]
  refine wpAnyH_done (by kernel_rfl) ?_ _
  go_wp2_with fail
  skip
  exact bodyPost_ret (results_blk rfl _ _ wra.heap.size 4 _ _ rfl qz _ Try.underlying26 rfl info_rec rfl) rfl ⟨rfl, d4⟩
set_option maxRecDepth 100000 in
set_option maxHeartbeats 4000000 in
theorem folded_one (B : Nat) (K : Int) (A1 A2 A3 : Option Addr) (n1 c1 n2 c2 n3 c3 : Nat) (m f fi : List O) (so ra : R) (hso : so.wf) (hra : ra.wf) (w : World) (h1 : Lst kO w B A1 n1 m) (h2 : Lst kO w B A2 n2 f) (h3 : Lst kO w B A3 n3 fi) (hB : B ≤ w.heap.size) :
    Calls Try.prog 25 #[.agg #[.int .i64 K, .slice A1 n1 c1, .slice A2 n2 c2, .slice A3 n3 c3], .agg #[.bool so.d, .int .i64 so.k, .int .i64 so.v, .int .i64 so.s], .agg #[.bool ra.d, .int .i64 ra.k, .int .i64 ra.v, .int .i64 ra.s]] w fun e w' => e = .returned (.agg #[.bool (joinR (foldV K m f fi) so ra).d, .int .i64 (joinR (foldV K m f fi) so ra).k, .int .i64 (joinR (foldV K m f fi) so ra).v, .int .i64 (joinR (foldV K m f fi) so ra).s]) ∧ Below w.heap.size w w' := by
  go_enter Try.func25, Try.ntmps25
  go_wp2_with (first
    | (refine wpList_box_blk (w := w) rfl 24 _ rfl #[.int .i64 K, .slice A1 n1 c1, .slice A2 n2 c2, .slice A3 n3 c3] rfl ?_; intro wpp qpp gpp zpp)
    | (refine wpList_box_blk (w := wpp) rfl 26 _ rfl #[.bool so.d, .int .i64 so.k, .int .i64 so.v, .int .i64 so.s] rfl ?_; intro wso qso gso zso)
    | (refine wpList_box_blk (w := wso) rfl 26 _ rfl #[.bool ra.d, .int .i64 ra.k, .int .i64 ra.v, .int .i64 ra.s] rfl ?_; intro wra qra gra zra)
    | (refine wpList_alloc_blk (w := wra) rfl 26 rfl _ zero_rec ?_; intro wz qz gz zz))
  have bz : Below w.heap.size w wz := ((((Below.refl _ w).grown gpp (Nat.le_refl _) (by simp)).grown gso (gpp.size) (by simp)).grown gra (Nat.le_trans (gpp.size) gso.size) (by simp)).grown gz (Nat.le_trans (Nat.le_trans (gpp.size) gso.size) gra.size) (by simp)
  have lpp := qpp.lt
  have lso := qso.lt
  have lra := qra.lt
  have lz := qz.lt
  have qpp := (((qpp).grown gso (by simp)).grown gra (by simp)).grown gz (by simp)
  have qso := ((qso).grown gra (by simp)).grown gz (by simp)
  have qra := (qra).grown gz (by simp)
  have lz : wra.heap.size ≤ wz.heap.size := Nat.le_of_lt lz
  have mpp : w.heap.size < wra.heap.size := Nat.lt_of_lt_of_le lpp (Nat.le_trans (gso.size) gra.size)
  have mso : wpp.heap.size < wra.heap.size := Nat.lt_of_lt_of_le lso (gra.size)
  have mra : wso.heap.size < wra.heap.size := lra
  have hwt : w.heap.size ≤ wra.heap.size := Nat.le_of_lt mpp
  clear gpp zpp gso zso gra zra gz zz
  have hBz := Nat.le_trans hB bz.size
  have h1 := h1.below (bz.mono hB)
  have h2 := h2.below (bz.mono hB)
  have h3 := h3.below (bz.mono hB)
  refine wp_region_held (S := fun W => Below wra.heap.size wz W) (by kernel_rfl) ?_
  change wpAnyH _ _ _ _ _ _ _ _ wz.drew
  have c0_0 := (Below.refl wz.heap.size wz).drew
  refine Held.tk (v := .pointer (some ⟨wpp.heap.size, 1, none⟩)) 0 (some 7) rfl (Held.y_field (k := 1) (s := 0) rfl rfl Try.underlying26 rfl (by kernel_rfl) rfl) (c0_0.mono lz) ?_
  simp only [Act.put, Z1, Z2, Z3]
  refine Held.tk (v := .int .i64 so.k) 1 (some 8) rfl (Held.y_load rfl rfl (by kernel_rfl) (fun W hW => (qso.below hW mso).cell rfl)) (c0_0.mono lz) ?_
  simp only [Act.put, Z1, Z2, Z3]
  refine Held.tk (v := .agg #[.int .i64 K, .slice A1 n1 c1, .slice A2 n2 c2, .slice A3 n3 c3]) 2 (some 9) rfl (Held.y_load_blk (n := 4) rfl rfl Try.underlying24 rfl (by kernel_rfl) rfl (fun W hW => qpp.below hW mpp)) (c0_0.mono lz) ?_
  simp only [Act.put, Z1, Z2, Z3]
  refine Held.tk (v := .pointer (some ⟨wpp.heap.size, 2, none⟩)) 3 (some 10) rfl (Held.y_field (k := 2) (s := 0) rfl rfl Try.underlying26 rfl (by kernel_rfl) rfl) (c0_0.mono lz) ?_
  simp only [Act.put, Z1, Z2, Z3]
  refine Held.tk (v := .int .i64 so.v) 4 (some 11) rfl (Held.y_load rfl rfl (by kernel_rfl) (fun W hW => (qso.below hW mso).cell rfl)) (c0_0.mono lz) ?_
  simp only [Act.put, Z1, Z2, Z3]
  refine Held.tk (v := .pointer (some ⟨wso.heap.size, 2, none⟩)) 5 (some 12) rfl (Held.y_field (k := 2) (s := 0) rfl rfl Try.underlying26 rfl (by kernel_rfl) rfl) (c0_0.mono lz) ?_
  simp only [Act.put, Z1, Z2, Z3]
  refine Held.tk (v := .int .i64 ra.v) 6 (some 13) rfl (Held.y_load rfl rfl (by kernel_rfl) (fun W hW => (qra.below hW mra).cell rfl)) (c0_0.mono lz) ?_
  simp only [Act.put, Z1, Z2, Z3]
  refine Held.one 7 (by kernel_rfl) ?_
  refine Held.op_call 7 (some 14) 41 #[.agg #[.int .i64 K, .slice A1 n1 c1, .slice A2 n2 c2, .slice A3 n3 c3], .int .i64 so.v, .int .i64 ra.v] rfl rfl rfl rfl (enters_of Try.func41 (by kernel_rfl) rfl) (by simp [Act.eval])
    (fold_any B K A1 A2 A3 n1 c1 n2 c2 n3 c3 m f fi so.v ra.v _ hso.2.1 hra.2.1 (h1.below (c0_0.mono hBz)) (h2.below (c0_0.mono hBz)) (h3.below (c0_0.mono hBz)) (Nat.le_trans hBz c0_0.size)) ?_
  rintro e w1 ⟨rfl, b1⟩
  have c0_1 := c0_0.trans (b1.mono c0_0.size)
  refine ⟨_, rfl, (c0_1.mono lz), ?_⟩
  simp only [Act.put, Z1, Z2, Z3]
  refine Held.tk (v := .agg #[.bool false, .int .i64 so.k, .int .i64 (foldV K m f fi so.v ra.v), .int .i64 0]) 8 (some 15) rfl (Held.y_build rfl (by kernel_rfl)) (c0_1.mono lz) ?_
  simp only [Act.put, Z1, Z2, Z3]
  refine Held.one 9 (by kernel_rfl) ?_
  have qz := qz.below c0_1 qz.lt
  refine Held.op_store_blk 9 none 26 wra.heap.size 4 26 _ #[.bool false, .int .i64 so.k, .int .i64 (foldV K m f fi so.v ra.v), .int .i64 0] rfl rfl rfl rfl rfl rfl qz info_rec rfl rfl (by kernel_rfl) ?_
  intro w2 qz g2
  have d2 := (bz.trans (c0_1.mono bz.size)).grown g2 (Nat.le_trans bz.size c0_1.size) (fun r e => by cases e; exact hwt)
  have c2 := (c0_1.mono lz).grown g2 (Nat.le_trans lz c0_1.size) (fun r e => by cases e; exact Nat.le_refl _)
  refine ⟨c2, ?_⟩
  simp only [Act.put]
  refine wpAnyH_done (by kernel_rfl) ?_ _
  go_wp2_with fail
  skip
  exact bodyPost_ret (results_blk rfl _ _ wra.heap.size 4 _ _ rfl qz _ Try.underlying26 rfl info_rec rfl) rfl ⟨rfl, d2⟩
set_option maxRecDepth 100000 in
set_option maxHeartbeats 4000000 in
theorem finished_any (B : Nat) (K : Int) (A1 A2 A3 : Option Addr) (n1 c1 n2 c2 n3 c3 : Nat) (m f fi : List O) (so : R) (hso : so.wf) (w : World) (h1 : Lst kO w B A1 n1 m) (h2 : Lst kO w B A2 n2 f) (h3 : Lst kO w B A3 n3 fi) (hB : B ≤ w.heap.size) :
    Calls Try.prog 24 #[.agg #[.int .i64 K, .slice A1 n1 c1, .slice A2 n2 c2, .slice A3 n3 c3], .agg #[.bool so.d, .int .i64 so.k, .int .i64 so.v, .int .i64 so.s]] w fun e w' => e = .returned (.agg #[.bool (finR (finishV K m f fi) so).d, .int .i64 (finR (finishV K m f fi) so).k, .int .i64 (finR (finishV K m f fi) so).v, .int .i64 (finR (finishV K m f fi) so).s]) ∧ Below w.heap.size w w' := by
  go_enter Try.func24, Try.ntmps24
  have hbuilt : (⟨false, so.k, finishV K m f fi so.k so.v, 0⟩ : R).wf := ⟨hso.1, Sp.finishV_wf h3.2.1 _ _ hso.1 hso.2.1, rfl⟩
  go_wp2_with (first
    | (refine wpList_box_blk (w := w) rfl 24 _ rfl #[.int .i64 K, .slice A1 n1 c1, .slice A2 n2 c2, .slice A3 n3 c3] rfl ?_; intro wpp qpp gpp zpp)
    | (refine wpList_box_blk (w := wpp) rfl 26 _ rfl #[.bool so.d, .int .i64 so.k, .int .i64 so.v, .int .i64 so.s] rfl ?_; intro wso qso gso zso)
    | (refine wpList_alloc_blk (w := wso) rfl 26 rfl _ zero_rec ?_; intro wz qz gz zz))
  have bz : Below w.heap.size w wz := (((Below.refl _ w).grown gpp (Nat.le_refl _) (by simp)).grown gso (gpp.size) (by simp)).grown gz (Nat.le_trans (gpp.size) gso.size) (by simp)
  have lpp := qpp.lt
  have lso := qso.lt
  have lz := qz.lt
  have qpp := ((qpp).grown gso (by simp)).grown gz (by simp)
  have qso := (qso).grown gz (by simp)
  have lz : wso.heap.size ≤ wz.heap.size := Nat.le_of_lt lz
  have mpp : w.heap.size < wso.heap.size := Nat.lt_of_lt_of_le lpp (gso.size)
  have mso : wpp.heap.size < wso.heap.size := lso
  have hwt : w.heap.size ≤ wso.heap.size := Nat.le_of_lt mpp
  clear gpp zpp gso zso gz zz
  have hBz := Nat.le_trans hB bz.size
  have h1 := h1.below (bz.mono hB)
  have h2 := h2.below (bz.mono hB)
  have h3 := h3.below (bz.mono hB)
  refine wp_region_held (S := fun W => Below wso.heap.size wz W) (by kernel_rfl) ?_
  change wpAnyH _ _ _ _ _ _ _ _ wz.drew
  have c0_0 := (Below.refl wz.heap.size wz).drew
  refine Held.tk (v := .agg #[.bool so.d, .int .i64 so.k, .int .i64 so.v, .int .i64 so.s]) 0 (some 5) rfl (Held.y_load_blk (n := 4) rfl rfl Try.underlying26 rfl (by kernel_rfl) rfl (fun W hW => qso.below hW mso)) (c0_0.mono lz) ?_
  simp only [Act.put, Z1, Z2, Z3]
  refine Held.tk (v := .pointer (some ⟨wpp.heap.size, 1, none⟩)) 2 (some 7) rfl (Held.y_field (k := 1) (s := 0) rfl rfl Try.underlying26 rfl (by kernel_rfl) rfl) (c0_0.mono lz) ?_
  simp only [Act.put, Z1, Z2, Z3]
  refine Held.tk (v := .int .i64 so.k) 3 (some 8) rfl (Held.y_load rfl rfl (by kernel_rfl) (fun W hW => (qso.below hW mso).cell rfl)) (c0_0.mono lz) ?_
  simp only [Act.put, Z1, Z2, Z3]
  refine Held.tk (v := .agg #[.int .i64 K, .slice A1 n1 c1, .slice A2 n2 c2, .slice A3 n3 c3]) 4 (some 9) rfl (Held.y_load_blk (n := 4) rfl rfl Try.underlying24 rfl (by kernel_rfl) rfl (fun W hW => qpp.below hW mpp)) (c0_0.mono lz) ?_
  simp only [Act.put, Z1, Z2, Z3]
  refine Held.tk (v := .pointer (some ⟨wpp.heap.size, 1, none⟩)) 5 (some 10) rfl (Held.y_field (k := 1) (s := 0) rfl rfl Try.underlying26 rfl (by kernel_rfl) rfl) (c0_0.mono lz) ?_
  simp only [Act.put, Z1, Z2, Z3]
  refine Held.tk (v := .int .i64 so.k) 6 (some 11) rfl (Held.y_load rfl rfl (by kernel_rfl) (fun W hW => (qso.below hW mso).cell rfl)) (c0_0.mono lz) ?_
  simp only [Act.put, Z1, Z2, Z3]
  refine Held.tk (v := .pointer (some ⟨wpp.heap.size, 2, none⟩)) 7 (some 12) rfl (Held.y_field (k := 2) (s := 0) rfl rfl Try.underlying26 rfl (by kernel_rfl) rfl) (c0_0.mono lz) ?_
  simp only [Act.put, Z1, Z2, Z3]
  refine Held.tk (v := .int .i64 so.v) 8 (some 13) rfl (Held.y_load rfl rfl (by kernel_rfl) (fun W hW => (qso.below hW mso).cell rfl)) (c0_0.mono lz) ?_
  simp only [Act.put, Z1, Z2, Z3]
  refine Held.one 1 (by kernel_rfl) ?_
  refine Held.op_call 1 (some 6) 35 #[.agg #[.bool so.d, .int .i64 so.k, .int .i64 so.v, .int .i64 so.s]] rfl rfl rfl rfl (enters_of Try.func35 (by kernel_rfl) rfl) (by simp [Act.eval])
    (alive_any so hso _) ?_
  rintro e w1 ⟨rfl, b1⟩
  have c0_1 := c0_0.trans (b1.mono c0_0.size)
  refine ⟨_, rfl, (c0_1.mono lz), ?_⟩
  simp only [Act.put, Z1, Z2, Z3]
  refine Held.one 9 (by kernel_rfl) ?_
  refine Held.op_call 9 (some 14) 40 #[.agg #[.int .i64 K, .slice A1 n1 c1, .slice A2 n2 c2, .slice A3 n3 c3], .int .i64 so.k, .int .i64 so.v] rfl rfl rfl rfl (enters_of Try.func40 (by kernel_rfl) rfl) (by simp [Act.eval])
    (finish_any B K A1 A2 A3 n1 c1 n2 c2 n3 c3 m f fi so.k so.v _ hso.1 hso.2.1 (h1.below (c0_1.mono hBz)) (h2.below (c0_1.mono hBz)) (h3.below (c0_1.mono hBz)) (Nat.le_trans hBz c0_1.size)) ?_
  rintro e w2 ⟨rfl, b2⟩
  have c0_2 := c0_1.trans (b2.mono c0_1.size)
  refine ⟨_, rfl, (c0_2.mono lz), ?_⟩
  simp only [Act.put, Z1, Z2, Z3]
  refine Held.tk (v := .agg #[.bool false, .int .i64 so.k, .int .i64 (finishV K m f fi so.k so.v), .int .i64 0]) 10 (some 15) rfl (Held.y_build rfl (by kernel_rfl)) (c0_2.mono lz) ?_
  simp only [Act.put, Z1, Z2, Z3]
  refine Held.one 11 (by kernel_rfl) ?_
  refine Held.op_call 11 (some 16) 18 #[] rfl rfl rfl rfl (enters_of Try.func18 (by kernel_rfl) rfl) (by simp)
    (dead_any _) ?_
  rintro e w3 ⟨rfl, b3⟩
  have c0_3 := c0_2.trans (b3.mono c0_2.size)
  refine ⟨_, rfl, (c0_3.mono lz), ?_⟩
  simp only [Act.put, Z1, Z2, Z3]
  refine Held.one 12 (by kernel_rfl) ?_
  refine Held.op_call 12 (some 17) 23 #[.int .u64 (oneI (!so.d)), .agg #[.bool false, .int .i64 so.k, .int .i64 (finishV K m f fi so.k so.v), .int .i64 0], .agg #[.bool true, .int .i64 0, .int .i64 0, .int .i64 0]] rfl rfl rfl rfl (enters_of Try.func23 (by kernel_rfl) rfl) (by simp [Act.eval])
    (pick_rec (!so.d) ⟨false, so.k, (finishV K m f fi so.k so.v), 0⟩ RD (finR (finishV K m f fi) so) (fin_pick (finishV K m f fi) so) hbuilt wf_dead _) ?_
  rintro e w4 ⟨rfl, b4⟩
  have c0_4 := c0_3.trans (b4.mono c0_3.size)
  refine ⟨_, rfl, (c0_4.mono lz), ?_⟩
  simp only [Act.put, Z1, Z2, Z3]
  refine Held.one 13 (by kernel_rfl) ?_
  have qz := qz.below c0_4 qz.lt
  refine Held.op_store_blk 13 none 26 wso.heap.size 4 26 _ #[.bool (finR (finishV K m f fi) so).d, .int .i64 (finR (finishV K m f fi) so).k, .int .i64 (finR (finishV K m f fi) so).v, .int .i64 (finR (finishV K m f fi) so).s] rfl rfl rfl rfl rfl rfl qz info_rec rfl rfl (by kernel_rfl) ?_
  intro w5 qz g5
  have d5 := (bz.trans (c0_4.mono bz.size)).grown g5 (Nat.le_trans bz.size c0_4.size) (fun r e => by cases e; exact hwt)
  have c5 := (c0_4.mono lz).grown g5 (Nat.le_trans lz c0_4.size) (fun r e => by cases e; exact Nat.le_refl _)
  refine ⟨c5, ?_⟩
  simp only [Act.put]
  refine wpAnyH_done (by kernel_rfl) ?_ _
  go_wp2_with fail
  skip
  exact bodyPost_ret (results_blk rfl _ _ wso.heap.size 4 _ _ rfl qz _ Try.underlying26 rfl info_rec rfl) rfl ⟨rfl, d5⟩
end Go.Proofs.Ytkiempdpfmolfaa.Cn
namespace Go.Proofs.Ytkiempdpfmolfaa.Mg
open Rc Rs
section
variable (seq : Bool)
def lead (a b : R) : Bool := if seq then bef a.d a.k a.s b.d b.k b.s else ahd a.d a.k b.d b.k
theorem lead_irr (a : R) : lead seq a a = false := by
  unfold lead bef ahd
  cases a.d <;> cases seq <;> simp
theorem lead_neg {a b c : R} (h1 : lead seq a b = false) (h2 : lead seq b c = false) : lead seq a c = false := by
  unfold lead bef ahd at *
  cases seq <;> simp only [Bool.false_eq_true, if_false, if_true, Bool.and_eq_false_iff, Bool.not_eq_false', Bool.or_eq_false_iff, decide_eq_false_iff_not] at *
  · rcases h1 with h1 | ⟨hb, h1⟩
    · exact .inl h1
    · rcases h2 with h2 | ⟨hc, h2⟩
      · rw [hb] at h2; cases h2
      · exact .inr ⟨hc, by omega⟩
  · rcases h1 with h1 | ⟨hb, h1⟩
    · exact .inl h1
    · rcases h2 with h2 | ⟨hc, h2⟩
      · rw [hb] at h2; cases h2
      · exact .inr ⟨hc, by omega⟩
def Srt : List R → Prop
  | [] => True
  | [_] => True
  | a :: b :: l => lead seq b a = false ∧ Srt (b :: l)
theorem Srt.tail {a : R} {l : List R} (h : Srt seq (a :: l)) : Srt seq l := by
  cases l with
  | nil => trivial
  | cons b l => exact h.2
theorem Srt.head {a : R} : ∀ {l : List R}, Srt seq (a :: l) → ∀ x ∈ l, lead seq x a = false
  | [], _, x, hx => by simp at hx
  | b :: l, h, x, hx => by
    rcases List.mem_cons.1 hx with rfl | hx
    · exact h.1
    · exact lead_neg seq (Srt.head (a := b) h.2 x hx) h.1
theorem srt_iff : ∀ (l : List R), Srt seq l ↔ ∀ i, i + 1 < l.length → lead seq (l.getD (i + 1) R0) (l.getD i R0) = false
  | [] => ⟨fun _ i h => absurd h (by simp), fun _ => trivial⟩
  | [a] => ⟨fun _ i h => absurd h (by simp), fun _ => trivial⟩
  | a :: b :: l => by
    have ih := srt_iff (b :: l)
    constructor
    · rintro ⟨h1, h2⟩ i hi
      cases i with
      | zero => exact h1
      | succ i => exact ih.1 h2 i (by simpa using hi)
    · intro h
      exact ⟨h 0 (by simp), ih.2 fun i hi => h (i + 1) (by simpa using hi)⟩
end
section
variable (seq : Bool)
theorem Srt.take {l : List R} (h : Srt seq l) (k : Nat) : Srt seq (l.take k) := by
  rw [srt_iff] at h ⊢
  intro i hi
  have hi' : i + 1 < k ∧ i + 1 < l.length := by rw [List.length_take] at hi; omega
  have := h i hi'.2
  simp only [List.getD_eq_getElem?_getD, List.getElem?_take] at this ⊢
  rw [if_pos hi'.1, if_pos (by omega)]
  exact this
theorem Srt.drop : ∀ (k : Nat) {l : List R}, Srt seq l → Srt seq (l.drop k)
  | 0, _, h => h
  | _ + 1, [], _ => trivial
  | k + 1, _ :: l, h => Srt.drop k (l := l) h.tail
theorem Srt.two {l : List R} (h : Srt seq l) {i j : Nat} (hij : i ≤ j) (hj : j < l.length) : lead seq (l.getD j R0) (l.getD i R0) = false := by
  rw [srt_iff] at h
  obtain ⟨k, rfl⟩ : ∃ k, j = i + k := ⟨j - i, by omega⟩
  clear hij
  induction k with
  | zero => exact lead_irr seq _
  | succ k ih => exact lead_neg seq (h (i + k) (by omega)) (ih (by omega))
end
end Go.Proofs.Ytkiempdpfmolfaa.Mg
namespace Go.Proofs.Ytkiempdpfmolfaa.Sl
open Go.RowKit Go.Shelf Mem Held
section
variable {α : Type} {k : St α} {P : Program} {ops : Array Oper} {o : Oper} {a : Act} {w : World} {Q : Exit → Act → World → Prop}
theorem op_alloc_blk (i : Nat) (d : Option Tmp) {K : Act → World → Prop} (ty : TypeId) (cs : Array Value) (hi : ops[i]? = some o) (hd : o.dst = d) (hw : Region.wanted o (yielded ops a.tmps) = true)
    (ho : o.op = .alloc ty) (hz : (P.info? ty).bind (·.zero) = some (.agg cs))
    (h : ∀ g w', Blk w' g ty cs → Below w.heap.size w w' → Hid (w.heap.size ≤ g) → K (a.put d (.pointer (some ⟨g, 0, none⟩))) w') : wpOp P ops Q i K a w := by
  subst hd
  refine op_wp i hi hw ?_
  unfold Oper.wp execOp
  simp only [ho, run_alloc_blk ty cs hz, Sem.run_bind, Sem.run_pure, Result.andThen_ok]
  exact h _ _ (heap_alloc_new w _) ((Below.refl _ w).alloc (Nat.le_refl _) _) (Lib.hid (Nat.le_refl _))
theorem op_build_lst (i : Nat) (d : Option Tmp) {K : Act → World → Prop} (ts e : TypeId) (n : Nat) {parts : Array (Nat × Operand)} (z : Value) (bytes : Nat) (xs : List α) (hi : ops[i]? = some o) (hd : o.dst = d) (hw : Region.wanted o (yielded ops a.tmps) = true)
    (ho : o.op = .buildSlice ts n parts) (hu : P.underlying ts = some (.slice e)) (hinfo : (P.info? e).map (fun i => (i.zero, i.size, i.bytes)) = some (some z, k.s, bytes)) (hz : z.cells.size = k.s)
    (hn : xs.length = n) (hp : (parts.map fun (i, x) => (i, a.eval x)).toList = ((xs.map fun x => Value.agg (k.cells x).toArray).zipIdx 0).map fun x => (x.2, x.1)) (h0 : 0 < n) (h24 : n * k.s ≤ 16777216)
    (h : ∀ g w', Blk w' g e (flat k xs).toArray → Below w.heap.size w w' → Hid (w.heap.size ≤ g) → K (a.put d (.slice (some ⟨g, 0, none⟩) n n)) w') : wpOp P ops Q i K a w := by
  subst hd
  refine op_wp i hi hw ?_
  obtain ⟨ie, hie, hz0, hs, hb⟩ := info_parts hinfo
  refine Go.wp_buildSlice ts e n parts ho (flat k xs).toArray ie z hu hie hz0 (by rw [hs]; omega) (by rw [hs]; have := Nat.mul_pos h0 k.pos; omega) ?_ (h _ _ (heap_alloc_new w _) ((Below.refl _ w).alloc (Nat.le_refl _) _) (Lib.hid (Nat.le_refl _)))
  rw [hp, hs]
  refine (Great.fill_whole k.pos (xs.map fun x => Value.agg (k.cells x).toArray) _ (fun v hv => ?_) (by simp [hn])).trans ?_
  · obtain ⟨x, _, rfl⟩ := List.mem_map.1 hv
    simp [Value.cells, k.len]
  · rw [List.flatMap_map]
    simp [flat, Value.cells]
end
end Go.Proofs.Ytkiempdpfmolfaa.Sl
namespace Go.Proofs.Ytkiempdpfmolfaa.Sl
open Go.RowKit Go.Shelf Mem Held
section
variable {α : Type} {k : St α} {P : Program} {ops : Array Oper} {o : Oper} {a : Act} {w : World} {Q : Exit → Act → World → Prop}
end
end Go.Proofs.Ytkiempdpfmolfaa.Sl
namespace Go.Proofs.Ytkiempdpfmolfaa.Mg
open Go.RowKit Go.Shelf Go.Proofs.Ytkiempdpfmolfaa Mem Held Ct Rc Rs Sl
attribute [local irreducible] wpList wpListIn Calls
theorem rec_one (x : R) : ∀ u ∈ x.cells, u.oneCell' = true := fun u hu => by
  simp only [R.cells, List.mem_cons, List.not_mem_nil, or_false] at hu
  rcases hu with rfl | rfl | rfl | rfl <;> rfl
def kRec : St R := ⟨4, R.cells, R.wf, R0, fun _ => rfl, rec_one, by omega⟩
theorem info_kRec : (Try.prog.info? 26).map (fun i => (i.zero, i.size, i.bytes)) = some (some (.agg (kRec.cells kRec.d).toArray), kRec.s, 32) := by kernel_rfl
theorem lst_recs {w : World} {B n : Nat} {A : Option Addr} {rs : List R} (h : Lst kRec w B A n rs) : Recs w B A n rs := h
theorem recs_lst {w : World} {B n : Nat} {A : Option Addr} {rs : List R} (h : Recs w B A n rs) : Lst kRec w B A n rs := h
end Go.Proofs.Ytkiempdpfmolfaa.Mg
namespace Go.Proofs.Ytkiempdpfmolfaa.Sl
open Go.RowKit Go.Shelf Mem Held
section
variable {α : Type} {k : St α}
end
section
variable {α : Type} {k : St α} {P : Program} {ops : Array Oper} {rest : List Oper} {o : Oper} {a : Act} {w : World} {Q : Exit → Act → World → Prop}
end
end Go.Proofs.Ytkiempdpfmolfaa.Sl
namespace Go.Proofs.Ytkiempdpfmolfaa.Mg
open Go.RowKit Go.Shelf Go.Proofs.Ytkiempdpfmolfaa Mem Held Ct Rc Rs Sl
attribute [local irreducible] wpList wpListIn Calls
section
variable {P : Program} {S : World → Prop} {ρ : Operand → Value} {o : Oper}
theorem run_append_zero (ts e : TypeId) (hu : P.underlying ts = some (.slice e)) (ie : TypeInfo) (hie : P.info? e = some ie) {ty : TypeId} (w : World) (As A : Option Addr) (n cap c : Nat) (hn : n ≤ cap) :
    (Builtin.append_ #[ts, ts] ty #[.slice As n cap, .slice A 0 c]).run P w = .ok (.slice As n cap) w := by
  cases A with
  | none => cases As <;> simp [Builtin.append_, run_underlying hu, sizeOf, typeInfo, hie, Builtin.lenOf, Builtin.firstCells, hn, storeCells]
  | some ad => cases As <;> simp [Builtin.append_, run_underlying hu, sizeOf, typeInfo, hie, Builtin.lenOf, Builtin.firstCells, hn, storeCells, loadCells, loadCellsFrom]
end
section
variable {α : Type} {k : St α} {P : Program} {ops : Array Oper} {rest : List Oper} {o : Oper} {a : Act} {w : World} {Q : Exit → Act → World → Prop}
theorem wpList_append_all (hgd : o.guard = none) (s x : Operand) (ts e : TypeId) (ho : o.op = .call { callee := .builtin .append, args := #[s, x], argTypes := #[ts, ts] }) (hu : P.underlying ts = some (.slice e)) (z : Value) (bytes : Nat) (hinfo : (P.info? e).map (fun i => (i.zero, i.size, i.bytes)) = some (some z, k.s, bytes)) (hz : z.cells.size = k.s)
    (base B m c : Nat) (A : Option Addr) (v : Value) (xs ys : List α) (hs : a.eval s = v) (hx : a.eval x = .slice A m c) (hown : OwnL k e w base v xs) (hq : Lst k w B A m ys) (hm : xs.length + m ≤ 1048576) (hby : bytes ≤ 1048576) (hbase : base ≤ w.heap.size)
    (h : ∀ v' w', OwnL k e w' base v' (xs ++ ys) → w.grownBy w' v.ownBlock → (v'.ownBlock = v.ownBlock ∨ v'.ownBlock = some w.heap.size) → wpList P ops Q rest (a.put o.dst v') w') : wpList P ops Q (o :: rest) a w := by
  rcases Nat.eq_zero_or_pos m with h0 | h0
  · subst h0
    have e0 : ys = [] := List.eq_nil_of_length_eq_zero hq.1
    subst e0
    obtain ⟨A', c', rfl, hle, _⟩ := OwnL.form hown
    obtain ⟨ie, hie, _⟩ := info_parts hinfo
    exact Rs.wpList_append_ran hgd s x ts ts ho _ _ _ w hs hx (run_append_zero ts e hu ie hie w A' A _ c' c hle) (h _ w (by rw [List.append_nil]; exact hown) (World.grownBy.refl w _) (.inl rfl))
  · obtain ⟨g, off, rfl, _, _⟩ := hq.2.2 h0
    exact wpList_append_lst hgd s x ts e ho hu z bytes hinfo hz base B g off m c v xs ys hs hx hown hq hm hby hbase h
end
end Go.Proofs.Ytkiempdpfmolfaa.Mg
namespace Go.Proofs.Ytkiempdpfmolfaa.Cn
open Go.RowKit Go.Shelf Go.Proofs.Ytkiempdpfmolfaa Mem Held Go.Proofs.Ytkiempdpfmolfaa.Range Rc Rs Sl Vm Mg
attribute [local go_sem] Oper.semAt_some
attribute [local irreducible] wpList wpListIn Calls
def num : Nat → List R → List (Nat × R)
  | _, [] => []
  | i, r :: l => (i, r) :: num (i + 1) l
theorem num_append : ∀ (i : Nat) (l m : List R), num i (l ++ m) = num i l ++ num (i + l.length) m
  | i, [], m => rfl
  | i, r :: l, m => by
    rw [List.cons_append, num, num, num_append, List.cons_append, List.length_cons, show i + 1 + l.length = i + (l.length + 1) by omega]
theorem num_snoc {rs : List R} {i : Nat} (h : i < rs.length) : num 1 (rs.take (i + 1)) = num 1 (rs.take i) ++ [(i + 1, rs.getD i R0)] := by
  rw [List.take_add_one, List.getElem?_eq_getElem h, List.getD_eq_getElem?_getD, List.getElem?_eq_getElem h, num_append, List.length_take, Nat.min_eq_left (Nat.le_of_lt h), Nat.add_comm 1 i]
  rfl
theorem num_prefix {rs : List R} (i : Nat) : num 1 (rs.take i) <+: num 1 rs := by
  have h := num_append 1 (rs.take i) (rs.drop i)
  rw [List.take_append_drop] at h
  rw [h]
  exact List.prefix_append _ _
def EncN (x : Nat × R) (B0 : Nat) (W : World) (args : Array Value) : Prop := args = #[.int .i64 (x.1 : Int), .agg #[.bool x.2.d, .int .i64 x.2.k, .int .i64 x.2.v, .int .i64 x.2.s]]
set_option maxRecDepth 100000 in
set_option maxHeartbeats 2000000 in
theorem behind_any (co : R) (A : Option Addr) (n c : Nat) (w : World) :
    Calls Try.prog 20 #[.agg #[.bool co.d, .int .i64 co.k, .int .i64 co.v, .int .i64 co.s], .slice A n c] w fun e w' => ∃ bi bl : Nat, e = .returned (.func (.func 34) #[] #[.pointer (some ⟨bi, 0, none⟩), .pointer (some ⟨bl, 0, none⟩)]) ∧ Blk w' bi 26 #[.bool co.d, .int .i64 co.k, .int .i64 co.v, .int .i64 co.s] ∧ Blk w' bl 27 #[.slice A n c] ∧ w.heap.size ≤ bi ∧ w.heap.size ≤ bl ∧ Below w.heap.size w w' := by
  go_enter Try.func20, Try.ntmps20
  go_wp2_with (first
    | (refine wpList_box_blk (w := w) rfl 26 _ rfl #[.bool co.d, .int .i64 co.k, .int .i64 co.v, .int .i64 co.s] rfl ?_; intro u1 q1 g1 z1)
    | (refine Held.wpList_box_cell (w := u1) rfl 27 _ rfl (.slice A n c) rfl rfl ?_; intro u2 q2 g2 z2))
  go_ret
  exact ⟨_, _, rfl, q1.grown g2 (by simp), q2, Nat.le_refl _, g1.size, ((Below.refl _ w).grown g1 (Nat.le_refl _) (by simp)).grown g2 g1.size (by simp)⟩
set_option maxRecDepth 100000 in
set_option maxHeartbeats 8000000 in
theorem behind_give (N bi bl : Nat) (S : Nat → Prop) (B : Nat) (co : R) (A : Option Addr) (n c : Nat) (rs : List R) (w : World) (qi : Blk w bi 26 #[.bool co.d, .int .i64 co.k, .int .i64 co.v, .int .i64 co.s]) (ql : Blk w bl 27 #[.slice A n c]) (hbi : ¬ S bi) (hbl : ¬ S bl) (h : Lst kRec w B A n rs) (hBl : ∀ b, b < B → ¬ S b) (hlb : B ≤ w.heap.size) (hn : n ≤ 1048576) :
    SeqGive Fence.wide N Try.prog 34 #[.pointer (some ⟨bi, 0, none⟩), .pointer (some ⟨bl, 0, none⟩)] EncN (Only S) (num 0 (co :: rs)) w := by
  intro l J W hW hJ hY h0
  have qi := qi.after hW
  have ql := ql.after hW
  have h := h.below (hW.mono hlb)
  have hlb : B ≤ W.heap.size := Nat.le_trans hlb hW.size
  clear hW
  have HL := Lib.hid h.1
  have HXS := Lib.hid (show num 0 (co :: rs) = (0, co) :: num 1 rs from rfl)
  refine callsIn_of_wp Try.func34 rfl trivial ?_ rfl
  simp only [Try.ntmps34, List.size_toArray, List.length_cons, List.length_nil, Nat.reduceAdd, Nat.reduceSub, Array.replicate_succ, Array.replicate_zero, List.push_toArray, List.append_toArray, List.nil_append, List.cons_append]
  obtain ⟨fn, tmps, assign, body, hy, hR⟩ := hY [] (0, co) #[.int .i64 0, .agg #[.bool co.d, .int .i64 co.k, .int .i64 co.v, .int .i64 co.s]] W W h0 (World.grownBy.refl _ _) rfl (by rw [HXS.out]; exact ⟨num 1 rs, rfl⟩)
  gi_wp2_with (refine Held.wpListIn_one (r := none) rfl (by intro c e; cases e) ?_; refine wpList_load_blk (w := W) rfl 26 _ rfl bi 4 rfl 26 _ qi _ Try.underlying26 rfl info_rec rfl ?_; refine wpList_nil ⟨rfl, ?_⟩)
  refine ⟨fun h => (by cases h), ?_⟩
  refine hR.mono ?_
  rintro e W1 ⟨rfl, J1, o1⟩
  have h1 := Vm.Lst.only h o1 hBl
  have ql1 : Blk W1 bl 27 #[.slice A n c] := o1.block bl _ hbl ql rfl
  have hlb1 := Nat.le_trans hlb o1.size
  have kbl := ql1.cell (i := 0) rfl
  clear hR hy h qi ql h0 hlb o1
  gi_wp2_with fail
  clear kbl
  gi_loopw [12] (fun i wr => ∃ j : Nat, j ≤ n ∧ i = .int .i64 j ∧ J ((0, co) :: num 1 (rs.take j)) wr ∧ Only S W1 wr) (fun i _ => n - (intOf i).toNat)
  case atStart => exact ⟨0, by omega, rfl, J1, Only.refl _ _⟩
  case round =>
    obtain ⟨i, hi, rfl, Ji, ok⟩ := hrel
    by_cases hlt : i < n
    · have kp := Vm.Lst.only h1 ok hBl
      obtain ⟨b, off, rfl, hb, hx⟩ := kp.at_ hlt
      have hbw : b < wr.heap.size := Nat.lt_of_lt_of_le hb (Nat.le_trans hlb1 ok.size)
      have hx : wr.rangeAt b (off + i * 4) (rs.getD i R0).cells := hx
      have HNX := Lib.hid (show ((0, co) :: num 1 (rs.take i)) ++ [(i + 1, rs.getD i R0)] = (0, co) :: num 1 (rs.take (i + 1)) by rw [num_snoc (by rw [HL.out]; exact hlt), List.cons_append])
      have HPX := Lib.hid (show (((0, co) :: num 1 (rs.take i)) ++ [(i + 1, rs.getD i R0)]) <+: num 0 (co :: rs) by
        rw [HNX.out, HXS.out]
        exact (List.prefix_cons_inj _).2 (num_prefix _))
      generalize rs.getD i R0 = x at hx HNX HPX
      obtain ⟨xd, xk, xv, xs⟩ := x
      have hx : wr.rangeAt b (off + i * 4) [.bool xd, .int .i64 xk, .int .i64 xv, .int .i64 xs] := hx
      have hlt' : (i : Int) < (n : Int) := by omega
      have hi0 : (0 : Int) ≤ (i : Int) := by omega
      have hadd : IntKind.i64.wrap ((i : Int) + 1) = (i : Int) + 1 := by rw [IntKind.wrap_i64]; omega
      clear kp
      gi_wp2_with (first
        | (refine Held.wpListIn_one (r := none) rfl (by intro c e; cases e) ?_; refine wpList_run (w := wr) rfl (v := .pointer (some ⟨b, off + i * 4, none⟩)) (Held.y_addr (S := fun _ => True) rfl rfl rfl (run_addr_of (P := Try.prog) 27 26 b off n c i 4 .i64 Try.underlying27 info_rec hlt) _ trivial) ?_; refine wpList_nil ⟨rfl, ?_⟩)
        | (refine Held.wpListIn_one (r := none) rfl (by intro c e; cases e) ?_; refine wpList_run (w := wr) rfl (v := .agg #[.bool xd, .int .i64 xk, .int .i64 xv, .int .i64 xs]) (y_load_range (S := fun W => W = wr) (n := 4) (cs := [.bool xd, .int .i64 xk, .int .i64 xv, .int .i64 xs]) rfl rfl Try.underlying26 rfl info_rec rfl (fun W hW => by rw [hW]; exact hx) _ rfl) ?_; refine wpList_nil ⟨rfl, ?_⟩)
        | (refine Held.wpListIn_one (r := none) rfl (by intro c e; cases e) ?_; refine wpList_alloc_blk (w := wr) rfl 26 rfl _ zero_rec ?_; intro w2 q2 g2 z2; refine wpList_nil ⟨rfl, ?_⟩)
        | (refine Held.wpListIn_one (r := none) rfl (by intro c e; cases e) ?_; refine wpList_store_blk (w := w2) rfl 26 _ _ rfl wr.heap.size 4 rfl 26 _ #[.bool xd, .int .i64 xk, .int .i64 xv, .int .i64 xs] rfl q2 info_rec rfl rfl (by kernel_rfl) ?_; intro w3 q3 g3 z3; refine wpList_nil ⟨rfl, ?_⟩; have b3 : Below wr.heap.size wr w3 := ((Below.refl _ wr).grown g2 (Nat.le_refl _) (by simp)).grown g3 g2.size (fun r e => by cases e; exact Nat.le_refl _); clear g2 g3 z2 z3 q2)
        | (refine Held.wpListIn_one (r := none) rfl (by intro c e; cases e) ?_; refine wpList_load_blk (w := w3) rfl 26 _ rfl wr.heap.size 4 rfl 26 _ q3 _ Try.underlying26 rfl info_rec rfl ?_; refine wpList_nil ⟨rfl, ?_⟩; obtain ⟨fn, tmps, assign, body, hy, hR⟩ := hY _ (i + 1, ⟨xd, xk, xv, xs⟩) #[.int .i64 ((i : Int) + 1), .agg #[.bool xd, .int .i64 xk, .int .i64 xv, .int .i64 xs]] wr w3 Ji (grown_of_below b3 none) (by unfold EncN; rw [Int.natCast_add]; rfl) HPX.out))
      refine ⟨fun h => (by cases h), ?_⟩
      refine hR.mono ?_
      rintro e W4 ⟨rfl, J4, o4⟩
      rw [HNX.out] at J4
      have o5 := (ok.trans (Only.of_below b3)).trans o4
      clear hR hy o4 b3 ok Ji q3 hx HPX
      gi_wp2_with fail
      go_roundw
      case rel => exact ⟨i + 1, by omega, by go_num, J4, o5⟩
      case measure => simp [intOf]; omega
    · have hin : i = n := by omega
      subst hin
      rw [List.take_of_length_le (by rw [HL.out]; exact Nat.le_refl _)] at Ji
      gi_wp2_with fail
      go_end0
      exact ⟨⟨_, rfl⟩, by rw [HXS.out]; exact Ji⟩
end Go.Proofs.Ytkiempdpfmolfaa.Cn
namespace Go.Proofs.Ytkiempdpfmolfaa.Held
open Go.RowKit
def wpAnyB (P : Program) (md : Region.Mode) (ops : Array Oper) (Q : Exit → Act → World → Prop) (T : World → Prop) (s : Nat) : Nat → Array Bool → Act → World → Prop
  | 0, listed, a, w => Region.ready md ops listed = [] ∧ Q .normal a w
  | fuel + 1, listed, a, w =>
    (Region.ready md ops listed = [] → Q .normal a w) ∧
    ∀ i ∈ Region.ready md ops listed, wpOp P ops Q i (fun a' w' => ((listed.setIfInBounds i true).getD s true = false → T w') ∧ wpAnyB P md ops Q T s fuel (listed.setIfInBounds i true) a' w') a w
section
variable {P : Program} {ops : Array Oper} {Q : Exit → Act → World → Prop} {md : Region.Mode} {T : World → Prop} {s : Nat}
theorem wpAny_of_bar : ∀ (fuel : Nat) (listed : Array Bool) (a : Act) (w : World), wpAnyB P md ops Q T s fuel listed a w → wpAny P md ops Q fuel listed a w
  | 0, _, _, _, h => h
  | fuel + 1, _, _, _, h => ⟨h.1, fun i hi => wpOp_mono (fun a' w' h' => wpAny_of_bar fuel _ a' w' h'.2) (h.2 i hi)⟩
theorem not_yet {listed : Array Bool} {j : Nat} {oj : Oper} (hj : j ∈ Region.ready md ops listed) (ho : ops[j]? = some oj) {e : Edge} (he : e ∈ oj.after) (hb : Region.binds md e = true) : listed.getD e.on true ≠ false := fun hx => by
  obtain ⟨_, o, h1, h2⟩ := mem_ready.1 hj
  obtain rfl : o = oj := by rw [h1] at ho; exact Option.some.inj ho
  have := h2 e he hb
  by_cases c : e.on < listed.size
  · simp [c] at hx this; exact absurd (this.symm.trans hx) (by simp)
  · simp [Array.getElem?_eq_none (Nat.le_of_not_lt c)] at this
structure Early (md : Region.Mode) (ops : Array Oper) (B : List Nat) (i : Nat) (oi : Oper) (listed : Array Bool) : Prop where
  ready : i ∈ Region.ready md ops listed
  free : ∀ j oj, ops[j]? = some oj → j ≠ i → listed.getD j true = false → (∀ e ∈ oj.after, Region.binds md e = true → e.on ≠ i) → oi.apart ops oj = true
  late : ∀ b ∈ B, listed.getD b true = false
def Waits (md : Region.Mode) (ops : Array Oper) (B : List Nat) (i : Nat) : Prop := i ∉ B ∧ ∀ b ∈ B, ∀ o, ops[b]? = some o → ∃ e ∈ o.after, Region.binds md e = true ∧ (e.on = i ∨ e.on ∈ B)
section
variable {B : List Nat} {i : Nat} {oi : Oper} {listed : Array Bool}
theorem Early.un (h : Early md ops B i oi listed) : listed.getD i true = false := (mem_ready.1 h.ready).1
theorem Early.waits (h : Early md ops B i oi listed) {j : Nat} {oj : Oper} (hj : j ∈ Region.ready md ops listed) (ho : ops[j]? = some oj) : ∀ e ∈ oj.after, Region.binds md e = true → e.on ≠ i :=
  fun e he hb heq => not_yet hj ho he hb (by rw [heq]; exact h.un)
theorem Early.out (h : Early md ops B i oi listed) (hw : Waits md ops B i) {j : Nat} (hj : j ∈ Region.ready md ops listed) : j ∉ B := fun hjB => by
  obtain ⟨_, oj, ho, _⟩ := mem_ready.1 hj
  obtain ⟨e, he, hb, hor⟩ := hw.2 j hjB oj ho
  rcases hor with h1 | h1
  · exact h.waits hj ho e he hb h1
  · exact not_yet hj ho he hb (h.late _ h1)
theorem Early.next (h : Early md ops B i oi listed) (hw : Waits md ops B i) {j : Nat} (hj : j ∈ Region.ready md ops listed) (hji : j ≠ i) : Early md ops B i oi (listed.setIfInBounds j true) where
  ready := ready_mono h.ready (Ne.symm hji)
  free k ok hk hki hun hno := h.free k ok hk hki (by
    by_cases e : j = k
    · exact e ▸ (mem_ready.1 hj).1
    · rwa [getD_set_ne true e] at hun) hno
  late b hb := by rw [getD_set_ne true (show ¬ j = b from fun e => h.out hw hj (by rw [e]; exact hb))]; exact h.late b hb
end
theorem wpAnyB_early {i : Nat} {oi : Oper} {v : Value} (hi : ops[i]? = some oi) (hsel : ∀ (j : Nat) (o : Oper) cs b, ops[j]? = some o → o.op ≠ .select cs b)
    (hQ : ∀ c a w, Q (.panic c) (a.put oi.dst v) w → Q (.panic c) a w) {B : List Nat} (hs : s ∈ B) (hw : Waits md ops B i) :
    ∀ (fuel : Nat) {listed : Array Bool} {a : Act} {w : World}, Early md ops B i oi listed → YieldsIf P ops T oi v a → T w →
      wpAnyB P md ops Q T s fuel (listed.setIfInBounds i true) (a.put oi.dst v) w → wpAnyB P md ops Q T s (fuel + 1) listed a w
  | fuel, listed, a, w, h, hy, hT, H => by
    refine ⟨fun h0 => absurd (h0 ▸ h.ready) (by simp), fun j hj => ?_⟩
    by_cases hji : j = i
    · exact hji ▸ hy.wpOp hi hT ⟨fun _ => hT, H⟩
    · match fuel, H with
      | 0, H => exact absurd (H.1 ▸ ready_mono hj hji) (by simp)
      | fuel + 1, H =>
        obtain ⟨hun, oj, ho, _⟩ := mem_ready.1 hj
        have step := wpOp_putIf ho (h.free j oj ho hji hun (h.waits hj ho)) (fun cs b => hsel i oi cs b hi) (fun cs b => hsel j oj cs b ho) hQ hy (H.2 j (ready_mono hj hji))
        have n := h.next hw hj hji
        refine wpOp_mono (fun a' w' k => ?_) step
        obtain ⟨k1, k2, k3⟩ := k
        rw [Array.setIfInBounds_comm _ _ (Ne.symm hji)] at k2 k3
        have hT' : T w' := k2 (by rw [getD_set_ne true (show ¬ i = s from fun e => hw.1 (by rw [e]; exact hs))]; exact n.late s hs)
        exact ⟨fun _ => hT', wpAnyB_early hi hsel hQ hs hw fuel n k1 hT' k3⟩
def waitsB (md : Region.Mode) (ops : Array Oper) (listed : Array Bool) (B : List Nat) (s i : Nat) : Bool :=
  B.contains s && !B.contains i && B.all fun b => !listed.getD b true && match ops[b]? with
    | some o => o.after.any fun e => Region.binds md e && (e.on == i || B.contains e.on)
    | none => false
theorem takeB (i : Nat) (d : Option Tmp) (B : List Nat) {oi : Oper} {v : Value} {fuel : Nat} {listed : Array Bool} {a : Act} {w : World} (hi : ops[i]? = some oi) (hd : oi.dst = d)
    (hs : Region.noSelect ops = true) (hf : Region.free md ops listed i = true) (hr : (Region.ready md ops listed).contains i = true) (hB : waitsB md ops listed B s i = true)
    (hQ : ∀ c a w, Q (.panic c) (a.put d v) w → Q (.panic c) a w) (hw : Region.wanted oi (yielded ops a.tmps) = true) (hy : ∀ w, T w → (execOp a.eval oi).run P w = .ok (.value v) w) (hT : T w)
    (h : wpAnyB P md ops Q T s fuel (listed.setIfInBounds i true) (a.put d v) w) : wpAnyB P md ops Q T s (fuel + 1) listed a w := by
  subst hd
  unfold waitsB at hB
  simp only [Bool.and_eq_true, List.contains_iff_mem, Bool.not_eq_true', List.all_eq_true] at hB
  obtain ⟨⟨h1, h2⟩, h3⟩ := hB
  have h2' : i ∉ B := fun hm => by rw [List.contains_iff_mem.2 hm] at h2; cases h2
  refine wpAnyB_early hi (Region.noSelect_spec hs) hQ h1 ⟨h2', fun b hb o ho => ?_⟩ fuel ⟨by simpa using hr, Region.free_spec hi hf, fun b hb => (h3 b hb).1⟩ (.inl ⟨hw, hy⟩) hT h
  have := (h3 b hb).2
  rw [ho] at this
  obtain ⟨k, hk, he⟩ := Array.any_eq_true.1 this
  simp only [Bool.and_eq_true, Bool.or_eq_true, beq_iff_eq, List.contains_iff_mem] at he
  exact ⟨o.after[k], Array.getElem_mem hk, he.1, he.2⟩
theorem oneB (i : Nat) {fuel : Nat} {listed : Array Bool} {a : Act} {w : World} (hr : Region.ready md ops listed = [i])
    (h : wpOp P ops Q i (fun a' w' => ((listed.setIfInBounds i true).getD s true = false → T w') ∧ wpAnyB P md ops Q T s fuel (listed.setIfInBounds i true) a' w') a w) : wpAnyB P md ops Q T s (fuel + 1) listed a w :=
  ⟨fun h0 => absurd (hr ▸ h0) (by simp), fun j hj => by rw [hr] at hj; obtain rfl := List.mem_singleton.1 hj; exact h⟩
theorem doneB {listed : Array Bool} {a : Act} {w : World} (hr : Region.ready md ops listed = []) (h : Q .normal a w) : ∀ fuel, wpAnyB P md ops Q T s fuel listed a w
  | 0 => ⟨hr, h⟩
  | _ + 1 => ⟨fun _ => h, by rw [hr]; simp⟩
theorem wp_region_bar {id : Nat} {a : Act} {w : World} (hm : P.follows .mixedOrders = true)
    (h : wpAnyB P .any ops Q T s ops.size (Array.replicate ops.size false) a { w with drawn := w.drawn + 1 }) : (Code.region id ops true).wp P Q a w :=
  wp_region_any hm (wpAny_of_bar _ _ _ _ h)
theorem wpIn_region_barR {n : Nat} {r : Option Nat} {F : Fence} (hF : F = wideR r) {id : Nat} {a : Act} {w : World} (hm : P.follows .mixedOrders = true) (hd : noDefer ops = true) (hq : ∀ a w, ¬ Q .outgrown a w)
    (h : wpAnyB P .any ops Q T s ops.size (Array.replicate ops.size false) a { w with drawn := w.drawn + 1 }) : (Code.region id ops true).wpIn F n P Q a w := by
  subst hF
  exact wpIn_region_any hm (anyIn_of_any hd hq _ _ _ _ (wpAny_of_bar _ _ _ _ h))
end
end Go.Proofs.Ytkiempdpfmolfaa.Held
namespace Go.Proofs.Ytkiempdpfmolfaa.Mg
open Go.RowKit Go.Shelf Go.Proofs.Ytkiempdpfmolfaa Mem Held Ct Rc Rs Sl
attribute [local irreducible] wpList wpListIn Calls
theorem run_back_nil {P : Program} {t e : TypeId} (sz : Nat) (ht : P.underlying t = some (.slice e)) (hs : (P.info? e).map (·.size) = some sz) (A : Option Addr) (n cap : Nat) : ∃ A' c', ∀ w : World, (Instr.sliceAt t (.slice A n cap) (some (.int .i64 (n : Int))) none none).run P w = .ok (.slice A' 0 c') w := by
  have he : P.elem t = e := by simp [Program.elem, ht]
  have ht' : P.underlying t = some (.slice (P.elem t)) := by rw [he]; exact ht
  obtain ⟨inf, hi, h1⟩ := Option.map_eq_some_iff.1 hs
  refine ⟨if cap = n then A else A.map (·.add (n * sz)), cap - n, fun w => ?_⟩
  have hz : (sizeOf e).run P w = .ok sz w := by simp [sizeOf, typeInfo, hi, h1]
  rw [run_sliceAt_slice w t _ _ _ _ ht', run_slice_l w t _ n cap ht' .i64 _ (by omega) (by omega), he, hz]
  simp only [Result.andThen, sliced, Int.toNat_natCast, Nat.sub_self]
end Go.Proofs.Ytkiempdpfmolfaa.Mg
namespace Go.Proofs.Ytkiempdpfmolfaa.Mg
open Go.RowKit Go.Shelf Go.Proofs.Ytkiempdpfmolfaa Mem Held Ct Rc Rs Sl
attribute [local irreducible] wpList wpListIn Calls
section
variable {α : Type} {k : St α} {P : Program} {ops : Array Oper} {o : Oper} {a : Act} {w : World} {Q : Exit → Act → World → Prop}
theorem run_append_all (w : World) (ts ty e : TypeId) (hu : P.underlying ts = some (.slice e)) (z : Value) (bytes : Nat) (hinfo : (P.info? e).map (fun i => (i.zero, i.size, i.bytes)) = some (some z, k.s, bytes)) (hz : z.cells.size = k.s)
    (base B m c : Nat) (A : Option Addr) (v : Value) (xs ys : List α) (hown : OwnL k e w base v xs) (hq : Lst k w B A m ys) (hm : xs.length + m ≤ 1048576) (hby : bytes ≤ 1048576) (hbase : base ≤ w.heap.size) :
    ∃ v' w', (Builtin.append_ #[ts, ts] ty #[v, .slice A m c]).run P w = .ok v' w' ∧ OwnL k e w' base v' (xs ++ ys) ∧ w.grownBy w' v.ownBlock ∧ (v'.ownBlock = v.ownBlock ∨ v'.ownBlock = some w.heap.size) := by
  obtain ⟨ie, hie, hz0, hsz, hb⟩ := info_parts hinfo
  rcases Nat.eq_zero_or_pos m with h0 | h0
  · subst h0
    have e0 : ys = [] := List.eq_nil_of_length_eq_zero hq.1
    subst e0
    obtain ⟨A', c', rfl, hle, _⟩ := OwnL.form hown
    exact ⟨_, w, run_append_zero ts e hu ie hie w A' A _ c' c hle, by rw [List.append_nil]; exact hown, World.grownBy.refl w _, .inl rfl⟩
  · obtain ⟨g, off, rfl, _, hc⟩ := hq.2.2 h0
    obtain ⟨v', w', h1, h2, h3, _, h5⟩ := run_append_own_at (P := P) w base ts ty e ie z k.s bytes hu hie hz0 hsz hb hz k.pos v xs.length (flat k xs) hown ⟨g, off, none⟩ m c (flat k ys) (by rw [Sl.flat_length, hq.1])
      (fun j u hj => by rw [show (Addr.mk g off none).add j = ⟨g, off + j, none⟩ by (unfold Addr.add; split <;> simp_all)]; exact hc j u hj) (flat_cell ys) (by unfold maxLen; omega) (Nat.le_trans (Nat.mul_le_mul hm hby) (by omega)) hbase
    refine ⟨v', w', h1, ?_, h3, h5⟩
    unfold OwnL
    rw [Sl.flat_append, List.length_append, hq.1]
    exact h2
theorem op_append_all (i : Nat) (d : Option Tmp) {K : Act → World → Prop} {s x : Operand} (ts e : TypeId) (hi : ops[i]? = some o) (hd : o.dst = d) (hw : Region.wanted o (yielded ops a.tmps) = true)
    (ho : o.op = .call { callee := .builtin .append, args := #[s, x], argTypes := #[ts, ts] }) (hu : P.underlying ts = some (.slice e)) (z : Value) (bytes : Nat) (hinfo : (P.info? e).map (fun i => (i.zero, i.size, i.bytes)) = some (some z, k.s, bytes)) (hz : z.cells.size = k.s)
    (base B m c : Nat) (A : Option Addr) (v : Value) (xs ys : List α) (hs : a.eval s = v) (hx : a.eval x = .slice A m c) (hown : OwnL k e w base v xs) (hq : Lst k w B A m ys) (hm : xs.length + m ≤ 1048576) (hby : bytes ≤ 1048576) (hbase : base ≤ w.heap.size)
    (h : ∀ v' w', OwnL k e w' base v' (xs ++ ys) → w.grownBy w' v.ownBlock → (v'.ownBlock = v.ownBlock ∨ v'.ownBlock = some w.heap.size) → K (a.put d v') w') : wpOp P ops Q i K a w := by
  subst hd
  obtain ⟨v', w', h1, h2, h3, h4⟩ := run_append_all (P := P) w ts o.type e hu z bytes hinfo hz base B m c A v xs ys hown hq hm hby hbase
  refine op_wp i hi hw ?_
  exact Lib.wp_append_run w s x ts ts ho _ _ hs hx _ w' h1 (h v' w' h2 h3 h4)
end
end Go.Proofs.Ytkiempdpfmolfaa.Mg
