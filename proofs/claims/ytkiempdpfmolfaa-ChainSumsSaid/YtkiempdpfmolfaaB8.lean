/-
  Package chain's alive, goesOn, bare, folded, finished, by their contracts.
  Which of two records stands ahead; the document's own sort, and neighbours that change places in rounds, as plain functions: they are the same.
  More steps of a region: a struct allocated, a list of structs built: no program here.
  One struct stored into a list whose block is known whole: no program here.
  Package merge's leads and settle by their contracts: which of two records stands ahead by either order; two neighbours of a list of the call's own.
  Lists of structs in a block that is filled step by step; append within the room: no program here.
  Appending a list of structs of any length, none among them, onto a list of the call's own; the library's slices.Clone and slices.Grow of records, by their contracts.
-/
import Derived.Test.YtkiempdpfmolfaaB6
import Derived.Test.YtkiempdpfmolfaaB7
import Derived.Test.YtkiempdpfmolfaaB4
import Derived.Test.YtkiempdpfmolfaaB5
import Derived.Test.YtkiempdpfmolfaaB2
import Derived.OwnWalk
import Derived.Lib.LazyBuf
set_option linter.unusedVariables false
namespace Go.Proofs.Ytkiempdpfmolfaa.Cn
open Go.RowKit Go.Shelf Go.Proofs.Ytkiempdpfmolfaa Mem Held Ct Rc Rs Sl Vm
attribute [local irreducible] wpList wpListIn Calls
theorem run_andNot_one {P : Program} (t : TypeId) (a b : Bool) (w : World) : (binOp .andNot t (.int .u64 (oneI a)) (.int .u64 (oneI b))).run P w = .ok (.int .u64 (oneI (a && !b))) w := by
  have : bits .andNot .u64 (oneI a) (oneI b) = oneI (a && !b) := by cases a <;> cases b <;> decide
  rw [← this]
  simp [binOp, Op.intBits, bits]
theorem run_or_one {P : Program} (t : TypeId) (a b : Bool) (w : World) : (binOp .or t (.int .u64 (oneI a)) (.int .u64 (oneI b))).run P w = .ok (.int .u64 (oneI (a || b))) w := by
  rw [← or_one a b]
  exact Held.run_bitop (by simp) t .u64 rfl w
theorem goes_eq (so r : R) : (!r.d && !(ahd r.d r.k so.d so.k || ahd so.d so.k r.d r.k)) = goesB so r := by
  unfold goesB ahd
  cases r.d <;> cases so.d <;> simp
  rw [Bool.eq_iff_iff]
  simp
  omega
theorem pick_cells (b : Bool) (x y : R) : pickV (oneI b) #[.bool x.d, .int .i64 x.k, .int .i64 x.v, .int .i64 x.s] #[.bool y.d, .int .i64 y.k, .int .i64 y.v, .int .i64 y.s] = #[.bool (if b = true then x else y).d, .int .i64 (if b = true then x else y).k, .int .i64 (if b = true then x else y).v, .int .i64 (if b = true then x else y).s] := by
  cases b <;> rfl
theorem bare_pick (r : R) : (if (!r.d) = true then (⟨false, r.k, r.v, 0⟩ : R) else RD) = bareR r := by
  unfold bareR
  cases r.d <;> rfl
theorem fin_pick (G : Int → Int → Int) (r : R) : (if (!r.d) = true then (⟨false, r.k, G r.k r.v, 0⟩ : R) else RD) = finR G r := by
  unfold finR
  cases r.d <;> rfl
theorem pick_rec (b : Bool) (x y z : R) (hz : (if b = true then x else y) = z) (hx : x.wf) (hy : y.wf) (w : World) : Calls Try.prog 23 #[.int .u64 (oneI b), .agg #[.bool x.d, .int .i64 x.k, .int .i64 x.v, .int .i64 x.s], .agg #[.bool y.d, .int .i64 y.k, .int .i64 y.v, .int .i64 y.s]] w fun e w' => e = .returned (.agg #[.bool z.d, .int .i64 z.k, .int .i64 z.v, .int .i64 z.s]) ∧ Below w.heap.size w w' := by
  subst hz
  have h := pick_any (oneI b) x.d x.k x.v x.s y.d y.k y.v y.s (one_wf b) hx.1 hx.2.1 hx.2.2 hy.1 hy.2.1 hy.2.2 w
  rw [pick_cells] at h
  exact h
set_option maxRecDepth 100000 in
set_option maxHeartbeats 4000000 in
theorem alive_any (ra : R) (hra : ra.wf) (w : World) :
    Calls Try.prog 35 #[.agg #[.bool ra.d, .int .i64 ra.k, .int .i64 ra.v, .int .i64 ra.s]] w fun e w' => e = .returned (.int .u64 (oneI (!ra.d))) ∧ Below w.heap.size w w' := by
  go_enter Try.func35, Try.ntmps35
  go_wp2_with (refine wpList_box_blk (w := w) rfl 26 _ rfl #[.bool ra.d, .int .i64 ra.k, .int .i64 ra.v, .int .i64 ra.s] rfl ?_; intro wra qra gra zra)
  have bz : Below w.heap.size w wra := (Below.refl _ w).grown gra (Nat.le_refl _) (by simp)
  have lra := qra.lt
  clear gra zra
  refine wp_region_held (S := fun W => Below wra.heap.size wra W) (by kernel_rfl) ?_
  change wpAnyH _ _ _ _ _ _ _ _ wra.drew
  have c0_0 := (Below.refl wra.heap.size wra).drew
  refine Held.tk (v := .agg #[.bool ra.d, .int .i64 ra.k, .int .i64 ra.v, .int .i64 ra.s]) 0 (some 3) rfl (Held.y_load_blk (n := 4) rfl rfl Try.underlying26 rfl (by kernel_rfl) rfl (fun W hW => qra.below hW qra.lt)) c0_0 ?_
  simp only [Act.put, Z1, Z2, Z3]
  refine Held.one 1 (by kernel_rfl) ?_
  refine Held.op_call 1 (some 4) 18 #[] rfl rfl rfl rfl (enters_of Try.func18 (by kernel_rfl) rfl) (by simp)
    (dead_any _) ?_
  rintro e w1 ⟨rfl, b1⟩
  have c0_1 := c0_0.trans (b1.mono c0_0.size)
  refine ⟨_, rfl, c0_1, ?_⟩
  simp only [Act.put, Z1, Z2, Z3]
  refine Held.one 2 (by kernel_rfl) ?_
  refine Held.op_call 2 (some 5) 36 #[.agg #[.bool ra.d, .int .i64 ra.k, .int .i64 ra.v, .int .i64 ra.s], .agg #[.bool true, .int .i64 0, .int .i64 0, .int .i64 0]] rfl rfl rfl rfl (enters_of Try.func36 (by kernel_rfl) rfl) (by simp [Act.eval])
    (ahead_any ra.d ra.k ra.v ra.s true 0 0 0 hra.1 hra.2.2 wf_dead.1 wf_dead.2.2 _) ?_
  rintro e w2 ⟨rfl, b2⟩
  have c0_2 := c0_1.trans (b2.mono c0_1.size)
  refine ⟨_, rfl, c0_2, ?_⟩
  simp only [Act.put, Z1, Z2, Z3]
  refine Held.tk (v := .int .u64 (oneI (ahd ra.d ra.k true 0))) 3 (some 2) rfl (Held.y_assign rfl rfl) c0_2 ?_
  simp only [Act.put, Z1, Z2, Z3]
  refine wpAnyH_done (by kernel_rfl) ?_ _
  have dz := bz.trans (c0_2.mono bz.size)
  go_wp2_with fail
  go_ret
  exact ⟨Mem.ret_int (by rw [show ahd ra.d ra.k true 0 = !ra.d by unfold ahd; simp]), dz⟩
set_option maxRecDepth 100000 in
set_option maxHeartbeats 4000000 in
theorem goes_any (so ra : R) (hso : so.wf) (hra : ra.wf) (w : World) :
    Calls Try.prog 22 #[.agg #[.bool so.d, .int .i64 so.k, .int .i64 so.v, .int .i64 so.s], .agg #[.bool ra.d, .int .i64 ra.k, .int .i64 ra.v, .int .i64 ra.s]] w fun e w' => e = .returned (.int .u64 (oneI (goesB so ra))) ∧ Below w.heap.size w w' := by
  go_enter Try.func22, Try.ntmps22
  go_wp2_with (first
    | (refine wpList_box_blk (w := w) rfl 26 _ rfl #[.bool so.d, .int .i64 so.k, .int .i64 so.v, .int .i64 so.s] rfl ?_; intro wso qso gso zso)
    | (refine wpList_box_blk (w := wso) rfl 26 _ rfl #[.bool ra.d, .int .i64 ra.k, .int .i64 ra.v, .int .i64 ra.s] rfl ?_; intro wra qra gra zra))
  have bz : Below w.heap.size w wra := ((Below.refl _ w).grown gso (Nat.le_refl _) (by simp)).grown gra (gso.size) (by simp)
  have lso := qso.lt
  have lra := qra.lt
  have qso := (qso).grown gra (by simp)
  clear gso zso gra zra
  refine wp_region_held (S := fun W => Below wra.heap.size wra W) (by kernel_rfl) ?_
  change wpAnyH _ _ _ _ _ _ _ _ wra.drew
  have c0_0 := (Below.refl wra.heap.size wra).drew
  refine Held.tk (v := .agg #[.bool ra.d, .int .i64 ra.k, .int .i64 ra.v, .int .i64 ra.s]) 0 (some 5) rfl (Held.y_load_blk (n := 4) rfl rfl Try.underlying26 rfl (by kernel_rfl) rfl (fun W hW => qra.below hW qra.lt)) c0_0 ?_
  simp only [Act.put, Z1, Z2, Z3]
  refine Held.tk (v := .agg #[.bool ra.d, .int .i64 ra.k, .int .i64 ra.v, .int .i64 ra.s]) 2 (some 7) rfl (Held.y_load_blk (n := 4) rfl rfl Try.underlying26 rfl (by kernel_rfl) rfl (fun W hW => qra.below hW qra.lt)) c0_0 ?_
  simp only [Act.put, Z1, Z2, Z3]
  refine Held.tk (v := .agg #[.bool so.d, .int .i64 so.k, .int .i64 so.v, .int .i64 so.s]) 3 (some 8) rfl (Held.y_load_blk (n := 4) rfl rfl Try.underlying26 rfl (by kernel_rfl) rfl (fun W hW => qso.below hW qso.lt)) c0_0 ?_
  simp only [Act.put, Z1, Z2, Z3]
  refine Held.tk (v := .agg #[.bool so.d, .int .i64 so.k, .int .i64 so.v, .int .i64 so.s]) 5 (some 10) rfl (Held.y_load_blk (n := 4) rfl rfl Try.underlying26 rfl (by kernel_rfl) rfl (fun W hW => qso.below hW qso.lt)) c0_0 ?_
  simp only [Act.put, Z1, Z2, Z3]
  refine Held.tk (v := .agg #[.bool ra.d, .int .i64 ra.k, .int .i64 ra.v, .int .i64 ra.s]) 6 (some 11) rfl (Held.y_load_blk (n := 4) rfl rfl Try.underlying26 rfl (by kernel_rfl) rfl (fun W hW => qra.below hW qra.lt)) c0_0 ?_
  simp only [Act.put, Z1, Z2, Z3]
  refine Held.one 1 (by kernel_rfl) ?_
  refine Held.op_call 1 (some 6) 35 #[.agg #[.bool ra.d, .int .i64 ra.k, .int .i64 ra.v, .int .i64 ra.s]] rfl rfl rfl rfl (enters_of Try.func35 (by kernel_rfl) rfl) (by simp [Act.eval])
    (alive_any ra hra _) ?_
  rintro e w1 ⟨rfl, b1⟩
  have c0_1 := c0_0.trans (b1.mono c0_0.size)
  refine ⟨_, rfl, c0_1, ?_⟩
  simp only [Act.put, Z1, Z2, Z3]
  refine Held.one 4 (by kernel_rfl) ?_
  refine Held.op_call 4 (some 9) 36 #[.agg #[.bool ra.d, .int .i64 ra.k, .int .i64 ra.v, .int .i64 ra.s], .agg #[.bool so.d, .int .i64 so.k, .int .i64 so.v, .int .i64 so.s]] rfl rfl rfl rfl (enters_of Try.func36 (by kernel_rfl) rfl) (by simp [Act.eval])
    (ahead_any ra.d ra.k ra.v ra.s so.d so.k so.v so.s hra.1 hra.2.2 hso.1 hso.2.2 _) ?_
  rintro e w2 ⟨rfl, b2⟩
  have c0_2 := c0_1.trans (b2.mono c0_1.size)
  refine ⟨_, rfl, c0_2, ?_⟩
  simp only [Act.put, Z1, Z2, Z3]
  refine Held.one 7 (by kernel_rfl) ?_
  refine Held.op_call 7 (some 12) 36 #[.agg #[.bool so.d, .int .i64 so.k, .int .i64 so.v, .int .i64 so.s], .agg #[.bool ra.d, .int .i64 ra.k, .int .i64 ra.v, .int .i64 ra.s]] rfl rfl rfl rfl (enters_of Try.func36 (by kernel_rfl) rfl) (by simp [Act.eval])
    (ahead_any so.d so.k so.v so.s ra.d ra.k ra.v ra.s hso.1 hso.2.2 hra.1 hra.2.2 _) ?_
  rintro e w3 ⟨rfl, b3⟩
  have c0_3 := c0_2.trans (b3.mono c0_2.size)
  refine ⟨_, rfl, c0_3, ?_⟩
  simp only [Act.put, Z1, Z2, Z3]
  refine Held.tk (v := .int .u64 (oneI (ahd ra.d ra.k so.d so.k || ahd so.d so.k ra.d ra.k))) 8 (some 13) rfl (Held.y_int rfl rfl rfl (run_or_one _ _ _)) c0_3 ?_
  simp only [Act.put, Z1, Z2, Z3]
  refine Held.tk (v := .int .u64 (oneI (!ra.d && !(ahd ra.d ra.k so.d so.k || ahd so.d so.k ra.d ra.k)))) 9 (some 14) rfl (Held.y_int rfl rfl rfl (run_andNot_one _ _ _)) c0_3 ?_
  simp only [Act.put, Z1, Z2, Z3]
  refine Held.tk (v := .int .u64 (oneI (!ra.d && !(ahd ra.d ra.k so.d so.k || ahd so.d so.k ra.d ra.k)))) 10 (some 4) rfl (Held.y_assign rfl rfl) c0_3 ?_
  simp only [Act.put, Z1, Z2, Z3]
  refine wpAnyH_done (by kernel_rfl) ?_ _
  have dz := bz.trans (c0_3.mono bz.size)
  go_wp2_with fail
  go_ret
  exact ⟨Mem.ret_int (by rw [goes_eq]), dz⟩
set_option maxRecDepth 100000 in
set_option maxHeartbeats 4000000 in
theorem bare_any (ra : R) (hra : ra.wf) (w : World) :
    Calls Try.prog 21 #[.agg #[.bool ra.d, .int .i64 ra.k, .int .i64 ra.v, .int .i64 ra.s]] w fun e w' => e = .returned (.agg #[.bool (bareR ra).d, .int .i64 (bareR ra).k, .int .i64 (bareR ra).v, .int .i64 (bareR ra).s]) ∧ Below w.heap.size w w' := by
  go_enter Try.func21, Try.ntmps21
  have hbuilt : (⟨false, ra.k, ra.v, 0⟩ : R).wf := ⟨hra.1, hra.2.1, rfl⟩
  go_wp2_with (first
    | (refine wpList_box_blk (w := w) rfl 26 _ rfl #[.bool ra.d, .int .i64 ra.k, .int .i64 ra.v, .int .i64 ra.s] rfl ?_; intro wra qra gra zra)
    | (refine wpList_alloc_blk (w := wra) rfl 26 rfl _ zero_rec ?_; intro wz qz gz zz))
  have bz : Below w.heap.size w wz := ((Below.refl _ w).grown gra (Nat.le_refl _) (by simp)).grown gz (gra.size) (by simp)
  have lra := qra.lt
  have lz := qz.lt
  have qra := (qra).grown gz (by simp)
  have lz : wra.heap.size ≤ wz.heap.size := Nat.le_of_lt lz
  have mra : w.heap.size < wra.heap.size := lra
  have hwt : w.heap.size ≤ wra.heap.size := Nat.le_of_lt mra
  clear gra zra gz zz
  refine wp_region_held (S := fun W => Below wra.heap.size wz W) (by kernel_rfl) ?_
  change wpAnyH _ _ _ _ _ _ _ _ wz.drew
  have c0_0 := (Below.refl wz.heap.size wz).drew
  refine Held.tk (v := .agg #[.bool ra.d, .int .i64 ra.k, .int .i64 ra.v, .int .i64 ra.s]) 0 (some 3) rfl (Held.y_load_blk (n := 4) rfl rfl Try.underlying26 rfl (by kernel_rfl) rfl (fun W hW => qra.below hW mra)) (c0_0.mono lz) ?_
  simp only [Act.put, Z1, Z2, Z3]
  refine Held.tk (v := .pointer (some ⟨w.heap.size, 1, none⟩)) 2 (some 5) rfl (Held.y_field (k := 1) (s := 0) rfl rfl Try.underlying26 rfl (by kernel_rfl) rfl) (c0_0.mono lz) ?_
  simp only [Act.put, Z1, Z2, Z3]
  refine Held.tk (v := .int .i64 ra.k) 3 (some 6) rfl (Held.y_load rfl rfl (by kernel_rfl) (fun W hW => (qra.below hW mra).cell rfl)) (c0_0.mono lz) ?_
  simp only [Act.put, Z1, Z2, Z3]
  refine Held.tk (v := .pointer (some ⟨w.heap.size, 2, none⟩)) 4 (some 7) rfl (Held.y_field (k := 2) (s := 0) rfl rfl Try.underlying26 rfl (by kernel_rfl) rfl) (c0_0.mono lz) ?_
  simp only [Act.put, Z1, Z2, Z3]
  refine Held.tk (v := .int .i64 ra.v) 5 (some 8) rfl (Held.y_load rfl rfl (by kernel_rfl) (fun W hW => (qra.below hW mra).cell rfl)) (c0_0.mono lz) ?_
  simp only [Act.put, Z1, Z2, Z3]
  refine Held.tk (v := .agg #[.bool false, .int .i64 ra.k, .int .i64 ra.v, .int .i64 0]) 6 (some 9) rfl (Held.y_build rfl (by kernel_rfl)) (c0_0.mono lz) ?_
  simp only [Act.put, Z1, Z2, Z3]
  refine Held.one 1 (by kernel_rfl) ?_
  refine Held.op_call 1 (some 4) 35 #[.agg #[.bool ra.d, .int .i64 ra.k, .int .i64 ra.v, .int .i64 ra.s]] rfl rfl rfl rfl (enters_of Try.func35 (by kernel_rfl) rfl) (by simp [Act.eval])
    (alive_any ra hra _) ?_
  rintro e w1 ⟨rfl, b1⟩
  have c0_1 := c0_0.trans (b1.mono c0_0.size)
  refine ⟨_, rfl, (c0_1.mono lz), ?_⟩
  simp only [Act.put, Z1, Z2, Z3]
  refine Held.one 7 (by kernel_rfl) ?_
  refine Held.op_call 7 (some 10) 18 #[] rfl rfl rfl rfl (enters_of Try.func18 (by kernel_rfl) rfl) (by simp)
    (dead_any _) ?_
  rintro e w2 ⟨rfl, b2⟩
  have c0_2 := c0_1.trans (b2.mono c0_1.size)
  refine ⟨_, rfl, (c0_2.mono lz), ?_⟩
  simp only [Act.put, Z1, Z2, Z3]
  refine Held.one 8 (by kernel_rfl) ?_
  refine Held.op_call 8 (some 11) 23 #[.int .u64 (oneI (!ra.d)), .agg #[.bool false, .int .i64 ra.k, .int .i64 ra.v, .int .i64 0], .agg #[.bool true, .int .i64 0, .int .i64 0, .int .i64 0]] rfl rfl rfl rfl (enters_of Try.func23 (by kernel_rfl) rfl) (by simp [Act.eval])
    (pick_rec (!ra.d) ⟨false, ra.k, ra.v, 0⟩ RD (bareR ra) (bare_pick ra) hbuilt wf_dead _) ?_
  rintro e w3 ⟨rfl, b3⟩
  have c0_3 := c0_2.trans (b3.mono c0_2.size)
  refine ⟨_, rfl, (c0_3.mono lz), ?_⟩
  simp only [Act.put, Z1, Z2, Z3]
  refine Held.one 9 (by kernel_rfl) ?_
  have qz := qz.below c0_3 qz.lt
  refine Held.op_store_blk 9 none 26 wra.heap.size 4 26 _ #[.bool (bareR ra).d, .int .i64 (bareR ra).k, .int .i64 (bareR ra).v, .int .i64 (bareR ra).s] rfl rfl rfl rfl rfl rfl qz info_rec rfl rfl (by kernel_rfl) ?_
  intro w4 qz g4
  have d4 := (bz.trans (c0_3.mono bz.size)).grown g4 (Nat.le_trans bz.size c0_3.size) (fun r e => by cases e; exact hwt)
  have c4 := (c0_3.mono lz).grown g4 (Nat.le_trans lz c0_3.size) (fun r e => by cases e; exact Nat.le_refl _)
  refine ⟨c4, ?_⟩
  simp only [Act.put]
  refine wpAnyH_done (by kernel_rfl) ?_ _
  go_wp2_with fail
  skip
  exact bodyPost_ret (results_blk rfl _ _ wra.heap.size 4 _ _ rfl qz _ Try.underlying26 rfl info_rec rfl) rfl ⟨rfl, d4⟩
set_option maxRecDepth 100000 in
set_option maxHeartbeats 4000000 in
theorem folded_one (B : Nat) (K : Int) (A1 A2 A3 : Option Addr) (n1 c1 n2 c2 n3 c3 : Nat) (m f fi : List O) (so ra : R) (hso : so.wf) (hra : ra.wf) (w : World) (h1 : Lst kO w B A1 n1 m) (h2 : Lst kO w B A2 n2 f) (h3 : Lst kO w B A3 n3 fi) (hB : B ≤ w.heap.size) :
    Calls Try.prog 25 #[.agg #[.int .i64 K, .slice A1 n1 c1, .slice A2 n2 c2, .slice A3 n3 c3], .agg #[.bool so.d, .int .i64 so.k, .int .i64 so.v, .int .i64 so.s], .agg #[.bool ra.d, .int .i64 ra.k, .int .i64 ra.v, .int .i64 ra.s]] w fun e w' => e = .returned (.agg #[.bool (joinR (foldV K m f fi) so ra).d, .int .i64 (joinR (foldV K m f fi) so ra).k, .int .i64 (joinR (foldV K m f fi) so ra).v, .int .i64 (joinR (foldV K m f fi) so ra).s]) ∧ Below w.heap.size w w' := by
  go_enter Try.func25, Try.ntmps25
  go_wp2_with (first
    | (refine wpList_box_blk (w := w) rfl 24 _ rfl #[.int .i64 K, .slice A1 n1 c1, .slice A2 n2 c2, .slice A3 n3 c3] rfl ?_; intro wpp qpp gpp zpp)
    | (refine wpList_box_blk (w := wpp) rfl 26 _ rfl #[.bool so.d, .int .i64 so.k, .int .i64 so.v, .int .i64 so.s] rfl ?_; intro wso qso gso zso)
    | (refine wpList_box_blk (w := wso) rfl 26 _ rfl #[.bool ra.d, .int .i64 ra.k, .int .i64 ra.v, .int .i64 ra.s] rfl ?_; intro wra qra gra zra)
    | (refine wpList_alloc_blk (w := wra) rfl 26 rfl _ zero_rec ?_; intro wz qz gz zz))
  have bz : Below w.heap.size w wz := ((((Below.refl _ w).grown gpp (Nat.le_refl _) (by simp)).grown gso (gpp.size) (by simp)).grown gra (Nat.le_trans (gpp.size) gso.size) (by simp)).grown gz (Nat.le_trans (Nat.le_trans (gpp.size) gso.size) gra.size) (by simp)
  have lpp := qpp.lt
  have lso := qso.lt
  have lra := qra.lt
  have lz := qz.lt
  have qpp := (((qpp).grown gso (by simp)).grown gra (by simp)).grown gz (by simp)
  have qso := ((qso).grown gra (by simp)).grown gz (by simp)
  have qra := (qra).grown gz (by simp)
  have lz : wra.heap.size ≤ wz.heap.size := Nat.le_of_lt lz
  have mpp : w.heap.size < wra.heap.size := Nat.lt_of_lt_of_le lpp (Nat.le_trans (gso.size) gra.size)
  have mso : wpp.heap.size < wra.heap.size := Nat.lt_of_lt_of_le lso (gra.size)
  have mra : wso.heap.size < wra.heap.size := lra
  have hwt : w.heap.size ≤ wra.heap.size := Nat.le_of_lt mpp
  clear gpp zpp gso zso gra zra gz zz
  have hBz := Nat.le_trans hB bz.size
  have h1 := h1.below (bz.mono hB)
  have h2 := h2.below (bz.mono hB)
  have h3 := h3.below (bz.mono hB)
  refine wp_region_held (S := fun W => Below wra.heap.size wz W) (by kernel_rfl) ?_
  change wpAnyH _ _ _ _ _ _ _ _ wz.drew
  have c0_0 := (Below.refl wz.heap.size wz).drew
  refine Held.tk (v := .pointer (some ⟨wpp.heap.size, 1, none⟩)) 0 (some 7) rfl (Held.y_field (k := 1) (s := 0) rfl rfl Try.underlying26 rfl (by kernel_rfl) rfl) (c0_0.mono lz) ?_
  simp only [Act.put, Z1, Z2, Z3]
  refine Held.tk (v := .int .i64 so.k) 1 (some 8) rfl (Held.y_load rfl rfl (by kernel_rfl) (fun W hW => (qso.below hW mso).cell rfl)) (c0_0.mono lz) ?_
  simp only [Act.put, Z1, Z2, Z3]
  refine Held.tk (v := .agg #[.int .i64 K, .slice A1 n1 c1, .slice A2 n2 c2, .slice A3 n3 c3]) 2 (some 9) rfl (Held.y_load_blk (n := 4) rfl rfl Try.underlying24 rfl (by kernel_rfl) rfl (fun W hW => qpp.below hW mpp)) (c0_0.mono lz) ?_
  simp only [Act.put, Z1, Z2, Z3]
  refine Held.tk (v := .pointer (some ⟨wpp.heap.size, 2, none⟩)) 3 (some 10) rfl (Held.y_field (k := 2) (s := 0) rfl rfl Try.underlying26 rfl (by kernel_rfl) rfl) (c0_0.mono lz) ?_
  simp only [Act.put, Z1, Z2, Z3]
  refine Held.tk (v := .int .i64 so.v) 4 (some 11) rfl (Held.y_load rfl rfl (by kernel_rfl) (fun W hW => (qso.below hW mso).cell rfl)) (c0_0.mono lz) ?_
  simp only [Act.put, Z1, Z2, Z3]
  refine Held.tk (v := .pointer (some ⟨wso.heap.size, 2, none⟩)) 5 (some 12) rfl (Held.y_field (k := 2) (s := 0) rfl rfl Try.underlying26 rfl (by kernel_rfl) rfl) (c0_0.mono lz) ?_
  simp only [Act.put, Z1, Z2, Z3]
  refine Held.tk (v := .int .i64 ra.v) 6 (some 13) rfl (Held.y_load rfl rfl (by kernel_rfl) (fun W hW => (qra.below hW mra).cell rfl)) (c0_0.mono lz) ?_
  simp only [Act.put, Z1, Z2, Z3]
  refine Held.one 7 (by kernel_rfl) ?_
  refine Held.op_call 7 (some 14) 41 #[.agg #[.int .i64 K, .slice A1 n1 c1, .slice A2 n2 c2, .slice A3 n3 c3], .int .i64 so.v, .int .i64 ra.v] rfl rfl rfl rfl (enters_of Try.func41 (by kernel_rfl) rfl) (by simp [Act.eval])
    (fold_any B K A1 A2 A3 n1 c1 n2 c2 n3 c3 m f fi so.v ra.v _ hso.2.1 hra.2.1 (h1.below (c0_0.mono hBz)) (h2.below (c0_0.mono hBz)) (h3.below (c0_0.mono hBz)) (Nat.le_trans hBz c0_0.size)) ?_
  rintro e w1 ⟨rfl, b1⟩
  have c0_1 := c0_0.trans (b1.mono c0_0.size)
  refine ⟨_, rfl, (c0_1.mono lz), ?_⟩
  simp only [Act.put, Z1, Z2, Z3]
  refine Held.tk (v := .agg #[.bool false, .int .i64 so.k, .int .i64 (foldV K m f fi so.v ra.v), .int .i64 0]) 8 (some 15) rfl (Held.y_build rfl (by kernel_rfl)) (c0_1.mono lz) ?_
  simp only [Act.put, Z1, Z2, Z3]
  refine Held.one 9 (by kernel_rfl) ?_
  have qz := qz.below c0_1 qz.lt
  refine Held.op_store_blk 9 none 26 wra.heap.size 4 26 _ #[.bool false, .int .i64 so.k, .int .i64 (foldV K m f fi so.v ra.v), .int .i64 0] rfl rfl rfl rfl rfl rfl qz info_rec rfl rfl (by kernel_rfl) ?_
  intro w2 qz g2
  have d2 := (bz.trans (c0_1.mono bz.size)).grown g2 (Nat.le_trans bz.size c0_1.size) (fun r e => by cases e; exact hwt)
  have c2 := (c0_1.mono lz).grown g2 (Nat.le_trans lz c0_1.size) (fun r e => by cases e; exact Nat.le_refl _)
  refine ⟨c2, ?_⟩
  simp only [Act.put]
  refine wpAnyH_done (by kernel_rfl) ?_ _
  go_wp2_with fail
  skip
  exact bodyPost_ret (results_blk rfl _ _ wra.heap.size 4 _ _ rfl qz _ Try.underlying26 rfl info_rec rfl) rfl ⟨rfl, d2⟩
set_option maxRecDepth 100000 in
set_option maxHeartbeats 4000000 in
theorem finished_any (B : Nat) (K : Int) (A1 A2 A3 : Option Addr) (n1 c1 n2 c2 n3 c3 : Nat) (m f fi : List O) (so : R) (hso : so.wf) (w : World) (h1 : Lst kO w B A1 n1 m) (h2 : Lst kO w B A2 n2 f) (h3 : Lst kO w B A3 n3 fi) (hB : B ≤ w.heap.size) :
    Calls Try.prog 24 #[.agg #[.int .i64 K, .slice A1 n1 c1, .slice A2 n2 c2, .slice A3 n3 c3], .agg #[.bool so.d, .int .i64 so.k, .int .i64 so.v, .int .i64 so.s]] w fun e w' => e = .returned (.agg #[.bool (finR (finishV K m f fi) so).d, .int .i64 (finR (finishV K m f fi) so).k, .int .i64 (finR (finishV K m f fi) so).v, .int .i64 (finR (finishV K m f fi) so).s]) ∧ Below w.heap.size w w' := by
  go_enter Try.func24, Try.ntmps24
  have hbuilt : (⟨false, so.k, finishV K m f fi so.k so.v, 0⟩ : R).wf := ⟨hso.1, Sp.finishV_wf h3.2.1 _ _ hso.1 hso.2.1, rfl⟩
  go_wp2_with (first
    | (refine wpList_box_blk (w := w) rfl 24 _ rfl #[.int .i64 K, .slice A1 n1 c1, .slice A2 n2 c2, .slice A3 n3 c3] rfl ?_; intro wpp qpp gpp zpp)
    | (refine wpList_box_blk (w := wpp) rfl 26 _ rfl #[.bool so.d, .int .i64 so.k, .int .i64 so.v, .int .i64 so.s] rfl ?_; intro wso qso gso zso)
    | (refine wpList_alloc_blk (w := wso) rfl 26 rfl _ zero_rec ?_; intro wz qz gz zz))
  have bz : Below w.heap.size w wz := (((Below.refl _ w).grown gpp (Nat.le_refl _) (by simp)).grown gso (gpp.size) (by simp)).grown gz (Nat.le_trans (gpp.size) gso.size) (by simp)
  have lpp := qpp.lt
  have lso := qso.lt
  have lz := qz.lt
  have qpp := ((qpp).grown gso (by simp)).grown gz (by simp)
  have qso := (qso).grown gz (by simp)
  have lz : wso.heap.size ≤ wz.heap.size := Nat.le_of_lt lz
  have mpp : w.heap.size < wso.heap.size := Nat.lt_of_lt_of_le lpp (gso.size)
  have mso : wpp.heap.size < wso.heap.size := lso
  have hwt : w.heap.size ≤ wso.heap.size := Nat.le_of_lt mpp
  clear gpp zpp gso zso gz zz
  have hBz := Nat.le_trans hB bz.size
  have h1 := h1.below (bz.mono hB)
  have h2 := h2.below (bz.mono hB)
  have h3 := h3.below (bz.mono hB)
  refine wp_region_held (S := fun W => Below wso.heap.size wz W) (by kernel_rfl) ?_
  change wpAnyH _ _ _ _ _ _ _ _ wz.drew
  have c0_0 := (Below.refl wz.heap.size wz).drew
  refine Held.tk (v := .agg #[.bool so.d, .int .i64 so.k, .int .i64 so.v, .int .i64 so.s]) 0 (some 5) rfl (Held.y_load_blk (n := 4) rfl rfl Try.underlying26 rfl (by kernel_rfl) rfl (fun W hW => qso.below hW mso)) (c0_0.mono lz) ?_
  simp only [Act.put, Z1, Z2, Z3]
  refine Held.tk (v := .pointer (some ⟨wpp.heap.size, 1, none⟩)) 2 (some 7) rfl (Held.y_field (k := 1) (s := 0) rfl rfl Try.underlying26 rfl (by kernel_rfl) rfl) (c0_0.mono lz) ?_
  simp only [Act.put, Z1, Z2, Z3]
  refine Held.tk (v := .int .i64 so.k) 3 (some 8) rfl (Held.y_load rfl rfl (by kernel_rfl) (fun W hW => (qso.below hW mso).cell rfl)) (c0_0.mono lz) ?_
  simp only [Act.put, Z1, Z2, Z3]
  refine Held.tk (v := .agg #[.int .i64 K, .slice A1 n1 c1, .slice A2 n2 c2, .slice A3 n3 c3]) 4 (some 9) rfl (Held.y_load_blk (n := 4) rfl rfl Try.underlying24 rfl (by kernel_rfl) rfl (fun W hW => qpp.below hW mpp)) (c0_0.mono lz) ?_
  simp only [Act.put, Z1, Z2, Z3]
  refine Held.tk (v := .pointer (some ⟨wpp.heap.size, 1, none⟩)) 5 (some 10) rfl (Held.y_field (k := 1) (s := 0) rfl rfl Try.underlying26 rfl (by kernel_rfl) rfl) (c0_0.mono lz) ?_
  simp only [Act.put, Z1, Z2, Z3]
  refine Held.tk (v := .int .i64 so.k) 6 (some 11) rfl (Held.y_load rfl rfl (by kernel_rfl) (fun W hW => (qso.below hW mso).cell rfl)) (c0_0.mono lz) ?_
  simp only [Act.put, Z1, Z2, Z3]
  refine Held.tk (v := .pointer (some ⟨wpp.heap.size, 2, none⟩)) 7 (some 12) rfl (Held.y_field (k := 2) (s := 0) rfl rfl Try.underlying26 rfl (by kernel_rfl) rfl) (c0_0.mono lz) ?_
  simp only [Act.put, Z1, Z2, Z3]
  refine Held.tk (v := .int .i64 so.v) 8 (some 13) rfl (Held.y_load rfl rfl (by kernel_rfl) (fun W hW => (qso.below hW mso).cell rfl)) (c0_0.mono lz) ?_
  simp only [Act.put, Z1, Z2, Z3]
  refine Held.one 1 (by kernel_rfl) ?_
  refine Held.op_call 1 (some 6) 35 #[.agg #[.bool so.d, .int .i64 so.k, .int .i64 so.v, .int .i64 so.s]] rfl rfl rfl rfl (enters_of Try.func35 (by kernel_rfl) rfl) (by simp [Act.eval])
    (alive_any so hso _) ?_
  rintro e w1 ⟨rfl, b1⟩
  have c0_1 := c0_0.trans (b1.mono c0_0.size)
  refine ⟨_, rfl, (c0_1.mono lz), ?_⟩
  simp only [Act.put, Z1, Z2, Z3]
  refine Held.one 9 (by kernel_rfl) ?_
  refine Held.op_call 9 (some 14) 40 #[.agg #[.int .i64 K, .slice A1 n1 c1, .slice A2 n2 c2, .slice A3 n3 c3], .int .i64 so.k, .int .i64 so.v] rfl rfl rfl rfl (enters_of Try.func40 (by kernel_rfl) rfl) (by simp [Act.eval])
    (finish_any B K A1 A2 A3 n1 c1 n2 c2 n3 c3 m f fi so.k so.v _ hso.1 hso.2.1 (h1.below (c0_1.mono hBz)) (h2.below (c0_1.mono hBz)) (h3.below (c0_1.mono hBz)) (Nat.le_trans hBz c0_1.size)) ?_
  rintro e w2 ⟨rfl, b2⟩
  have c0_2 := c0_1.trans (b2.mono c0_1.size)
  refine ⟨_, rfl, (c0_2.mono lz), ?_⟩
  simp only [Act.put, Z1, Z2, Z3]
  refine Held.tk (v := .agg #[.bool false, .int .i64 so.k, .int .i64 (finishV K m f fi so.k so.v), .int .i64 0]) 10 (some 15) rfl (Held.y_build rfl (by kernel_rfl)) (c0_2.mono lz) ?_
  simp only [Act.put, Z1, Z2, Z3]
  refine Held.one 11 (by kernel_rfl) ?_
  refine Held.op_call 11 (some 16) 18 #[] rfl rfl rfl rfl (enters_of Try.func18 (by kernel_rfl) rfl) (by simp)
    (dead_any _) ?_
  rintro e w3 ⟨rfl, b3⟩
  have c0_3 := c0_2.trans (b3.mono c0_2.size)
  refine ⟨_, rfl, (c0_3.mono lz), ?_⟩
  simp only [Act.put, Z1, Z2, Z3]
  refine Held.one 12 (by kernel_rfl) ?_
  refine Held.op_call 12 (some 17) 23 #[.int .u64 (oneI (!so.d)), .agg #[.bool false, .int .i64 so.k, .int .i64 (finishV K m f fi so.k so.v), .int .i64 0], .agg #[.bool true, .int .i64 0, .int .i64 0, .int .i64 0]] rfl rfl rfl rfl (enters_of Try.func23 (by kernel_rfl) rfl) (by simp [Act.eval])
    (pick_rec (!so.d) ⟨false, so.k, (finishV K m f fi so.k so.v), 0⟩ RD (finR (finishV K m f fi) so) (fin_pick (finishV K m f fi) so) hbuilt wf_dead _) ?_
  rintro e w4 ⟨rfl, b4⟩
  have c0_4 := c0_3.trans (b4.mono c0_3.size)
  refine ⟨_, rfl, (c0_4.mono lz), ?_⟩
  simp only [Act.put, Z1, Z2, Z3]
  refine Held.one 13 (by kernel_rfl) ?_
  have qz := qz.below c0_4 qz.lt
  refine Held.op_store_blk 13 none 26 wso.heap.size 4 26 _ #[.bool (finR (finishV K m f fi) so).d, .int .i64 (finR (finishV K m f fi) so).k, .int .i64 (finR (finishV K m f fi) so).v, .int .i64 (finR (finishV K m f fi) so).s] rfl rfl rfl rfl rfl rfl qz info_rec rfl rfl (by kernel_rfl) ?_
  intro w5 qz g5
  have d5 := (bz.trans (c0_4.mono bz.size)).grown g5 (Nat.le_trans bz.size c0_4.size) (fun r e => by cases e; exact hwt)
  have c5 := (c0_4.mono lz).grown g5 (Nat.le_trans lz c0_4.size) (fun r e => by cases e; exact Nat.le_refl _)
  refine ⟨c5, ?_⟩
  simp only [Act.put]
  refine wpAnyH_done (by kernel_rfl) ?_ _
  go_wp2_with fail
  skip
  exact bodyPost_ret (results_blk rfl _ _ wso.heap.size 4 _ _ rfl qz _ Try.underlying26 rfl info_rec rfl) rfl ⟨rfl, d5⟩
end Go.Proofs.Ytkiempdpfmolfaa.Cn
namespace Go.Proofs.Ytkiempdpfmolfaa.Mg
open Rc Rs
section
variable (seq : Bool)
def lead (a b : R) : Bool := if seq then bef a.d a.k a.s b.d b.k b.s else ahd a.d a.k b.d b.k
theorem lead_irr (a : R) : lead seq a a = false := by
  unfold lead bef ahd
  cases a.d <;> cases seq <;> simp
theorem lead_trans {a b c : R} (h1 : lead seq a b = true) (h2 : lead seq b c = true) : lead seq a c = true := by
  unfold lead bef ahd at *
  cases seq <;> simp only [Bool.false_eq_true, if_false, if_true, Bool.and_eq_true, Bool.not_eq_true', Bool.or_eq_true, decide_eq_true_eq] at *
  · obtain ⟨ha, hb⟩ := h1
    obtain ⟨hb', hc⟩ := h2
    refine ⟨ha, ?_⟩
    rcases hc with hc | hc
    · exact .inl hc
    · rcases hb with hb | hb
      · rw [hb] at hb'; cases hb'
      · exact .inr (by omega)
  · obtain ⟨ha, hb⟩ := h1
    obtain ⟨hb', hc⟩ := h2
    refine ⟨ha, ?_⟩
    rcases hc with hc | hc
    · exact .inl hc
    · rcases hb with hb | hb
      · rw [hb] at hb'; cases hb'
      · exact .inr (by omega)
theorem lead_neg {a b c : R} (h1 : lead seq a b = false) (h2 : lead seq b c = false) : lead seq a c = false := by
  unfold lead bef ahd at *
  cases seq <;> simp only [Bool.false_eq_true, if_false, if_true, Bool.and_eq_false_iff, Bool.not_eq_false', Bool.or_eq_false_iff, decide_eq_false_iff_not] at *
  · rcases h1 with h1 | ⟨hb, h1⟩
    · exact .inl h1
    · rcases h2 with h2 | ⟨hc, h2⟩
      · rw [hb] at h2; cases h2
      · exact .inr ⟨hc, by omega⟩
  · rcases h1 with h1 | ⟨hb, h1⟩
    · exact .inl h1
    · rcases h2 with h2 | ⟨hc, h2⟩
      · rw [hb] at h2; cases h2
      · exact .inr ⟨hc, by omega⟩
theorem lead_asym {a b : R} (h : lead seq a b = true) : lead seq b a = false := by
  cases hb : lead seq b a with
  | false => rfl
  | true =>
    have := lead_trans seq h hb
    rw [lead_irr] at this
    cases this
theorem lead_of' {a b c : R} (h1 : lead seq a b = true) (h2 : lead seq a c = false) : lead seq c b = true := by
  cases h : lead seq c b with
  | true => rfl
  | false => rw [lead_neg seq h2 h] at h1; cases h1
def tie (a b : R) : Bool := !lead seq a b && !lead seq b a
theorem tie_refl (a : R) : tie seq a a = true := by simp [tie, lead_irr]
def Srt : List R → Prop
  | [] => True
  | [_] => True
  | a :: b :: l => lead seq b a = false ∧ Srt (b :: l)
theorem Srt.tail {a : R} {l : List R} (h : Srt seq (a :: l)) : Srt seq l := by
  cases l with
  | nil => trivial
  | cons b l => exact h.2
theorem Srt.head {a : R} : ∀ {l : List R}, Srt seq (a :: l) → ∀ x ∈ l, lead seq x a = false
  | [], _, x, hx => by simp at hx
  | b :: l, h, x, hx => by
    rcases List.mem_cons.1 hx with rfl | hx
    · exact h.1
    · exact lead_neg seq (Srt.head (a := b) h.2 x hx) h.1
theorem stable_unique : ∀ (xs ys : List R), Srt seq xs → Srt seq ys → (∀ c, xs.filter (tie seq c) = ys.filter (tie seq c)) → xs = ys
  | [], [], _, _, _ => rfl
  | [], y :: ys, _, _, h => by
    have := h y
    simp [tie_refl] at this
  | x :: xs, [], _, _, h => by
    have := h x
    simp [tie_refl] at this
  | x :: xs, y :: ys, hx, hy, h => by
    have h1 : x ∈ y :: ys := by
      have : x ∈ (y :: ys).filter (tie seq x) := by rw [← h x]; simp [tie_refl]
      exact (List.mem_filter.1 this).1
    have h2 : y ∈ x :: xs := by
      have : y ∈ (x :: xs).filter (tie seq y) := by rw [h y]; simp [tie_refl]
      exact (List.mem_filter.1 this).1
    have e1 : lead seq x y = false := by
      rcases List.mem_cons.1 h1 with rfl | h1
      · exact lead_irr seq _
      · exact hy.head seq _ h1
    have e2 : lead seq y x = false := by
      rcases List.mem_cons.1 h2 with rfl | h2
      · exact lead_irr seq _
      · exact hx.head seq _ h2
    have ht : tie seq x y = true := by simp [tie, e1, e2]
    have hh := h x
    rw [List.filter_cons_of_pos (tie_refl seq x), List.filter_cons_of_pos ht] at hh
    injection hh with hxy _
    subst hxy
    refine congrArg (x :: ·) (stable_unique xs ys hx.tail hy.tail fun c => ?_)
    have hc := h c
    by_cases ct : tie seq c x = true
    · rw [List.filter_cons_of_pos ct, List.filter_cons_of_pos ct] at hc
      injection hc
    · rw [List.filter_cons_of_neg ct, List.filter_cons_of_neg ct] at hc
      exact hc
def spotR (x : R) (out : List R) : Nat → Nat
  | 0 => 0
  | k + 1 => if lead seq x (out.getD k R0) then spotR x out k else k + 1
def insR (out : List R) (x : R) : List R := out.take (spotR seq x out out.length) ++ x :: out.drop (spotR seq x out out.length)
def sortR (l : List R) : List R := l.foldl (insR seq) []
theorem spotR_le (x : R) (out : List R) : ∀ k, spotR seq x out k ≤ k
  | 0 => Nat.le_refl 0
  | k + 1 => by
    unfold spotR
    split
    · exact Nat.le_succ_of_le (spotR_le x out k)
    · exact Nat.le_refl _
theorem spotR_behind (x : R) (out : List R) : ∀ k i, spotR seq x out k ≤ i → i < k → lead seq x (out.getD i R0) = true
  | 0, i, _, h => absurd h (by omega)
  | k + 1, i, h1, h2 => by
    unfold spotR at h1
    split at h1
    · rename_i hl
      by_cases e : i = k
      · rw [e]; exact hl
      · exact spotR_behind x out k i h1 (by omega)
    · omega
theorem spotR_ahead (x : R) (out : List R) : ∀ k, 0 < spotR seq x out k → lead seq x (out.getD (spotR seq x out k - 1) R0) = false
  | 0, h => absurd h (by simp [spotR])
  | k + 1, h => by
    unfold spotR at h ⊢
    split
    · rename_i hl
      rw [if_pos hl] at h
      exact spotR_ahead x out k h
    · rename_i hl
      simpa using hl
theorem insR_length (out : List R) (x : R) : (insR seq out x).length = out.length + 1 := by
  have := spotR_le seq x out out.length
  simp [insR]; omega
theorem foldR_length : ∀ (l out : List R), (l.foldl (insR seq) out).length = out.length + l.length
  | [], out => rfl
  | x :: l, out => by rw [List.foldl_cons, foldR_length l, insR_length, List.length_cons]; omega
theorem sortR_length (l : List R) : (sortR seq l).length = l.length := by rw [sortR, foldR_length]; simp
theorem srt_iff : ∀ (l : List R), Srt seq l ↔ ∀ i, i + 1 < l.length → lead seq (l.getD (i + 1) R0) (l.getD i R0) = false
  | [] => ⟨fun _ i h => absurd h (by simp), fun _ => trivial⟩
  | [a] => ⟨fun _ i h => absurd h (by simp), fun _ => trivial⟩
  | a :: b :: l => by
    have ih := srt_iff (b :: l)
    constructor
    · rintro ⟨h1, h2⟩ i hi
      cases i with
      | zero => exact h1
      | succ i => exact ih.1 h2 i (by simpa using hi)
    · intro h
      exact ⟨h 0 (by simp), ih.2 fun i hi => h (i + 1) (by simpa using hi)⟩
theorem insR_sorts {out : List R} (x : R) (h : Srt seq out) : Srt seq (insR seq out x) := by
  have hle := spotR_le seq x out out.length
  have hb := spotR_behind seq x out out.length
  have ha := spotR_ahead seq x out out.length
  unfold insR
  generalize spotR seq x out out.length = k at *
  rw [srt_iff] at h ⊢
  intro i hi
  have hg : ∀ j, (out.take k ++ x :: out.drop k).getD j R0 = if j < k then out.getD j R0 else if j = k then x else out.getD (j - 1) R0 := fun j => by
    have hl : (out.take k).length = k := by rw [List.length_take]; omega
    simp only [List.getD_eq_getElem?_getD]
    by_cases c1 : j < k
    · rw [if_pos c1, List.getElem?_append_left (by omega), List.getElem?_take, if_pos c1]
    · rw [if_neg c1, List.getElem?_append_right (by omega), hl]
      by_cases c2 : j = k
      · rw [if_pos c2, c2, Nat.sub_self]; rfl
      · rw [if_neg c2, show j - k = (j - k - 1) + 1 by omega, List.getElem?_cons_succ, List.getElem?_drop, show k + (j - k - 1) = j - 1 by omega]
  have hi' : i < out.length := by simp at hi; omega
  rw [hg, hg]
  by_cases c1 : i + 1 < k
  · rw [if_pos c1, if_pos (by omega)]
    exact h i (by omega)
  · rw [if_neg c1]
    by_cases c2 : i + 1 = k
    · rw [if_pos c2, if_pos (by omega)]
      have := ha (by omega)
      rwa [show k - 1 = i by omega] at this
    · rw [if_neg c2, if_neg (by omega)]
      by_cases c3 : i = k
      · rw [if_pos c3, show i + 1 - 1 = i by omega]
        exact lead_asym seq (hb i (by omega) hi')
      · rw [if_neg c3, show i + 1 - 1 = (i - 1) + 1 by omega]
        exact h (i - 1) (by omega)
theorem insR_ties (c : R) {out : List R} (x : R) (h : Srt seq out) : (insR seq out x).filter (tie seq c) = out.filter (tie seq c) ++ (if tie seq c x then [x] else []) := by
  have hb := spotR_behind seq x out out.length
  have hle := spotR_le seq x out out.length
  unfold insR
  generalize spotR seq x out out.length = k at *
  have hd : ∀ y ∈ out.drop k, lead seq x y = true := fun y hy => by
    obtain ⟨j, hj, rfl⟩ := List.mem_iff_getElem.1 hy
    have hj' : k + j < out.length := by simp at hj; omega
    have := hb (k + j) (by omega) hj'
    rw [List.getD_eq_getElem?_getD, List.getElem?_eq_getElem hj'] at this
    rw [List.getElem_drop]
    exact this
  have ho : out.filter (tie seq c) = (out.take k).filter (tie seq c) ++ (out.drop k).filter (tie seq c) := by rw [← List.filter_append, List.take_append_drop]
  rw [List.filter_append, ho]
  by_cases ct : tie seq c x = true
  · rw [List.filter_cons_of_pos ct, if_pos ct]
    have : (out.drop k).filter (tie seq c) = [] := by
      rw [List.filter_eq_nil_iff]
      intro y hy hty
      have h1 := hd y hy
      unfold tie at ct hty
      simp only [Bool.and_eq_true, Bool.not_eq_true'] at ct hty
      rw [lead_neg seq ct.2 hty.1] at h1
      cases h1
    rw [this]
    simp
  · rw [List.filter_cons_of_neg ct, if_neg ct, List.append_nil]
theorem foldR_is : ∀ (l out : List R), Srt seq out → Srt seq (l.foldl (insR seq) out) ∧ ∀ c, (l.foldl (insR seq) out).filter (tie seq c) = out.filter (tie seq c) ++ l.filter (tie seq c)
  | [], out, h => ⟨h, fun c => by simp⟩
  | x :: l, out, h => by
    obtain ⟨h1, h2⟩ := foldR_is l (insR seq out x) (insR_sorts seq x h)
    refine ⟨h1, fun c => ?_⟩
    rw [List.foldl_cons, h2 c, insR_ties seq c x h]
    by_cases ct : tie seq c x = true
    · rw [if_pos ct, List.filter_cons_of_pos ct]; simp
    · rw [if_neg ct, List.filter_cons_of_neg ct]; simp
theorem sortR_sorts (l : List R) : Srt seq (sortR seq l) := (foldR_is seq l [] trivial).1
theorem sortR_ties (l : List R) (c : R) : (sortR seq l).filter (tie seq c) = l.filter (tie seq c) := by rw [sortR, (foldR_is seq l [] trivial).2 c]; simp
end
section
variable (seq : Bool)
def swR (l : List R) (p : Nat) : Bool := lead seq (l.getD (p + 1) R0) (l.getD p R0)
def settleR (l : List R) (p : Nat) : List R := (l.set p (if swR seq l p then l.getD (p + 1) R0 else l.getD p R0)).set (p + 1) (if swR seq l p then l.getD p R0 else l.getD (p + 1) R0)
theorem settleR_length (l : List R) (p : Nat) : (settleR seq l p).length = l.length := by simp [settleR]
theorem split2 : ∀ (p : Nat) (l : List R), p + 1 < l.length → ∃ A a b B, l = A ++ a :: b :: B ∧ A.length = p
  | _, [], h => absurd h (by simp)
  | 0, [a], h => absurd h (by simp)
  | 0, a :: b :: B, _ => ⟨[], a, b, B, rfl, rfl⟩
  | p + 1, x :: l, h => by
    obtain ⟨A, a, b, B, e, hl⟩ := split2 p l (by simpa using h)
    exact ⟨x :: A, a, b, B, by rw [e]; rfl, by simp [hl]⟩
theorem settle_app (A : List R) (a b : R) (B : List R) : settleR seq (A ++ a :: b :: B) A.length = if lead seq b a then A ++ b :: a :: B else A ++ a :: b :: B := by
  have g0 : (A ++ a :: b :: B).getD A.length R0 = a := by simp [List.getD_eq_getElem?_getD]
  have g1 : (A ++ a :: b :: B).getD (A.length + 1) R0 = b := by
    rw [List.getD_eq_getElem?_getD, List.getElem?_append_right (by omega), show A.length + 1 - A.length = 1 by omega]; rfl
  have hs : ∀ x y : R, ((A ++ a :: b :: B).set A.length x).set (A.length + 1) y = A ++ x :: y :: B := fun x y => by
    rw [List.set_append_right _ _ (Nat.le_refl _), Nat.sub_self, List.set_cons_zero, List.set_append_right _ _ (by omega), show A.length + 1 - A.length = 1 by omega]; rfl
  unfold settleR swR
  rw [g0, g1, hs]
  split <;> rfl
theorem settle_ties (c : R) {l : List R} {p : Nat} (hp : p + 1 < l.length) : (settleR seq l p).filter (tie seq c) = l.filter (tie seq c) := by
  obtain ⟨A, a, b, B, rfl, rfl⟩ := split2 p l hp
  rw [settle_app]
  split
  · rename_i hl
    rw [List.filter_append, List.filter_append]
    congr 1
    by_cases ca : tie seq c a = true
    · have cb : ¬ tie seq c b = true := fun cb => by
        unfold tie at ca cb
        simp only [Bool.and_eq_true, Bool.not_eq_true'] at ca cb
        rw [lead_neg seq cb.2 ca.1] at hl
        cases hl
      rw [List.filter_cons_of_neg cb, List.filter_cons_of_pos ca, List.filter_cons_of_pos ca, List.filter_cons_of_neg cb]
    · rw [List.filter_cons_of_neg ca (l := b :: B)]
      by_cases cb : tie seq c b = true
      · rw [List.filter_cons_of_pos cb, List.filter_cons_of_pos cb, List.filter_cons_of_neg ca]
      · rw [List.filter_cons_of_neg cb, List.filter_cons_of_neg cb, List.filter_cons_of_neg ca]
  · rfl
theorem settle_perm {l : List R} {p : Nat} (hp : p + 1 < l.length) : (settleR seq l p).Perm l := by
  obtain ⟨A, a, b, B, rfl, rfl⟩ := split2 p l hp
  rw [settle_app]
  split
  · exact List.Perm.append_left A (List.Perm.swap _ _ _)
  · exact List.Perm.refl _
def cnt (c : R) (l : List R) (q : Nat) : Nat := (l.drop q).countP (lead seq c)
theorem cnt_step (c : R) {l : List R} {q : Nat} (hq : q < l.length) : cnt seq c l q = (if lead seq c (l.getD q R0) then 1 else 0) + cnt seq c l (q + 1) := by
  unfold cnt
  rw [List.drop_eq_getElem_cons hq, List.countP_cons, List.getD_eq_getElem?_getD, List.getElem?_eq_getElem hq, Option.getD_some]
  omega
theorem cnt_le (c : R) (l : List R) (q : Nat) : cnt seq c l q ≤ l.length - q := by
  unfold cnt
  have := List.countP_le_length (p := lead seq c) (l := l.drop q)
  rwa [List.length_drop] at this
theorem cnt_mono (c : R) (l : List R) (q : Nat) : cnt seq c l (q + 1) ≤ cnt seq c l q := by
  by_cases h : q < l.length
  · rw [cnt_step seq c h]; omega
  · have := cnt_le seq c l (q + 1)
    omega
theorem cnt_zero (c : R) (l : List R) : ∀ q, cnt seq c l 0 ≤ q + cnt seq c l q
  | 0 => by omega
  | q + 1 => by
    have := cnt_zero c l q
    by_cases h : q < l.length
    · rw [cnt_step seq c h] at this
      split at this <;> omega
    · have h2 := cnt_le seq c l q
      omega
theorem cnt_top (c : R) (l : List R) : ∀ q, cnt seq c l q ≤ cnt seq c l 0
  | 0 => Nat.le_refl _
  | q + 1 => Nat.le_trans (cnt_mono seq c l q) (cnt_top c l q)
theorem settle_cnt (c : R) {l : List R} {p : Nat} (hp : p + 1 < l.length) (q : Nat) : cnt seq c (settleR seq l p) q = if q = p + 1 then min (cnt seq c l p) (cnt seq c l (p + 2) + 1) else cnt seq c l q := by
  obtain ⟨A, a, b, B, rfl, rfl⟩ := split2 p l hp
  rw [settle_app]
  have d1 : ∀ x y : R, (A ++ x :: y :: B).drop (A.length + 1) = y :: B := fun x y => by
    rw [List.drop_append]; simp
  have d2 : ∀ x y : R, (A ++ x :: y :: B).drop (A.length + 2) = B := fun x y => by
    rw [List.drop_append]; simp
  have d0 : ∀ x y : R, (A ++ x :: y :: B).drop A.length = x :: y :: B := fun x y => by
    rw [List.drop_append]; simp
  by_cases e : q = A.length + 1
  · rw [if_pos e, e]
    unfold cnt
    rw [d0, d2]
    by_cases hl : lead seq b a = true
    · rw [if_pos hl, d1]
      simp only [List.countP_cons]
      by_cases ca : lead seq c a = true
      · rw [if_pos ca]; split <;> omega
      · by_cases cb : lead seq c b = true
        · exact absurd (lead_trans seq cb hl) ca
        · rw [if_neg ca, if_neg cb]; omega
    · rw [if_neg hl, d1]
      simp only [List.countP_cons]
      by_cases cb : lead seq c b = true
      · rw [if_pos cb]; split <;> omega
      · by_cases ca : lead seq c a = true
        · exact absurd (lead_of' seq ca (by simpa using cb)) hl
        · rw [if_neg ca, if_neg cb]; omega
  · rw [if_neg e]
    split
    · unfold cnt
      rw [List.drop_append, List.drop_append, List.countP_append, List.countP_append]
      congr 1
      by_cases hq : q ≤ A.length
      · rw [show q - A.length = 0 by omega]
        simp only [List.drop_zero, List.countP_cons]
        omega
      · obtain ⟨r, hr⟩ : ∃ r, q - A.length = r + 2 := ⟨q - A.length - 2, by omega⟩
        rw [hr]
        rfl
    · rfl
def stepsR (f : Nat) : Nat → List R → List R
  | 0, l => l
  | k + 1, l => settleR seq (stepsR f k l) (f + 2 * k)
theorem stepsR_length (f : Nat) : ∀ (k : Nat) (l : List R), (stepsR seq f k l).length = l.length
  | 0, _ => rfl
  | k + 1, l => by rw [stepsR, settleR_length, stepsR_length f k l]
theorem steps_ties (c : R) (f : Nat) : ∀ (k : Nat) (l : List R), f + 2 * k ≤ l.length → (stepsR seq f k l).filter (tie seq c) = l.filter (tie seq c)
  | 0, _, _ => rfl
  | k + 1, l, h => by
    rw [stepsR, settle_ties seq c (by rw [stepsR_length]; omega), steps_ties c f k l (by omega)]
theorem steps_perm (f : Nat) : ∀ (k : Nat) (l : List R), f + 2 * k ≤ l.length → (stepsR seq f k l).Perm l
  | 0, _, _ => List.Perm.refl _
  | k + 1, l, h => by
    rw [stepsR]
    exact (settle_perm seq (by rw [stepsR_length]; omega)).trans (steps_perm f k l (by omega))
theorem steps_cnt (c : R) (f : Nat) : ∀ (k : Nat) (l : List R), f + 2 * k ≤ l.length → ∀ q, cnt seq c (stepsR seq f k l) q = if f < q ∧ q < f + 2 * k ∧ (q - f) % 2 = 1 then min (cnt seq c l (q - 1)) (cnt seq c l (q + 1) + 1) else cnt seq c l q
  | 0, l, _, q => by rw [if_neg (by omega)]; rfl
  | k + 1, l, h, q => by
    have ih := steps_cnt c f k l (by omega)
    rw [stepsR, settle_cnt seq c (by rw [stepsR_length]; omega)]
    by_cases e : q = f + 2 * k + 1
    · rw [if_pos e, if_pos (by omega), ih, ih, if_neg (by omega), if_neg (by omega), e, show f + 2 * k + 1 - 1 = f + 2 * k by omega]
    · rw [if_neg e, ih]
      by_cases hc : f < q ∧ q < f + 2 * k ∧ (q - f) % 2 = 1
      · rw [if_pos hc, if_pos (by omega)]
      · rw [if_neg hc, if_neg (by omega)]
def roundR (f : Nat) (l : List R) : List R := stepsR seq f ((l.length - f) / 2) l
def oetR : Nat → List R → List R
  | 0, l => l
  | t + 1, l => roundR seq (t % 2) (oetR t l)
theorem oetR_length : ∀ (t : Nat) (l : List R), (oetR seq t l).length = l.length
  | 0, _ => rfl
  | t + 1, l => by rw [oetR, roundR, stepsR_length, oetR_length t l]
theorem round_fits {f n : Nat} (hf : f ≤ 1) (hn : 0 < n) : f + 2 * ((n - f) / 2) ≤ n := by omega
theorem oet_ties (c : R) : ∀ (t : Nat) (l : List R), (oetR seq t l).filter (tie seq c) = l.filter (tie seq c)
  | 0, _ => rfl
  | t + 1, l => by
    rw [oetR, roundR]
    rcases Nat.eq_zero_or_pos (oetR seq t l).length with h0 | h0
    · rw [h0, Nat.zero_sub, Nat.zero_div]
      exact oet_ties c t l
    · rw [steps_ties seq c _ _ _ (round_fits (by omega) h0), oet_ties c t l]
theorem oet_perm : ∀ (t : Nat) (l : List R), (oetR seq t l).Perm l
  | 0, _ => List.Perm.refl _
  | t + 1, l => by
    rw [oetR, roundR]
    rcases Nat.eq_zero_or_pos (oetR seq t l).length with h0 | h0
    · rw [h0, Nat.zero_sub, Nat.zero_div]
      exact oet_perm t l
    · exact (steps_perm seq _ _ _ (round_fits (by omega) h0)).trans (oet_perm t l)
theorem oet_cnt (c : R) (l : List R) (hl : 0 < l.length) : ∀ t, cnt seq c (oetR seq t l) 0 = cnt seq c l 0 ∧ ∀ q j, j ≤ cnt seq c l 0 → q + j ≤ l.length → 2 * j + q ≤ 2 * ((cnt seq c l 0 + 1) / 2) + t → j ≤ cnt seq c (oetR seq t l) q
  | 0 => ⟨rfl, fun q j h1 h2 h3 => by
    have := cnt_zero seq c l q
    show j ≤ cnt seq c l q
    omega⟩
  | t + 1 => by
    obtain ⟨i0, ih⟩ := oet_cnt c l hl t
    have hL := oetR_length seq t l
    have hc := fun q => steps_cnt seq c (t % 2) ((l.length - t % 2) / 2) (oetR seq t l) (by rw [hL]; exact round_fits (by omega) hl) q
    have hz : cnt seq c (oetR seq (t + 1) l) 0 = cnt seq c l 0 := by
      rw [oetR, roundR, hL, hc, if_neg (by omega), i0]
    refine ⟨hz, fun q j h1 h2 h3 => ?_⟩
    rw [oetR, roundR, hL, hc]
    by_cases hq : t % 2 < q ∧ q < t % 2 + 2 * ((l.length - t % 2) / 2) ∧ (q - t % 2) % 2 = 1
    · rw [if_pos hq]
      have a1 := ih (q - 1) j h1 (by omega) (by omega)
      rcases Nat.eq_zero_or_pos j with j0 | j0
      · omega
      · have a2 := ih (q + 1) (j - 1) (by omega) (by omega) (by omega)
        omega
    · rw [if_neg hq]
      by_cases q0 : q = 0
      · rw [q0, i0]; exact h1
      · rcases Nat.eq_zero_or_pos j with j0 | j0
        · omega
        · refine ih q j h1 h2 ?_
          omega
theorem oet_sorts (l : List R) : Srt seq (oetR seq l.length l) := by
  rw [srt_iff]
  intro i hi
  rw [oetR_length] at hi
  cases hL : lead seq ((oetR seq l.length l).getD (i + 1) R0) ((oetR seq l.length l).getD i R0) with
  | false => rfl
  | true =>
    exfalso
    obtain ⟨c, hc⟩ : ∃ c, (oetR seq l.length l).getD (i + 1) R0 = c := ⟨_, rfl⟩
    rw [hc] at hL
    obtain ⟨h0, h1⟩ := oet_cnt seq c l (by omega) l.length
    have hlen := oetR_length seq l.length l
    have s0 := cnt_step seq c (l := oetR seq l.length l) (q := i) (by omega)
    have s1 := cnt_step seq c (l := oetR seq l.length l) (q := i + 1) (by omega)
    rw [hc, lead_irr] at s1
    rw [hL] at s0
    simp only [if_true, Bool.false_eq_true, if_false] at s0 s1
    have u0 := cnt_top seq c (oetR seq l.length l) i
    have u2 := cnt_le seq c (oetR seq l.length l) (i + 1 + 1)
    have v0 := cnt_le seq c l 0
    rcases Nat.le_total (cnt seq c l 0) (l.length - (i + 1)) with k | k
    · have := h1 (i + 1) (cnt seq c l 0) (Nat.le_refl _) (by omega) (by omega)
      omega
    · have := h1 (i + 1) (l.length - (i + 1)) k (by omega) (by omega)
      omega
theorem oet_is (l : List R) : oetR seq l.length l = sortR seq l :=
  stable_unique seq _ _ (oet_sorts seq l) (sortR_sorts seq l) (fun c => by rw [oet_ties, sortR_ties])
theorem sortR_perm (l : List R) : (sortR seq l).Perm l := by
  rw [← oet_is]
  exact oet_perm seq _ l
theorem Srt.take {l : List R} (h : Srt seq l) (k : Nat) : Srt seq (l.take k) := by
  rw [srt_iff] at h ⊢
  intro i hi
  have hi' : i + 1 < k ∧ i + 1 < l.length := by rw [List.length_take] at hi; omega
  have := h i hi'.2
  simp only [List.getD_eq_getElem?_getD, List.getElem?_take] at this ⊢
  rw [if_pos hi'.1, if_pos (by omega)]
  exact this
theorem Srt.drop : ∀ (k : Nat) {l : List R}, Srt seq l → Srt seq (l.drop k)
  | 0, _, h => h
  | _ + 1, [], _ => trivial
  | k + 1, _ :: l, h => Srt.drop k (l := l) h.tail
theorem Srt.two {l : List R} (h : Srt seq l) {i j : Nat} (hij : i ≤ j) (hj : j < l.length) : lead seq (l.getD j R0) (l.getD i R0) = false := by
  rw [srt_iff] at h
  obtain ⟨k, rfl⟩ : ∃ k, j = i + k := ⟨j - i, by omega⟩
  clear hij
  induction k with
  | zero => exact lead_irr seq _
  | succ k ih => exact lead_neg seq (h (i + k) (by omega)) (ih (by omega))
end
end Go.Proofs.Ytkiempdpfmolfaa.Mg
namespace Go.Proofs.Ytkiempdpfmolfaa.Sl
open Go.RowKit Go.Shelf Mem Held
section
variable {α : Type} {k : St α} {P : Program} {ops : Array Oper} {o : Oper} {a : Act} {w : World} {Q : Exit → Act → World → Prop}
theorem op_build_lst (i : Nat) (d : Option Tmp) {K : Act → World → Prop} (ts e : TypeId) (n : Nat) {parts : Array (Nat × Operand)} (z : Value) (bytes : Nat) (xs : List α) (hi : ops[i]? = some o) (hd : o.dst = d) (hw : Region.wanted o (yielded ops a.tmps) = true)
    (ho : o.op = .buildSlice ts n parts) (hu : P.underlying ts = some (.slice e)) (hinfo : (P.info? e).map (fun i => (i.zero, i.size, i.bytes)) = some (some z, k.s, bytes)) (hz : z.cells.size = k.s)
    (hn : xs.length = n) (hp : (parts.map fun (i, x) => (i, a.eval x)).toList = ((xs.map fun x => Value.agg (k.cells x).toArray).zipIdx 0).map fun x => (x.2, x.1)) (h0 : 0 < n) (h24 : n * k.s ≤ 16777216)
    (h : ∀ g w', Blk w' g e (flat k xs).toArray → Below w.heap.size w w' → Hid (w.heap.size ≤ g) → K (a.put d (.slice (some ⟨g, 0, none⟩) n n)) w') : wpOp P ops Q i K a w := by
  subst hd
  refine op_wp i hi hw ?_
  obtain ⟨ie, hie, hz0, hs, hb⟩ := info_parts hinfo
  refine Go.wp_buildSlice ts e n parts ho (flat k xs).toArray ie z hu hie hz0 (by rw [hs]; omega) (by rw [hs]; have := Nat.mul_pos h0 k.pos; omega) ?_ (h _ _ (heap_alloc_new w _) ((Below.refl _ w).alloc (Nat.le_refl _) _) (Lib.hid (Nat.le_refl _)))
  rw [hp, hs]
  refine (Great.fill_whole k.pos (xs.map fun x => Value.agg (k.cells x).toArray) _ (fun v hv => ?_) (by simp [hn])).trans ?_
  · obtain ⟨x, _, rfl⟩ := List.mem_map.1 hv
    simp [Value.cells, k.len]
  · rw [List.flatMap_map]
    simp [flat, Value.cells]
end
end Go.Proofs.Ytkiempdpfmolfaa.Sl
namespace Go.Proofs.Ytkiempdpfmolfaa.Sl
open Go.RowKit Go.Shelf Mem Held
section
variable {α : Type} {k : St α} {P : Program} {ops : Array Oper} {o : Oper} {a : Act} {w : World} {Q : Exit → Act → World → Prop}
end
end Go.Proofs.Ytkiempdpfmolfaa.Sl
namespace Go.Proofs.Ytkiempdpfmolfaa.Mg
open Go.RowKit Go.Shelf Go.Proofs.Ytkiempdpfmolfaa Mem Held Ct Rc Rs Sl
attribute [local irreducible] wpList wpListIn Calls
theorem rec_one (x : R) : ∀ u ∈ x.cells, u.oneCell' = true := fun u hu => by
  simp only [R.cells, List.mem_cons, List.not_mem_nil, or_false] at hu
  rcases hu with rfl | rfl | rfl | rfl <;> rfl
def kRec : St R := ⟨4, R.cells, R.wf, R0, fun _ => rfl, rec_one, by omega⟩
theorem info_kRec : (Try.prog.info? 26).map (fun i => (i.zero, i.size, i.bytes)) = some (some (.agg (kRec.cells kRec.d).toArray), kRec.s, 32) := by kernel_rfl
theorem recs_lst {w : World} {B n : Nat} {A : Option Addr} {rs : List R} (h : Recs w B A n rs) : Lst kRec w B A n rs := h
theorem getD_mem {rs : List R} {i : Nat} (hi : i < rs.length) : rs.getD i R0 ∈ rs := by
  rw [List.getD_eq_getElem?_getD, List.getElem?_eq_getElem hi]
  exact List.getElem_mem hi
end Go.Proofs.Ytkiempdpfmolfaa.Mg
namespace Go.Proofs.Ytkiempdpfmolfaa.Sl
open Go.RowKit Go.Shelf Mem Held
section
variable {α : Type} {k : St α}
end
section
variable {α : Type} {k : St α} {P : Program} {ops : Array Oper} {rest : List Oper} {o : Oper} {a : Act} {w : World} {Q : Exit → Act → World → Prop}
end
end Go.Proofs.Ytkiempdpfmolfaa.Sl
namespace Go.Proofs.Ytkiempdpfmolfaa.Mg
open Go.RowKit Go.Shelf Go.Proofs.Ytkiempdpfmolfaa Mem Held Ct Rc Rs Sl
attribute [local irreducible] wpList wpListIn Calls
section
variable {P : Program} {S : World → Prop} {ρ : Operand → Value} {o : Oper}
theorem run_append_zero (ts e : TypeId) (hu : P.underlying ts = some (.slice e)) (ie : TypeInfo) (hie : P.info? e = some ie) {ty : TypeId} (w : World) (As A : Option Addr) (n cap c : Nat) (hn : n ≤ cap) :
    (Builtin.append_ #[ts, ts] ty #[.slice As n cap, .slice A 0 c]).run P w = .ok (.slice As n cap) w := by
  cases A with
  | none => cases As <;> simp [Builtin.append_, run_underlying hu, sizeOf, typeInfo, hie, Builtin.lenOf, Builtin.firstCells, hn, storeCells]
  | some ad => cases As <;> simp [Builtin.append_, run_underlying hu, sizeOf, typeInfo, hie, Builtin.lenOf, Builtin.firstCells, hn, storeCells, loadCells, loadCellsFrom]
end
section
variable {α : Type} {k : St α} {P : Program} {ops : Array Oper} {rest : List Oper} {o : Oper} {a : Act} {w : World} {Q : Exit → Act → World → Prop}
theorem wpList_append_all (hgd : o.guard = none) (s x : Operand) (ts e : TypeId) (ho : o.op = .call { callee := .builtin .append, args := #[s, x], argTypes := #[ts, ts] }) (hu : P.underlying ts = some (.slice e)) (z : Value) (bytes : Nat) (hinfo : (P.info? e).map (fun i => (i.zero, i.size, i.bytes)) = some (some z, k.s, bytes)) (hz : z.cells.size = k.s)
    (base B m c : Nat) (A : Option Addr) (v : Value) (xs ys : List α) (hs : a.eval s = v) (hx : a.eval x = .slice A m c) (hown : OwnL k e w base v xs) (hq : Lst k w B A m ys) (hm : xs.length + m ≤ 1048576) (hby : bytes ≤ 1048576) (hbase : base ≤ w.heap.size)
    (h : ∀ v' w', OwnL k e w' base v' (xs ++ ys) → w.grownBy w' v.ownBlock → (v'.ownBlock = v.ownBlock ∨ v'.ownBlock = some w.heap.size) → wpList P ops Q rest (a.put o.dst v') w') : wpList P ops Q (o :: rest) a w := by
  rcases Nat.eq_zero_or_pos m with h0 | h0
  · subst h0
    have e0 : ys = [] := List.eq_nil_of_length_eq_zero hq.1
    subst e0
    obtain ⟨A', c', rfl, hle, _⟩ := OwnL.form hown
    obtain ⟨ie, hie, _⟩ := info_parts hinfo
    exact Rs.wpList_append_ran hgd s x ts ts ho _ _ _ w hs hx (run_append_zero ts e hu ie hie w A' A _ c' c hle) (h _ w (by rw [List.append_nil]; exact hown) (World.grownBy.refl w _) (.inl rfl))
  · obtain ⟨g, off, rfl, _, _⟩ := hq.2.2 h0
    exact wpList_append_lst hgd s x ts e ho hu z bytes hinfo hz base B g off m c v xs ys hs hx hown hq hm hby hbase h
end
end Go.Proofs.Ytkiempdpfmolfaa.Mg
