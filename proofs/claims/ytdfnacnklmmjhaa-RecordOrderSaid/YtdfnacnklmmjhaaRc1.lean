/-
  What a record is to the program, as plain functions; package record's one, leads, Before, Ahead, Dead, and the document's own, by their contracts. Conditions: the numbers fit their kinds.
-/
import Derived.Test.YtdfnacnklmmjhaaRec
import Derived.Test.YtdfnacnklmmjhaaCt
import Derived.Test.YtdfnacnklmmjhaaReg
import Derived.Test.YtdfnacnklmmjhaaKy1
namespace Go.Proofs.Ytdfnacnklmmjhaa.Rc
open Go.RowKit Go.Shelf Go.Proofs.Ytdfnacnklmmjhaa.Mem Go.Proofs.Ytdfnacnklmmjhaa.Help Go.Proofs.Ytdfnacnklmmjhaa.Sum Go.Proofs.Ytdfnacnklmmjhaa.Po Go.Proofs.Ytdfnacnklmmjhaa.Ct Go.Proofs.Ytdfnacnklmmjhaa.Bit Go.Proofs.Ytdfnacnklmmjhaa.Held Go.Proofs.Ytdfnacnklmmjhaa
set_option linter.unusedVariables false
attribute [local irreducible] wpList wpListIn Calls

/-- a number as of 64 bits, and back -/
def u64 (x : Int) : Int := x % 18446744073709551616
theorem u64_eq (x : Int) : IntKind.u64.wrap x = u64 x := by rw [IntKind.wrap_u64]; rfl
theorem u64_wf (x : Int) : (Lit.int .u64 (u64 x)).wf = true := wf_64 (by unfold u64; omega)
theorem u64_inj {x y : Int} (hx : (Lit.int .i64 x).wf = true) (hy : (Lit.int .i64 y).wf = true) : (u64 x = u64 y) ↔ x = y := by
  have := wf_i64 hx
  have := wf_i64 hy
  unfold u64
  omega
theorem i64_u64 {x : Int} (hx : (Lit.int .i64 x).wf = true) : IntKind.i64.wrap (u64 x) = x := by
  have := wf_i64 hx
  rw [IntKind.wrap_i64]
  unfold u64
  omega
theorem u64_i64 {x : Int} (hx : (Lit.int .u64 x).wf = true) : u64 (IntKind.i64.wrap x) = x := by
  have := wf_u64 hx
  rw [IntKind.wrap_i64]
  unfold u64
  omega
theorem i64_wf (x : Int) : (Lit.int .i64 (IntKind.i64.wrap x)).wf = true := by
  rw [IntKind.wrap_i64]
  simp [Lit.wf, IntKind.min, IntKind.max, IntKind.signed, IntKind.bits]
  omega
/-- which of two stands ahead -/
def ahd (da : Bool) (ka : Int) (db : Bool) (kb : Int) : Bool := !da && (db || decide (ka < kb))
def bef (da : Bool) (ka sa : Int) (db : Bool) (kb sb : Int) : Bool := !da && (db || (decide (ka < kb) || (decide (ka = kb) && decide (sa < sb))))
theorem one_wf (b : Bool) : (Lit.int .u64 (oneI b)).wf = true := by cases b <;> rfl
theorem lead_eq (da db l : Bool) : bits .and .u64 (bits .xor .u64 1 (oneI da)) (bits .or .u64 (oneI db) (oneI l)) = oneI (!da && (db || l)) := by cases da <;> cases db <;> cases l <;> decide
theorem or_one (a b : Bool) : bits .or .u64 (oneI a) (oneI b) = oneI (a || b) := by cases a <;> cases b <;> decide
theorem and_one_ (a b : Bool) : bits .and .u64 (oneI a) (oneI b) = oneI (a && b) := by cases a <;> cases b <;> decide
theorem low_eq (x y : Int) : low x y = oneI (decide (x < y)) := (oneI_low x y).symm
theorem alike_eq (x y : Int) : alike x y = oneI (decide (x = y)) := by
  rw [← oneI_alike]
  congr 1

theorem below_b (x y : Int) (hx : (Lit.int .i64 x).wf = true) (hy : (Lit.int .i64 y).wf = true) (w : World) :
    Calls Try.prog 31 #[.int .i64 x, .int .i64 y] w fun e w' => e = .returned (.int .u64 (oneI (decide (x < y)))) ∧ Below w.heap.size w w' := by
  have h1 := wf_i64 hx
  have h2 := wf_i64 hy
  rw [← low_eq]
  exact (below_any x y h1.1 h1.2 h2.1 h2.2 w).mono fun _ _ ⟨h, e⟩ => ⟨h, e ▸ Below.refl _ _⟩
theorem same_b (x y : Int) (hx : (Lit.int .u64 x).wf = true) (hy : (Lit.int .u64 y).wf = true) (w : World) :
    Calls Try.prog 32 #[.int .u64 x, .int .u64 y] w fun e w' => e = .returned (.int .u64 (oneI (decide (x = y)))) ∧ Below w.heap.size w w' := by
  have h1 := wf_u64 hx
  have h2 := wf_u64 hy
  rw [← alike_eq]
  exact (Ct.same_any x y h1.1 (by omega) h2.1 (by omega) w).mono fun _ _ ⟨h, e⟩ => ⟨h, e ▸ Below.refl _ _⟩
theorem pick_b (c x y : Int) (hc : (Lit.int .u64 c).wf = true) (hx : (Lit.int .u64 x).wf = true) (hy : (Lit.int .u64 y).wf = true) (w : World) :
    Calls Try.prog 35 #[.int .u64 c, .int .u64 x, .int .u64 y] w fun e w' => e = .returned (.int .u64 (pickI c x y)) ∧ Below w.heap.size w w' := by
  have h0 := wf_u64 hc
  have h1 := wf_u64 hx
  have h2 := wf_u64 hy
  exact (pick_any c x y h0.1 (by omega) h1.1 (by omega) h2.1 (by omega) w).mono fun _ _ ⟨h, e⟩ => ⟨h, e ▸ Below.refl _ _⟩
theorem one_b (b : Bool) (w : World) : Calls Try.prog 27 #[.bool b] w fun e w' => e = .returned (.int .u64 (oneI b)) ∧ Below w.heap.size w w' := by
  cases b
  all_goals
    go_enter Try.func27, Try.ntmps27
    go_wp2
    go_ret
    exact ⟨rfl, Below.refl _ _⟩
theorem rone_b (b : Bool) (w : World) : Calls Try.prog 34 #[.bool b] w fun e w' => e = .returned (.int .u64 (oneI b)) ∧ Below w.heap.size w w' := by
  cases b
  all_goals
    go_enter Try.func34, Try.ntmps34
    go_wp2
    go_ret
    exact ⟨rfl, Below.refl _ _⟩

set_option maxRecDepth 100000 in
set_option maxHeartbeats 4000000 in
theorem leads_any (da : Bool) (ka va sa : Int) (db : Bool) (kb vb sb : Int) (l : Bool) (w : World) :
    Calls Try.prog 33 #[.agg #[.bool da, .int .i64 ka, .int .i64 va, .int .i64 sa], .agg #[.bool db, .int .i64 kb, .int .i64 vb, .int .i64 sb], .int .u64 (oneI l)] w fun e w' => e = .returned (.int .u64 (oneI (!da && (db || l)))) ∧ Below w.heap.size w w' := by
  go_enter Try.func33, Try.ntmps33
  go_wp2_with (first
    | (refine wpList_box_blk (w := w) rfl 23 _ rfl #[.bool da, .int .i64 ka, .int .i64 va, .int .i64 sa] rfl ?_; intro wa qa ga za)
    | (refine wpList_box_blk (w := wa) rfl 23 _ rfl #[.bool db, .int .i64 kb, .int .i64 vb, .int .i64 sb] rfl ?_; intro wb qb gb zb))
  have bz : Below w.heap.size w wb := ((Below.refl _ w).grown ga (Nat.le_refl _) (by simp)).grown gb ga.size (by simp)
  have qa := qa.grown gb (by simp)
  clear ga za gb zb
  refine wp_region_held (S := fun W => Below wb.heap.size wb W) (by kernel_rfl) ?_
  change wpAnyH _ _ _ _ _ _ _ _ wb.drew
  have c0_0 := (Below.refl wb.heap.size wb).drew
  refine Held.take (v := .pointer (some ⟨w.heap.size, 0, none⟩)) 0 (some 7) rfl rfl (by kernel_rfl) (by kernel_rfl) (by kernel_rfl) (fun _ _ _ h => h) rfl (Held.y_field (k := 0) (s := 0) rfl rfl Try.underlying23 rfl (by kernel_rfl) rfl) c0_0 ?_
  simp only [Act.put, List.setIfInBounds_toArray, List.set_cons_zero, List.set_cons_succ]
  refine Held.take (v := .bool da) 1 (some 8) rfl rfl (by kernel_rfl) (by kernel_rfl) (by kernel_rfl) (fun _ _ _ h => h) rfl (Held.y_load rfl rfl (by kernel_rfl) (fun W hW => (qa.below hW qa.lt).cell rfl)) c0_0 ?_
  simp only [Act.put, List.setIfInBounds_toArray, List.set_cons_zero, List.set_cons_succ]
  refine Held.take (v := .pointer (some ⟨wa.heap.size, 0, none⟩)) 4 (some 11) rfl rfl (by kernel_rfl) (by kernel_rfl) (by kernel_rfl) (fun _ _ _ h => h) rfl (Held.y_field (k := 0) (s := 0) rfl rfl Try.underlying23 rfl (by kernel_rfl) rfl) c0_0 ?_
  simp only [Act.put, List.setIfInBounds_toArray, List.set_cons_zero, List.set_cons_succ]
  refine Held.take (v := .bool db) 5 (some 12) rfl rfl (by kernel_rfl) (by kernel_rfl) (by kernel_rfl) (fun _ _ _ h => h) rfl (Held.y_load rfl rfl (by kernel_rfl) (fun W hW => (qb.below hW qb.lt).cell rfl)) c0_0 ?_
  simp only [Act.put, List.setIfInBounds_toArray, List.set_cons_zero, List.set_cons_succ]
  refine Held.take (v := .int .u64 (oneI l)) 7 (some 14) rfl rfl (by kernel_rfl) (by kernel_rfl) (by kernel_rfl) (fun _ _ _ h => h) rfl (Held.y_move rfl rfl) c0_0 ?_
  simp only [Act.put, List.setIfInBounds_toArray, List.set_cons_zero, List.set_cons_succ]
  refine Held.one 2 (by kernel_rfl) ?_
  refine Held.op_call 2 (some 9) 27 #[.bool da] rfl rfl rfl rfl (enters_of Try.func27 (by kernel_rfl) rfl) (by simp [Act.eval])
    (one_b da _) ?_
  rintro e w1 ⟨rfl, b1⟩
  have c0_1 := c0_0.trans (b1.mono c0_0.size)
  refine ⟨_, rfl, c0_1, ?_⟩
  simp only [Act.put, List.setIfInBounds_toArray, List.set_cons_zero, List.set_cons_succ]
  refine Held.take (v := .int .u64 (bits .xor .u64 1 ((oneI da)))) 3 (some 10) rfl rfl (by kernel_rfl) (by kernel_rfl) (by kernel_rfl) (fun _ _ _ h => h) rfl (Held.y_int rfl rfl rfl (Held.run_bitop (by simp) 35 .u64 (rfl))) c0_1 ?_
  simp only [Act.put, List.setIfInBounds_toArray, List.set_cons_zero, List.set_cons_succ]
  refine Held.one 6 (by kernel_rfl) ?_
  refine Held.op_call 6 (some 13) 27 #[.bool db] rfl rfl rfl rfl (enters_of Try.func27 (by kernel_rfl) rfl) (by simp [Act.eval])
    (one_b db _) ?_
  rintro e w2 ⟨rfl, b2⟩
  have c0_2 := c0_1.trans (b2.mono c0_1.size)
  refine ⟨_, rfl, c0_2, ?_⟩
  simp only [Act.put, List.setIfInBounds_toArray, List.set_cons_zero, List.set_cons_succ]
  refine Held.take (v := .int .u64 (bits .or .u64 ((oneI db)) ((oneI l)))) 8 (some 15) rfl rfl (by kernel_rfl) (by kernel_rfl) (by kernel_rfl) (fun _ _ _ h => h) rfl (Held.y_int rfl rfl rfl (Held.run_bitop (by simp) 35 .u64 (rfl))) c0_2 ?_
  simp only [Act.put, List.setIfInBounds_toArray, List.set_cons_zero, List.set_cons_succ]
  refine Held.take (v := .int .u64 (bits .and .u64 ((bits .xor .u64 1 ((oneI da)))) ((bits .or .u64 ((oneI db)) ((oneI l)))))) 9 (some 16) rfl rfl (by kernel_rfl) (by kernel_rfl) (by kernel_rfl) (fun _ _ _ h => h) rfl (Held.y_int rfl rfl rfl (Held.run_bitop (by simp) 35 .u64 (rfl))) c0_2 ?_
  simp only [Act.put, List.setIfInBounds_toArray, List.set_cons_zero, List.set_cons_succ]
  refine Held.take (v := .int .u64 (bits .and .u64 ((bits .xor .u64 1 ((oneI da)))) ((bits .or .u64 ((oneI db)) ((oneI l)))))) 10 (some 6) rfl rfl (by kernel_rfl) (by kernel_rfl) (by kernel_rfl) (fun _ _ _ h => h) rfl (Held.y_assign rfl rfl) c0_2 ?_
  simp only [Act.put, List.setIfInBounds_toArray, List.set_cons_zero, List.set_cons_succ]
  refine wpAnyH_done (by kernel_rfl) ?_ _
  have dz := bz.trans (c0_2.mono bz.size)
  go_wp2_with fail
  go_ret
  exact ⟨Mem.ret_int (lead_eq da db l), dz⟩

set_option maxRecDepth 100000 in
set_option maxHeartbeats 4000000 in
theorem before_any (da : Bool) (ka va sa : Int) (db : Bool) (kb vb sb : Int) (hka : (Lit.int .i64 ka).wf = true) (hsa : (Lit.int .i64 sa).wf = true) (hkb : (Lit.int .i64 kb).wf = true) (hsb : (Lit.int .i64 sb).wf = true) (w : World) :
    Calls Try.prog 15 #[.agg #[.bool da, .int .i64 ka, .int .i64 va, .int .i64 sa], .agg #[.bool db, .int .i64 kb, .int .i64 vb, .int .i64 sb]] w fun e w' => e = .returned (.int .u64 (oneI (bef da ka sa db kb sb))) ∧ Below w.heap.size w w' := by
  go_enter Try.func15, Try.ntmps15
  go_wp2_with (first
    | (refine wpList_box_blk (w := w) rfl 23 _ rfl #[.bool da, .int .i64 ka, .int .i64 va, .int .i64 sa] rfl ?_; intro wa qa ga za)
    | (refine wpList_box_blk (w := wa) rfl 23 _ rfl #[.bool db, .int .i64 kb, .int .i64 vb, .int .i64 sb] rfl ?_; intro wb qb gb zb))
  have bz : Below w.heap.size w wb := ((Below.refl _ w).grown ga (Nat.le_refl _) (by simp)).grown gb ga.size (by simp)
  have qa := qa.grown gb (by simp)
  clear ga za gb zb
  refine wp_region_held (S := fun W => Below wb.heap.size wb W) (by kernel_rfl) ?_
  change wpAnyH _ _ _ _ _ _ _ _ wb.drew
  have c0_0 := (Below.refl wb.heap.size wb).drew
  refine Held.take (v := .pointer (some ⟨w.heap.size, 1, none⟩)) 0 (some 6) rfl rfl (by kernel_rfl) (by kernel_rfl) (by kernel_rfl) (fun _ _ _ h => h) rfl (Held.y_field (k := 1) (s := 0) rfl rfl Try.underlying23 rfl (by kernel_rfl) rfl) c0_0 ?_
  simp only [Act.put, List.setIfInBounds_toArray, List.set_cons_zero, List.set_cons_succ]
  refine Held.take (v := .int .i64 ka) 1 (some 7) rfl rfl (by kernel_rfl) (by kernel_rfl) (by kernel_rfl) (fun _ _ _ h => h) rfl (Held.y_load rfl rfl (by kernel_rfl) (fun W hW => (qa.below hW qa.lt).cell rfl)) c0_0 ?_
  simp only [Act.put, List.setIfInBounds_toArray, List.set_cons_zero, List.set_cons_succ]
  refine Held.take (v := .pointer (some ⟨wa.heap.size, 1, none⟩)) 2 (some 8) rfl rfl (by kernel_rfl) (by kernel_rfl) (by kernel_rfl) (fun _ _ _ h => h) rfl (Held.y_field (k := 1) (s := 0) rfl rfl Try.underlying23 rfl (by kernel_rfl) rfl) c0_0 ?_
  simp only [Act.put, List.setIfInBounds_toArray, List.set_cons_zero, List.set_cons_succ]
  refine Held.take (v := .int .i64 kb) 3 (some 9) rfl rfl (by kernel_rfl) (by kernel_rfl) (by kernel_rfl) (fun _ _ _ h => h) rfl (Held.y_load rfl rfl (by kernel_rfl) (fun W hW => (qb.below hW qb.lt).cell rfl)) c0_0 ?_
  simp only [Act.put, List.setIfInBounds_toArray, List.set_cons_zero, List.set_cons_succ]
  refine Held.take (v := .pointer (some ⟨w.heap.size, 1, none⟩)) 5 (some 11) rfl rfl (by kernel_rfl) (by kernel_rfl) (by kernel_rfl) (fun _ _ _ h => h) rfl (Held.y_field (k := 1) (s := 0) rfl rfl Try.underlying23 rfl (by kernel_rfl) rfl) c0_0 ?_
  simp only [Act.put, List.setIfInBounds_toArray, List.set_cons_zero, List.set_cons_succ]
  refine Held.take (v := .int .i64 ka) 6 (some 12) rfl rfl (by kernel_rfl) (by kernel_rfl) (by kernel_rfl) (fun _ _ _ h => h) rfl (Held.y_load rfl rfl (by kernel_rfl) (fun W hW => (qa.below hW qa.lt).cell rfl)) c0_0 ?_
  simp only [Act.put, List.setIfInBounds_toArray, List.set_cons_zero, List.set_cons_succ]
  refine Held.take (v := .int .u64 (u64 ka)) 7 (some 13) rfl rfl (by kernel_rfl) (by kernel_rfl) (by kernel_rfl) (fun _ _ _ h => h) rfl (Held.y_convert rfl rfl (by kernel_rfl) Try.underlying35 (u64_eq ka)) c0_0 ?_
  simp only [Act.put, List.setIfInBounds_toArray, List.set_cons_zero, List.set_cons_succ]
  refine Held.take (v := .pointer (some ⟨wa.heap.size, 1, none⟩)) 8 (some 14) rfl rfl (by kernel_rfl) (by kernel_rfl) (by kernel_rfl) (fun _ _ _ h => h) rfl (Held.y_field (k := 1) (s := 0) rfl rfl Try.underlying23 rfl (by kernel_rfl) rfl) c0_0 ?_
  simp only [Act.put, List.setIfInBounds_toArray, List.set_cons_zero, List.set_cons_succ]
  refine Held.take (v := .int .i64 kb) 9 (some 15) rfl rfl (by kernel_rfl) (by kernel_rfl) (by kernel_rfl) (fun _ _ _ h => h) rfl (Held.y_load rfl rfl (by kernel_rfl) (fun W hW => (qb.below hW qb.lt).cell rfl)) c0_0 ?_
  simp only [Act.put, List.setIfInBounds_toArray, List.set_cons_zero, List.set_cons_succ]
  refine Held.take (v := .int .u64 (u64 kb)) 10 (some 16) rfl rfl (by kernel_rfl) (by kernel_rfl) (by kernel_rfl) (fun _ _ _ h => h) rfl (Held.y_convert rfl rfl (by kernel_rfl) Try.underlying35 (u64_eq kb)) c0_0 ?_
  simp only [Act.put, List.setIfInBounds_toArray, List.set_cons_zero, List.set_cons_succ]
  refine Held.take (v := .pointer (some ⟨w.heap.size, 3, none⟩)) 12 (some 18) rfl rfl (by kernel_rfl) (by kernel_rfl) (by kernel_rfl) (fun _ _ _ h => h) rfl (Held.y_field (k := 3) (s := 0) rfl rfl Try.underlying23 rfl (by kernel_rfl) rfl) c0_0 ?_
  simp only [Act.put, List.setIfInBounds_toArray, List.set_cons_zero, List.set_cons_succ]
  refine Held.take (v := .int .i64 sa) 13 (some 19) rfl rfl (by kernel_rfl) (by kernel_rfl) (by kernel_rfl) (fun _ _ _ h => h) rfl (Held.y_load rfl rfl (by kernel_rfl) (fun W hW => (qa.below hW qa.lt).cell rfl)) c0_0 ?_
  simp only [Act.put, List.setIfInBounds_toArray, List.set_cons_zero, List.set_cons_succ]
  refine Held.take (v := .pointer (some ⟨wa.heap.size, 3, none⟩)) 14 (some 20) rfl rfl (by kernel_rfl) (by kernel_rfl) (by kernel_rfl) (fun _ _ _ h => h) rfl (Held.y_field (k := 3) (s := 0) rfl rfl Try.underlying23 rfl (by kernel_rfl) rfl) c0_0 ?_
  simp only [Act.put, List.setIfInBounds_toArray, List.set_cons_zero, List.set_cons_succ]
  refine Held.take (v := .int .i64 sb) 15 (some 21) rfl rfl (by kernel_rfl) (by kernel_rfl) (by kernel_rfl) (fun _ _ _ h => h) rfl (Held.y_load rfl rfl (by kernel_rfl) (fun W hW => (qb.below hW qb.lt).cell rfl)) c0_0 ?_
  simp only [Act.put, List.setIfInBounds_toArray, List.set_cons_zero, List.set_cons_succ]
  refine Held.one 4 (by kernel_rfl) ?_
  refine Held.op_call 4 (some 10) 31 #[.int .i64 ka, .int .i64 kb] rfl rfl rfl rfl (enters_of Try.func31 (by kernel_rfl) rfl) (by simp [Act.eval])
    (below_b ka kb hka hkb _) ?_
  rintro e w1 ⟨rfl, b1⟩
  have c0_1 := c0_0.trans (b1.mono c0_0.size)
  refine ⟨_, rfl, c0_1, ?_⟩
  simp only [Act.put, List.setIfInBounds_toArray, List.set_cons_zero, List.set_cons_succ]
  refine Held.one 11 (by kernel_rfl) ?_
  refine Held.op_call 11 (some 17) 32 #[.int .u64 (u64 ka), .int .u64 (u64 kb)] rfl rfl rfl rfl (enters_of Try.func32 (by kernel_rfl) rfl) (by simp [Act.eval])
    (same_b (u64 ka) (u64 kb) (u64_wf ka) (u64_wf kb) _) ?_
  rintro e w2 ⟨rfl, b2⟩
  have c0_2 := c0_1.trans (b2.mono c0_1.size)
  refine ⟨_, rfl, c0_2, ?_⟩
  simp only [Act.put, List.setIfInBounds_toArray, List.set_cons_zero, List.set_cons_succ]
  refine Held.one 16 (by kernel_rfl) ?_
  refine Held.op_call 16 (some 22) 31 #[.int .i64 sa, .int .i64 sb] rfl rfl rfl rfl (enters_of Try.func31 (by kernel_rfl) rfl) (by simp [Act.eval])
    (below_b sa sb hsa hsb _) ?_
  rintro e w3 ⟨rfl, b3⟩
  have c0_3 := c0_2.trans (b3.mono c0_2.size)
  refine ⟨_, rfl, c0_3, ?_⟩
  simp only [Act.put, List.setIfInBounds_toArray, List.set_cons_zero, List.set_cons_succ]
  refine Held.take (v := .int .u64 (bits .and .u64 ((oneI (decide (u64 ka = u64 kb)))) ((oneI (decide (sa < sb)))))) 17 (some 23) rfl rfl (by kernel_rfl) (by kernel_rfl) (by kernel_rfl) (fun _ _ _ h => h) rfl (Held.y_int rfl rfl rfl (Held.run_bitop (by simp) 35 .u64 (rfl))) c0_3 ?_
  simp only [Act.put, List.setIfInBounds_toArray, List.set_cons_zero, List.set_cons_succ]
  refine Held.take (v := .int .u64 (bits .or .u64 ((oneI (decide (ka < kb)))) ((bits .and .u64 ((oneI (decide (u64 ka = u64 kb)))) ((oneI (decide (sa < sb)))))))) 18 (some 24) rfl rfl (by kernel_rfl) (by kernel_rfl) (by kernel_rfl) (fun _ _ _ h => h) rfl (Held.y_int rfl rfl rfl (Held.run_bitop (by simp) 35 .u64 (rfl))) c0_3 ?_
  simp only [Act.put, List.setIfInBounds_toArray, List.set_cons_zero, List.set_cons_succ]
  refine Held.take (v := .int .u64 (bits .or .u64 ((oneI (decide (ka < kb)))) ((bits .and .u64 ((oneI (decide (u64 ka = u64 kb)))) ((oneI (decide (sa < sb)))))))) 19 (some 5) rfl rfl (by kernel_rfl) (by kernel_rfl) (by kernel_rfl) (fun _ _ _ h => h) rfl (Held.y_assign rfl rfl) c0_3 ?_
  simp only [Act.put, List.setIfInBounds_toArray, List.set_cons_zero, List.set_cons_succ]
  refine wpAnyH_done (by kernel_rfl) ?_ _
  have dz := bz.trans (c0_3.mono bz.size)
  have qa := qa.below c0_3 qa.lt
  have qb := qb.below c0_3 qb.lt
  rw [and_one_, or_one]
  go_wp2_with (first
      | (refine wpList_load_blk (w := w3) rfl 23 _ rfl w.heap.size 4 rfl 23 _ qa _ Try.underlying23 rfl (by kernel_rfl) rfl ?_)
      | (refine wpList_load_blk (w := w3) rfl 23 _ rfl wa.heap.size 4 rfl 23 _ qb _ Try.underlying23 rfl (by kernel_rfl) rfl ?_))
  refine (leads_any da ka va sa db kb vb sb _ _).mono ?_
  rintro e wy ⟨rfl, by_⟩
  have dy := dz.trans (by_.mono dz.size)
  go_wp2_with fail
  go_ret
  exact ⟨Mem.ret_int (by rw [decide_eq_decide.2 (u64_inj hka hkb)]; rfl), dy⟩

set_option maxRecDepth 100000 in
set_option maxHeartbeats 4000000 in
theorem ahead_any (da : Bool) (ka va sa : Int) (db : Bool) (kb vb sb : Int) (hka : (Lit.int .i64 ka).wf = true) (hsa : (Lit.int .i64 sa).wf = true) (hkb : (Lit.int .i64 kb).wf = true) (hsb : (Lit.int .i64 sb).wf = true) (w : World) :
    Calls Try.prog 17 #[.agg #[.bool da, .int .i64 ka, .int .i64 va, .int .i64 sa], .agg #[.bool db, .int .i64 kb, .int .i64 vb, .int .i64 sb]] w fun e w' => e = .returned (.int .u64 (oneI (ahd da ka db kb))) ∧ Below w.heap.size w w' := by
  go_enter Try.func17, Try.ntmps17
  go_wp2_with (first
    | (refine wpList_box_blk (w := w) rfl 23 _ rfl #[.bool da, .int .i64 ka, .int .i64 va, .int .i64 sa] rfl ?_; intro wa qa ga za)
    | (refine wpList_box_blk (w := wa) rfl 23 _ rfl #[.bool db, .int .i64 kb, .int .i64 vb, .int .i64 sb] rfl ?_; intro wb qb gb zb))
  have bz : Below w.heap.size w wb := ((Below.refl _ w).grown ga (Nat.le_refl _) (by simp)).grown gb ga.size (by simp)
  have qa := qa.grown gb (by simp)
  clear ga za gb zb
  refine wp_region_held (S := fun W => Below wb.heap.size wb W) (by kernel_rfl) ?_
  change wpAnyH _ _ _ _ _ _ _ _ wb.drew
  have c0_0 := (Below.refl wb.heap.size wb).drew
  refine Held.take (v := .agg #[.bool da, .int .i64 ka, .int .i64 va, .int .i64 sa]) 0 (some 5) rfl rfl (by kernel_rfl) (by kernel_rfl) (by kernel_rfl) (fun _ _ _ h => h) rfl (Held.y_load_blk (n := 4) rfl rfl Try.underlying23 rfl (by kernel_rfl) rfl (fun W hW => qa.below hW qa.lt)) c0_0 ?_
  simp only [Act.put, List.setIfInBounds_toArray, List.set_cons_zero, List.set_cons_succ]
  refine Held.take (v := .agg #[.bool db, .int .i64 kb, .int .i64 vb, .int .i64 sb]) 1 (some 6) rfl rfl (by kernel_rfl) (by kernel_rfl) (by kernel_rfl) (fun _ _ _ h => h) rfl (Held.y_load_blk (n := 4) rfl rfl Try.underlying23 rfl (by kernel_rfl) rfl (fun W hW => qb.below hW qb.lt)) c0_0 ?_
  simp only [Act.put, List.setIfInBounds_toArray, List.set_cons_zero, List.set_cons_succ]
  refine Held.take (v := .pointer (some ⟨w.heap.size, 1, none⟩)) 2 (some 7) rfl rfl (by kernel_rfl) (by kernel_rfl) (by kernel_rfl) (fun _ _ _ h => h) rfl (Held.y_field (k := 1) (s := 0) rfl rfl Try.underlying23 rfl (by kernel_rfl) rfl) c0_0 ?_
  simp only [Act.put, List.setIfInBounds_toArray, List.set_cons_zero, List.set_cons_succ]
  refine Held.take (v := .int .i64 ka) 3 (some 8) rfl rfl (by kernel_rfl) (by kernel_rfl) (by kernel_rfl) (fun _ _ _ h => h) rfl (Held.y_load rfl rfl (by kernel_rfl) (fun W hW => (qa.below hW qa.lt).cell rfl)) c0_0 ?_
  simp only [Act.put, List.setIfInBounds_toArray, List.set_cons_zero, List.set_cons_succ]
  refine Held.take (v := .pointer (some ⟨wa.heap.size, 1, none⟩)) 4 (some 9) rfl rfl (by kernel_rfl) (by kernel_rfl) (by kernel_rfl) (fun _ _ _ h => h) rfl (Held.y_field (k := 1) (s := 0) rfl rfl Try.underlying23 rfl (by kernel_rfl) rfl) c0_0 ?_
  simp only [Act.put, List.setIfInBounds_toArray, List.set_cons_zero, List.set_cons_succ]
  refine Held.take (v := .int .i64 kb) 5 (some 10) rfl rfl (by kernel_rfl) (by kernel_rfl) (by kernel_rfl) (fun _ _ _ h => h) rfl (Held.y_load rfl rfl (by kernel_rfl) (fun W hW => (qb.below hW qb.lt).cell rfl)) c0_0 ?_
  simp only [Act.put, List.setIfInBounds_toArray, List.set_cons_zero, List.set_cons_succ]
  refine Held.one 6 (by kernel_rfl) ?_
  refine Held.op_call 6 (some 11) 31 #[.int .i64 ka, .int .i64 kb] rfl rfl rfl rfl (enters_of Try.func31 (by kernel_rfl) rfl) (by simp [Act.eval])
    (below_b ka kb hka hkb _) ?_
  rintro e w1 ⟨rfl, b1⟩
  have c0_1 := c0_0.trans (b1.mono c0_0.size)
  refine ⟨_, rfl, c0_1, ?_⟩
  simp only [Act.put, List.setIfInBounds_toArray, List.set_cons_zero, List.set_cons_succ]
  refine Held.one 7 (by kernel_rfl) ?_
  refine Held.op_call 7 (some 12) 33 #[.agg #[.bool da, .int .i64 ka, .int .i64 va, .int .i64 sa], .agg #[.bool db, .int .i64 kb, .int .i64 vb, .int .i64 sb], .int .u64 (oneI (decide (ka < kb)))] rfl rfl rfl rfl (enters_of Try.func33 (by kernel_rfl) rfl) (by simp [Act.eval])
    (leads_any da ka va sa db kb vb sb (decide (ka < kb)) _) ?_
  rintro e w2 ⟨rfl, b2⟩
  have c0_2 := c0_1.trans (b2.mono c0_1.size)
  refine ⟨_, rfl, c0_2, ?_⟩
  simp only [Act.put, List.setIfInBounds_toArray, List.set_cons_zero, List.set_cons_succ]
  refine Held.take (v := .int .u64 (oneI (!da && (db || decide (ka < kb))))) 8 (some 4) rfl rfl (by kernel_rfl) (by kernel_rfl) (by kernel_rfl) (fun _ _ _ h => h) rfl (Held.y_assign rfl rfl) c0_2 ?_
  simp only [Act.put, List.setIfInBounds_toArray, List.set_cons_zero, List.set_cons_succ]
  refine wpAnyH_done (by kernel_rfl) ?_ _
  have dz := bz.trans (c0_2.mono bz.size)
  go_wp2_with fail
  go_ret
  exact ⟨rfl, dz⟩

end Go.Proofs.Ytdfnacnklmmjhaa.Rc

