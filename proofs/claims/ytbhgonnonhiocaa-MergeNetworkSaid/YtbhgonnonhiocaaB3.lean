/-
  What a record is to the program, as plain functions; package record's one, leads, Before, Ahead, Dead, and the document's own, by their contracts.
  What the frame of a proof says of a record that came in by value; two records, two arrays of numbers held against each other.
-/
import Derived.Test.YtbhgonnonhiocaaB2
import Derived.Test.YtbhgonnonhiocaaB1
import Derived.WideShapes
import Derived.ChangeArms
import Derived.Laws.StructEq
set_option linter.unusedVariables false
namespace Go.Proofs.Ytbhgonnonhiocaa.Rc
open Go.RowKit Go.Shelf Go.Proofs.Ytbhgonnonhiocaa Mem Help Go.Proofs.Ytbhgonnonhiocaa.Sum Po Ct Go.Proofs.Ytbhgonnonhiocaa.Bit Held
attribute [local irreducible] wpList wpListIn Calls
def u64 (x : Int) : Int := x % 18446744073709551616
theorem u64_eq (x : Int) : IntKind.u64.wrap x = u64 x := by rw [IntKind.wrap_u64]; rfl
theorem u64_wf (x : Int) : (Lit.int .u64 (u64 x)).wf = true := wf_64 (by unfold u64; omega)
theorem u64_inj {x y : Int} (hx : (Lit.int .i64 x).wf = true) (hy : (Lit.int .i64 y).wf = true) : (u64 x = u64 y) ↔ x = y := by
  have := wf_i64 hx
  have := wf_i64 hy
  unfold u64
  omega
theorem i64_u64 {x : Int} (hx : (Lit.int .i64 x).wf = true) : IntKind.i64.wrap (u64 x) = x := by
  have := wf_i64 hx
  rw [IntKind.wrap_i64]
  unfold u64
  omega
def ahd (da : Bool) (ka : Int) (db : Bool) (kb : Int) : Bool := !da && (db || decide (ka < kb))
def bef (da : Bool) (ka sa : Int) (db : Bool) (kb sb : Int) : Bool := !da && (db || (decide (ka < kb) || (decide (ka = kb) && decide (sa < sb))))
theorem one_wf (b : Bool) : (Lit.int .u64 (oneI b)).wf = true := by cases b <;> rfl
theorem lead_eq (da db l : Bool) : bits .and .u64 (bits .xor .u64 1 (oneI da)) (bits .or .u64 (oneI db) (oneI l)) = oneI (!da && (db || l)) := by cases da <;> cases db <;> cases l <;> decide
theorem or_one (a b : Bool) : bits .or .u64 (oneI a) (oneI b) = oneI (a || b) := by cases a <;> cases b <;> decide
theorem and_one_ (a b : Bool) : bits .and .u64 (oneI a) (oneI b) = oneI (a && b) := by cases a <;> cases b <;> decide
theorem low_eq (x y : Int) : low x y = oneI (decide (x < y)) := (oneI_low x y).symm
theorem alike_eq (x y : Int) : alike x y = oneI (decide (x = y)) := by
  rw [← oneI_alike]
  congr 1
theorem below_b (x y : Int) (hx : (Lit.int .i64 x).wf = true) (hy : (Lit.int .i64 y).wf = true) (w : World) :
    Calls Try.prog 43 #[.int .i64 x, .int .i64 y] w fun e w' => e = .returned (.int .u64 (oneI (decide (x < y)))) ∧ Below w.heap.size w w' := by
  have h1 := wf_i64 hx
  have h2 := wf_i64 hy
  rw [← low_eq]
  exact (below_any x y h1.1 h1.2 h2.1 h2.2 w).mono fun _ _ ⟨h, e⟩ => ⟨h, e ▸ Below.refl _ _⟩
theorem same_b (x y : Int) (hx : (Lit.int .u64 x).wf = true) (hy : (Lit.int .u64 y).wf = true) (w : World) :
    Calls Try.prog 44 #[.int .u64 x, .int .u64 y] w fun e w' => e = .returned (.int .u64 (oneI (decide (x = y)))) ∧ Below w.heap.size w w' := by
  have h1 := wf_u64 hx
  have h2 := wf_u64 hy
  rw [← alike_eq]
  exact (Ct.same_any x y h1.1 (by omega) h2.1 (by omega) w).mono fun _ _ ⟨h, e⟩ => ⟨h, e ▸ Below.refl _ _⟩
theorem one_b (b : Bool) (w : World) : Calls Try.prog 46 #[.bool b] w fun e w' => e = .returned (.int .u64 (oneI b)) ∧ Below w.heap.size w w' := by
  cases b
  all_goals
    go_enter Try.func46, Try.ntmps46
    go_wp2
    go_ret
    exact ⟨rfl, Below.refl _ _⟩
set_option maxRecDepth 100000 in
set_option maxHeartbeats 4000000 in
theorem leads_any (da : Bool) (ka va sa : Int) (db : Bool) (kb vb sb : Int) (l : Bool) (w : World) :
    Calls Try.prog 45 #[.agg #[.bool da, .int .i64 ka, .int .i64 va, .int .i64 sa], .agg #[.bool db, .int .i64 kb, .int .i64 vb, .int .i64 sb], .int .u64 (oneI l)] w fun e w' => e = .returned (.int .u64 (oneI (!da && (db || l)))) ∧ Below w.heap.size w w' := by
  go_enter Try.func45, Try.ntmps45
  go_wp2_with (first
    | (refine wpList_box_blk (w := w) rfl 26 _ rfl #[.bool da, .int .i64 ka, .int .i64 va, .int .i64 sa] rfl ?_; intro wa qa ga za)
    | (refine wpList_box_blk (w := wa) rfl 26 _ rfl #[.bool db, .int .i64 kb, .int .i64 vb, .int .i64 sb] rfl ?_; intro wb qb gb zb))
  have bz : Below w.heap.size w wb := ((Below.refl _ w).grown ga (Nat.le_refl _) (by simp)).grown gb ga.size (by simp)
  have qa := qa.grown gb (by simp)
  clear ga za gb zb
  refine wp_region_held (S := fun W => Below wb.heap.size wb W) (by kernel_rfl) ?_
  change wpAnyH _ _ _ _ _ _ _ _ wb.drew
  have c0_0 := (Below.refl wb.heap.size wb).drew
  refine Held.tk (v := .pointer (some ⟨w.heap.size, 0, none⟩)) 0 (some 7) rfl (Held.y_field (k := 0) (s := 0) rfl rfl Try.underlying26 rfl (by kernel_rfl) rfl) c0_0 ?_
  simp only [Act.put, Z1, Z2, Z3]
  refine Held.tk (v := .bool da) 1 (some 8) rfl (Held.y_load rfl rfl (by kernel_rfl) (fun W hW => (qa.below hW qa.lt).cell rfl)) c0_0 ?_
  simp only [Act.put, Z1, Z2, Z3]
  refine Held.tk (v := .pointer (some ⟨wa.heap.size, 0, none⟩)) 4 (some 11) rfl (Held.y_field (k := 0) (s := 0) rfl rfl Try.underlying26 rfl (by kernel_rfl) rfl) c0_0 ?_
  simp only [Act.put, Z1, Z2, Z3]
  refine Held.tk (v := .bool db) 5 (some 12) rfl (Held.y_load rfl rfl (by kernel_rfl) (fun W hW => (qb.below hW qb.lt).cell rfl)) c0_0 ?_
  simp only [Act.put, Z1, Z2, Z3]
  refine Held.tk (v := .int .u64 (oneI l)) 7 (some 14) rfl (Held.y_move rfl rfl) c0_0 ?_
  simp only [Act.put, Z1, Z2, Z3]
  refine Held.one 2 (by kernel_rfl) ?_
  refine Held.op_call 2 (some 9) 46 #[.bool da] rfl rfl rfl rfl (enters_of Try.func46 (by kernel_rfl) rfl) (by simp [Act.eval])
    (one_b da _) ?_
  rintro e w1 ⟨rfl, b1⟩
  have c0_1 := c0_0.trans (b1.mono c0_0.size)
  refine ⟨_, rfl, c0_1, ?_⟩
  simp only [Act.put, Z1, Z2, Z3]
  refine Held.tk (v := .int .u64 (bits .xor .u64 1 ((oneI da)))) 3 (some 10) rfl (Held.y_int rfl rfl rfl (Held.run_bitop (by simp) 43 .u64 (rfl))) c0_1 ?_
  simp only [Act.put, Z1, Z2, Z3]
  refine Held.one 6 (by kernel_rfl) ?_
  refine Held.op_call 6 (some 13) 46 #[.bool db] rfl rfl rfl rfl (enters_of Try.func46 (by kernel_rfl) rfl) (by simp [Act.eval])
    (one_b db _) ?_
  rintro e w2 ⟨rfl, b2⟩
  have c0_2 := c0_1.trans (b2.mono c0_1.size)
  refine ⟨_, rfl, c0_2, ?_⟩
  simp only [Act.put, Z1, Z2, Z3]
  refine Held.tk (v := .int .u64 (bits .or .u64 ((oneI db)) ((oneI l)))) 8 (some 15) rfl (Held.y_int rfl rfl rfl (Held.run_bitop (by simp) 43 .u64 (rfl))) c0_2 ?_
  simp only [Act.put, Z1, Z2, Z3]
  refine Held.take (v := .int .u64 (bits .and .u64 ((bits .xor .u64 1 ((oneI da)))) ((bits .or .u64 ((oneI db)) ((oneI l)))))) 9 (some 16) rfl rfl (by kernel_rfl) (by kernel_rfl) (by kernel_rfl) (fun _ _ _ h => h) rfl (Held.y_int rfl rfl rfl (Held.run_bitop (by simp) 43 .u64 (rfl))) c0_2 ?_
  simp only [Act.put, Z1, Z2, Z3]
  refine Held.take (v := .int .u64 (bits .and .u64 ((bits .xor .u64 1 ((oneI da)))) ((bits .or .u64 ((oneI db)) ((oneI l)))))) 10 (some 6) rfl rfl (by kernel_rfl) (by kernel_rfl) (by kernel_rfl) (fun _ _ _ h => h) rfl (Held.y_assign rfl rfl) c0_2 ?_
  simp only [Act.put, Z1, Z2, Z3]
  refine wpAnyH_done (by kernel_rfl) ?_ _
  have dz := bz.trans (c0_2.mono bz.size)
  go_wp2_with fail
  go_ret
  exact ⟨Mem.ret_int (lead_eq da db l), dz⟩
set_option maxRecDepth 100000 in
set_option maxHeartbeats 4000000 in
theorem before_any (da : Bool) (ka va sa : Int) (db : Bool) (kb vb sb : Int) (hka : (Lit.int .i64 ka).wf = true) (hsa : (Lit.int .i64 sa).wf = true) (hkb : (Lit.int .i64 kb).wf = true) (hsb : (Lit.int .i64 sb).wf = true) (w : World) :
    Calls Try.prog 37 #[.agg #[.bool da, .int .i64 ka, .int .i64 va, .int .i64 sa], .agg #[.bool db, .int .i64 kb, .int .i64 vb, .int .i64 sb]] w fun e w' => e = .returned (.int .u64 (oneI (bef da ka sa db kb sb))) ∧ Below w.heap.size w w' := by
  go_enter Try.func37, Try.ntmps37
  go_wp2_with (first
    | (refine wpList_box_blk (w := w) rfl 26 _ rfl #[.bool da, .int .i64 ka, .int .i64 va, .int .i64 sa] rfl ?_; intro wa qa ga za)
    | (refine wpList_box_blk (w := wa) rfl 26 _ rfl #[.bool db, .int .i64 kb, .int .i64 vb, .int .i64 sb] rfl ?_; intro wb qb gb zb))
  have bz : Below w.heap.size w wb := ((Below.refl _ w).grown ga (Nat.le_refl _) (by simp)).grown gb ga.size (by simp)
  have qa := qa.grown gb (by simp)
  clear ga za gb zb
  refine wp_region_held (S := fun W => Below wb.heap.size wb W) (by kernel_rfl) ?_
  change wpAnyH _ _ _ _ _ _ _ _ wb.drew
  have c0_0 := (Below.refl wb.heap.size wb).drew
  refine Held.tk (v := .pointer (some ⟨w.heap.size, 1, none⟩)) 0 (some 6) rfl (Held.y_field (k := 1) (s := 0) rfl rfl Try.underlying26 rfl (by kernel_rfl) rfl) c0_0 ?_
  simp only [Act.put, Z1, Z2, Z3]
  refine Held.tk (v := .int .i64 ka) 1 (some 7) rfl (Held.y_load rfl rfl (by kernel_rfl) (fun W hW => (qa.below hW qa.lt).cell rfl)) c0_0 ?_
  simp only [Act.put, Z1, Z2, Z3]
  refine Held.tk (v := .pointer (some ⟨wa.heap.size, 1, none⟩)) 2 (some 8) rfl (Held.y_field (k := 1) (s := 0) rfl rfl Try.underlying26 rfl (by kernel_rfl) rfl) c0_0 ?_
  simp only [Act.put, Z1, Z2, Z3]
  refine Held.tk (v := .int .i64 kb) 3 (some 9) rfl (Held.y_load rfl rfl (by kernel_rfl) (fun W hW => (qb.below hW qb.lt).cell rfl)) c0_0 ?_
  simp only [Act.put, Z1, Z2, Z3]
  refine Held.tk (v := .pointer (some ⟨w.heap.size, 1, none⟩)) 5 (some 11) rfl (Held.y_field (k := 1) (s := 0) rfl rfl Try.underlying26 rfl (by kernel_rfl) rfl) c0_0 ?_
  simp only [Act.put, Z1, Z2, Z3]
  refine Held.tk (v := .int .i64 ka) 6 (some 12) rfl (Held.y_load rfl rfl (by kernel_rfl) (fun W hW => (qa.below hW qa.lt).cell rfl)) c0_0 ?_
  simp only [Act.put, Z1, Z2, Z3]
  refine Held.tk (v := .int .u64 (u64 ka)) 7 (some 13) rfl (Held.y_convert rfl rfl (by kernel_rfl) Try.underlying43 (u64_eq ka)) c0_0 ?_
  simp only [Act.put, Z1, Z2, Z3]
  refine Held.tk (v := .pointer (some ⟨wa.heap.size, 1, none⟩)) 8 (some 14) rfl (Held.y_field (k := 1) (s := 0) rfl rfl Try.underlying26 rfl (by kernel_rfl) rfl) c0_0 ?_
  simp only [Act.put, Z1, Z2, Z3]
  refine Held.tk (v := .int .i64 kb) 9 (some 15) rfl (Held.y_load rfl rfl (by kernel_rfl) (fun W hW => (qb.below hW qb.lt).cell rfl)) c0_0 ?_
  simp only [Act.put, Z1, Z2, Z3]
  refine Held.tk (v := .int .u64 (u64 kb)) 10 (some 16) rfl (Held.y_convert rfl rfl (by kernel_rfl) Try.underlying43 (u64_eq kb)) c0_0 ?_
  simp only [Act.put, Z1, Z2, Z3]
  refine Held.tk (v := .pointer (some ⟨w.heap.size, 3, none⟩)) 12 (some 18) rfl (Held.y_field (k := 3) (s := 0) rfl rfl Try.underlying26 rfl (by kernel_rfl) rfl) c0_0 ?_
  simp only [Act.put, Z1, Z2, Z3]
  refine Held.tk (v := .int .i64 sa) 13 (some 19) rfl (Held.y_load rfl rfl (by kernel_rfl) (fun W hW => (qa.below hW qa.lt).cell rfl)) c0_0 ?_
  simp only [Act.put, Z1, Z2, Z3]
  refine Held.tk (v := .pointer (some ⟨wa.heap.size, 3, none⟩)) 14 (some 20) rfl (Held.y_field (k := 3) (s := 0) rfl rfl Try.underlying26 rfl (by kernel_rfl) rfl) c0_0 ?_
  simp only [Act.put, Z1, Z2, Z3]
  refine Held.tk (v := .int .i64 sb) 15 (some 21) rfl (Held.y_load rfl rfl (by kernel_rfl) (fun W hW => (qb.below hW qb.lt).cell rfl)) c0_0 ?_
  simp only [Act.put, Z1, Z2, Z3]
  refine Held.one 4 (by kernel_rfl) ?_
  refine Held.op_call 4 (some 10) 43 #[.int .i64 ka, .int .i64 kb] rfl rfl rfl rfl (enters_of Try.func43 (by kernel_rfl) rfl) (by simp [Act.eval])
    (below_b ka kb hka hkb _) ?_
  rintro e w1 ⟨rfl, b1⟩
  have c0_1 := c0_0.trans (b1.mono c0_0.size)
  refine ⟨_, rfl, c0_1, ?_⟩
  simp only [Act.put, Z1, Z2, Z3]
  refine Held.one 11 (by kernel_rfl) ?_
  refine Held.op_call 11 (some 17) 44 #[.int .u64 (u64 ka), .int .u64 (u64 kb)] rfl rfl rfl rfl (enters_of Try.func44 (by kernel_rfl) rfl) (by simp [Act.eval])
    (same_b (u64 ka) (u64 kb) (u64_wf ka) (u64_wf kb) _) ?_
  rintro e w2 ⟨rfl, b2⟩
  have c0_2 := c0_1.trans (b2.mono c0_1.size)
  refine ⟨_, rfl, c0_2, ?_⟩
  simp only [Act.put, Z1, Z2, Z3]
  refine Held.one 16 (by kernel_rfl) ?_
  refine Held.op_call 16 (some 22) 43 #[.int .i64 sa, .int .i64 sb] rfl rfl rfl rfl (enters_of Try.func43 (by kernel_rfl) rfl) (by simp [Act.eval])
    (below_b sa sb hsa hsb _) ?_
  rintro e w3 ⟨rfl, b3⟩
  have c0_3 := c0_2.trans (b3.mono c0_2.size)
  refine ⟨_, rfl, c0_3, ?_⟩
  simp only [Act.put, Z1, Z2, Z3]
  refine Held.take (v := .int .u64 (bits .and .u64 ((oneI (decide (u64 ka = u64 kb)))) ((oneI (decide (sa < sb)))))) 17 (some 23) rfl rfl (by kernel_rfl) (by kernel_rfl) (by kernel_rfl) (fun _ _ _ h => h) rfl (Held.y_int rfl rfl rfl (Held.run_bitop (by simp) 43 .u64 (rfl))) c0_3 ?_
  simp only [Act.put, Z1, Z2, Z3]
  refine Held.take (v := .int .u64 (bits .or .u64 ((oneI (decide (ka < kb)))) ((bits .and .u64 ((oneI (decide (u64 ka = u64 kb)))) ((oneI (decide (sa < sb)))))))) 18 (some 24) rfl rfl (by kernel_rfl) (by kernel_rfl) (by kernel_rfl) (fun _ _ _ h => h) rfl (Held.y_int rfl rfl rfl (Held.run_bitop (by simp) 43 .u64 (rfl))) c0_3 ?_
  simp only [Act.put, Z1, Z2, Z3]
  refine Held.take (v := .int .u64 (bits .or .u64 ((oneI (decide (ka < kb)))) ((bits .and .u64 ((oneI (decide (u64 ka = u64 kb)))) ((oneI (decide (sa < sb)))))))) 19 (some 5) rfl rfl (by kernel_rfl) (by kernel_rfl) (by kernel_rfl) (fun _ _ _ h => h) rfl (Held.y_assign rfl rfl) c0_3 ?_
  simp only [Act.put, Z1, Z2, Z3]
  refine wpAnyH_done (by kernel_rfl) ?_ _
  have dz := bz.trans (c0_3.mono bz.size)
  have qa := qa.below c0_3 qa.lt
  have qb := qb.below c0_3 qb.lt
  rw [and_one_, or_one]
  go_wp2_with (first
      | (refine wpList_load_blk (w := w3) rfl 26 _ rfl w.heap.size 4 rfl 26 _ qa _ Try.underlying26 rfl (by kernel_rfl) rfl ?_)
      | (refine wpList_load_blk (w := w3) rfl 26 _ rfl wa.heap.size 4 rfl 26 _ qb _ Try.underlying26 rfl (by kernel_rfl) rfl ?_))
  refine (leads_any da ka va sa db kb vb sb _ _).mono ?_
  rintro e wy ⟨rfl, by_⟩
  have dy := dz.trans (by_.mono dz.size)
  go_wp2_with fail
  go_ret
  exact ⟨Mem.ret_int (by rw [decide_eq_decide.2 (u64_inj hka hkb)]; rfl), dy⟩
set_option maxRecDepth 100000 in
set_option maxHeartbeats 4000000 in
theorem ahead_any (da : Bool) (ka va sa : Int) (db : Bool) (kb vb sb : Int) (hka : (Lit.int .i64 ka).wf = true) (hsa : (Lit.int .i64 sa).wf = true) (hkb : (Lit.int .i64 kb).wf = true) (hsb : (Lit.int .i64 sb).wf = true) (w : World) :
    Calls Try.prog 38 #[.agg #[.bool da, .int .i64 ka, .int .i64 va, .int .i64 sa], .agg #[.bool db, .int .i64 kb, .int .i64 vb, .int .i64 sb]] w fun e w' => e = .returned (.int .u64 (oneI (ahd da ka db kb))) ∧ Below w.heap.size w w' := by
  go_enter Try.func38, Try.ntmps38
  go_wp2_with (first
    | (refine wpList_box_blk (w := w) rfl 26 _ rfl #[.bool da, .int .i64 ka, .int .i64 va, .int .i64 sa] rfl ?_; intro wa qa ga za)
    | (refine wpList_box_blk (w := wa) rfl 26 _ rfl #[.bool db, .int .i64 kb, .int .i64 vb, .int .i64 sb] rfl ?_; intro wb qb gb zb))
  have bz : Below w.heap.size w wb := ((Below.refl _ w).grown ga (Nat.le_refl _) (by simp)).grown gb ga.size (by simp)
  have qa := qa.grown gb (by simp)
  clear ga za gb zb
  refine wp_region_held (S := fun W => Below wb.heap.size wb W) (by kernel_rfl) ?_
  change wpAnyH _ _ _ _ _ _ _ _ wb.drew
  have c0_0 := (Below.refl wb.heap.size wb).drew
  refine Held.tk (v := .agg #[.bool da, .int .i64 ka, .int .i64 va, .int .i64 sa]) 0 (some 5) rfl (Held.y_load_blk (n := 4) rfl rfl Try.underlying26 rfl (by kernel_rfl) rfl (fun W hW => qa.below hW qa.lt)) c0_0 ?_
  simp only [Act.put, Z1, Z2, Z3]
  refine Held.tk (v := .agg #[.bool db, .int .i64 kb, .int .i64 vb, .int .i64 sb]) 1 (some 6) rfl (Held.y_load_blk (n := 4) rfl rfl Try.underlying26 rfl (by kernel_rfl) rfl (fun W hW => qb.below hW qb.lt)) c0_0 ?_
  simp only [Act.put, Z1, Z2, Z3]
  refine Held.tk (v := .pointer (some ⟨w.heap.size, 1, none⟩)) 2 (some 7) rfl (Held.y_field (k := 1) (s := 0) rfl rfl Try.underlying26 rfl (by kernel_rfl) rfl) c0_0 ?_
  simp only [Act.put, Z1, Z2, Z3]
  refine Held.tk (v := .int .i64 ka) 3 (some 8) rfl (Held.y_load rfl rfl (by kernel_rfl) (fun W hW => (qa.below hW qa.lt).cell rfl)) c0_0 ?_
  simp only [Act.put, Z1, Z2, Z3]
  refine Held.tk (v := .pointer (some ⟨wa.heap.size, 1, none⟩)) 4 (some 9) rfl (Held.y_field (k := 1) (s := 0) rfl rfl Try.underlying26 rfl (by kernel_rfl) rfl) c0_0 ?_
  simp only [Act.put, Z1, Z2, Z3]
  refine Held.tk (v := .int .i64 kb) 5 (some 10) rfl (Held.y_load rfl rfl (by kernel_rfl) (fun W hW => (qb.below hW qb.lt).cell rfl)) c0_0 ?_
  simp only [Act.put, Z1, Z2, Z3]
  refine Held.one 6 (by kernel_rfl) ?_
  refine Held.op_call 6 (some 11) 43 #[.int .i64 ka, .int .i64 kb] rfl rfl rfl rfl (enters_of Try.func43 (by kernel_rfl) rfl) (by simp [Act.eval])
    (below_b ka kb hka hkb _) ?_
  rintro e w1 ⟨rfl, b1⟩
  have c0_1 := c0_0.trans (b1.mono c0_0.size)
  refine ⟨_, rfl, c0_1, ?_⟩
  simp only [Act.put, Z1, Z2, Z3]
  refine Held.one 7 (by kernel_rfl) ?_
  refine Held.op_call 7 (some 12) 45 #[.agg #[.bool da, .int .i64 ka, .int .i64 va, .int .i64 sa], .agg #[.bool db, .int .i64 kb, .int .i64 vb, .int .i64 sb], .int .u64 (oneI (decide (ka < kb)))] rfl rfl rfl rfl (enters_of Try.func45 (by kernel_rfl) rfl) (by simp [Act.eval])
    (leads_any da ka va sa db kb vb sb (decide (ka < kb)) _) ?_
  rintro e w2 ⟨rfl, b2⟩
  have c0_2 := c0_1.trans (b2.mono c0_1.size)
  refine ⟨_, rfl, c0_2, ?_⟩
  simp only [Act.put, Z1, Z2, Z3]
  refine Held.tk (v := .int .u64 (oneI (!da && (db || decide (ka < kb))))) 8 (some 4) rfl (Held.y_assign rfl rfl) c0_2 ?_
  simp only [Act.put, Z1, Z2, Z3]
  refine wpAnyH_done (by kernel_rfl) ?_ _
  have dz := bz.trans (c0_2.mono bz.size)
  go_wp2_with fail
  go_ret
  exact ⟨rfl, dz⟩
end Go.Proofs.Ytbhgonnonhiocaa.Rc
namespace Go.Proofs.Ytbhgonnonhiocaa.Rc
open Go.RowKit Go.ChangeShapes Go.WideShapes Mem
theorem rec_fields : ∃ f0 f1 f2 f3 : Field, Try.prog.underlying 26 = some (.struct #[f0, f1, f2, f3]) ∧ (f0.offset = 0 ∧ f0.type = 4) ∧ (f1.offset = 1 ∧ f1.type = 2) ∧ (f2.offset = 2 ∧ f2.type = 2) ∧ (f3.offset = 3 ∧ f3.type = 2) :=
  ⟨_, _, _, _, Try.underlying26, ⟨rfl, rfl⟩, ⟨rfl, rfl⟩, ⟨rfl, rfl⟩, ⟨rfl, rfl⟩⟩
section
variable {H : Type} {enc : TypeId × Value → H} {w : World} {base : Nat} {spare : Nat → Bool} {held : Bool}
theorem field_int {cs : List Value} {j n : Nat} {t : TypeId} {k : IntKind} {x : Option (DataW H × List MemPlace)} (hj : j < cs.length) (ht : Try.prog.underlying t = some (.int k)) (h : DataW.trod enc Try.prog w base spare held n t ((cs.drop j).take 1) = x) (hx : x.isSome = true) : ∃ z, cs[j]? = some (.int k z) ∧ (Lit.int k z).wf = true := by
  obtain ⟨y, rfl⟩ := Option.isSome_iff_exists.1 hx
  obtain ⟨z, h2, _, h3⟩ := DataW.trod_int ht h
  rw [List.drop_eq_getElem_cons hj] at h2
  simp only [List.take_succ_cons, List.take_zero] at h2
  exact ⟨z, by rw [List.getElem?_eq_getElem hj, (List.cons.inj h2).1], h3⟩
theorem field_bool {cs : List Value} {j n : Nat} {t : TypeId} {x : Option (DataW H × List MemPlace)} (hj : j < cs.length) (ht : Try.prog.underlying t = some .bool) (h : DataW.trod enc Try.prog w base spare held n t ((cs.drop j).take 1) = x) (hx : x.isSome = true) : ∃ b, cs[j]? = some (.bool b) := by
  obtain ⟨y, rfl⟩ := Option.isSome_iff_exists.1 hx
  obtain ⟨z, h2, _⟩ := DataW.trod_bool ht h
  rw [List.drop_eq_getElem_cons hj] at h2
  simp only [List.take_succ_cons, List.take_zero] at h2
  exact ⟨z, by rw [List.getElem?_eq_getElem hj, (List.cons.inj h2).1]⟩
end
theorem key_rec (w : World) (d : Bool) (k v s : Int) (d' : Bool) (k' v' s' : Int) :
    (Op.equalIn 10000 26 (.agg #[.bool d, .int .i64 k, .int .i64 v, .int .i64 s]) (.agg #[.bool d', .int .i64 k', .int .i64 v', .int .i64 s'])).run Try.prog w = .ok (decide (d = d' ∧ k = k' ∧ v = v' ∧ s = s')) w := by
  have hu : Try.prog.underlying 26 = some (.struct (Try.prog.fieldsOf 26)) := by kernel_rfl
  have hp : Try.prog.stoodInHeld 26 = false := by kernel_rfl
  have ei : ∀ (d : Nat) (k : IntKind) (x y : Int), (Op.equalIn (d + 1) 2 (.int k x) (.int k y)).run Try.prog w = .ok (x == y) w := fun d k x y => run_equalIn_int w d 2 k .i64 x y Try.underlying2
  have eb : ∀ (d : Nat) (x y : Bool), (Op.equalIn (d + 1) 4 (.bool x) (.bool y)).run Try.prog w = .ok (x == y) w := fun d x y => by
    simp [Op.equalIn, run_underlying Try.underlying4]
  rw [show (10000 : Nat) = 9998 + 1 + 1 from rfl, run_equalIn_agg w (9998 + 1) _ _ _ hu hp]
  simp only [Program.fieldsOf, Try.underlying26, Op.eqFields, Go.part, isAgg, Sem.run_bind, run_underlying Try.underlying2, run_underlying Try.underlying4, Result.andThen_ok, Sem.run_pure, Sem.run_ite]
  simp [ei, eb]
  by_cases h0 : d = d' <;> by_cases h1 : k = k' <;> by_cases h2 : v = v' <;> by_cases h3 : s = s' <;> simp [h0, h1, h2, h3]
theorem eql_rec (w : World) (d : Bool) (k v s : Int) (d' : Bool) (k' v' s' : Int) :
    (binOp .eql 26 (.agg #[.bool d, .int .i64 k, .int .i64 v, .int .i64 s]) (.agg #[.bool d', .int .i64 k', .int .i64 v', .int .i64 s'])).run Try.prog w = .ok (.bool (decide (d = d' ∧ k = k' ∧ v = v' ∧ s = s'))) w := by
  rw [run_eql_struct, key_rec]
  rfl
section
variable {S : World → Prop} {ρ : Operand → Value} {o : Oper}
theorem y_eqr {ty : TypeId} {x y : Operand} {d : Bool} {k v s : Int} {d' : Bool} {k' v' s' : Int} {r : Bool} (ho : o.op = .binOp .eql 26 x y ty) (hx : ρ x = .agg #[.bool d, .int .i64 k, .int .i64 v, .int .i64 s]) (hy : ρ y = .agg #[.bool d', .int .i64 k', .int .i64 v', .int .i64 s'])
    (hr : decide (d = d' ∧ k = k' ∧ v = v' ∧ s = s') = r) : ∀ w, S w → (execOp ρ o).run Try.prog w = .ok (.value (.bool r)) w :=
  Held.y_bin ho hx hy (fun w => by simp [eqGuard, show Try.prog.eqGuardType Try.prog.depth 26 = false by kernel_rfl]) (fun w => by rw [← hr]; exact eql_rec w d k v s d' k' v' s')
end
end Go.Proofs.Ytbhgonnonhiocaa.Rc
