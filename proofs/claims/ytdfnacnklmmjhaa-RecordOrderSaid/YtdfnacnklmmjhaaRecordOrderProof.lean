/-
  The law RecordOrder of package dominolaw09 returns true for every three records and every number: which of two stands ahead, and which is picked, is as the document says; of three in a row the first stands ahead of the last; no two stand ahead of each other.
-/
import Derived.Test.YtdfnacnklmmjhaaRows
import Derived.WalkKit
import Derived.ProofKit
import Derived.OpenShut
import Derived.ShutString
import Derived.ChangeOld
import Derived.Below
import Derived.Test.YtdfnacnklmmjhaaRr9
import Derived.Test.YtdfnacnklmmjhaaRcP
import Derived.Test.YtdfnacnklmmjhaaArrP
import Derived.Test.YtdfnacnklmmjhaaKept
namespace Go.Proofs.Ytdfnacnklmmjhaa.recordOrder
open Go.ChangeShapes Go.WideShapes Go.ChangeAt Go.RowKit
open Go.ChangeMaps (open_string shut_string)
open Go.Shelf Go.Proofs.Ytdfnacnklmmjhaa.Mem Go.Proofs.Ytdfnacnklmmjhaa.Help Go.Proofs.Ytdfnacnklmmjhaa.Sum Go.Proofs.Ytdfnacnklmmjhaa.Po Go.Proofs.Ytdfnacnklmmjhaa.Ky Go.Proofs.Ytdfnacnklmmjhaa.Ct Go.Proofs.Ytdfnacnklmmjhaa.Bit Go.Proofs.Ytdfnacnklmmjhaa.Held Go.Proofs.Ytdfnacnklmmjhaa.Rc Go.Proofs.Ytdfnacnklmmjhaa
set_option linter.unusedVariables false

theorem own : ownKnob Try.prog.godebug = none := by kernel_rfl
theorem laidOut : laidOutB Try.prog = true := by kernel_rfl

/-- what a slice that came in leads to -/
def IsRow (k : IntKind) (w : World) (a : Option Addr) (len cap : Nat) (zs : List Int) : Prop :=
  (a = none ∧ len = 0 ∧ cap = 0 ∧ zs = []) ∨
  ∃ x, a = some x ∧ len ≤ cap ∧ cap ≤ maxLen ∧ zs.length = cap ∧ (∀ i, i < zs.length → w.cell? (x.add i) = some (.int k (zs.getD i 0))) ∧ ∀ n ∈ zs, (Lit.int k n).wf = true

attribute [local irreducible] wpList Calls

theorem pick_odd (n : Int) (da : Bool) (ka va sa : Int) (db : Bool) (kb vb sb : Int) (h : n % 2 = 1) : pickV n #[.bool da, .int .i64 ka, .int .i64 va, .int .i64 sa] #[.bool db, .int .i64 kb, .int .i64 vb, .int .i64 sb] = #[.bool da, .int .i64 ka, .int .i64 va, .int .i64 sa] := by
  unfold pickV
  rw [if_pos h]
theorem pick_even (n : Int) (da : Bool) (ka va sa : Int) (db : Bool) (kb vb sb : Int) (h : ¬ n % 2 = 1) : pickV n #[.bool da, .int .i64 ka, .int .i64 va, .int .i64 sa] #[.bool db, .int .i64 kb, .int .i64 vb, .int .i64 sb] = #[.bool db, .int .i64 kb, .int .i64 vb, .int .i64 sb] := by
  unfold pickV
  rw [if_neg h]
theorem bef_two (da : Bool) (ka sa : Int) (db : Bool) (kb sb : Int) : oneI (bef da ka sa db kb sb) + oneI (bef db kb sb da ka sa) ≤ 1 ∧ 0 ≤ oneI (bef da ka sa db kb sb) + oneI (bef db kb sb da ka sa) := by
  have h : ¬ (bef da ka sa db kb sb = true ∧ bef db kb sb da ka sa = true) := fun h => by
    simp only [bef, Bool.and_eq_true, Bool.or_eq_true, Bool.not_eq_true', decide_eq_true_eq] at h
    obtain ⟨⟨h1, h2⟩, h3, h4⟩ := h
    rcases h2 with h2 | h2
    · rw [h3] at h2; cases h2
    · rcases h4 with h4 | h4
      · rw [h1] at h4; cases h4
      · omega
  cases h1 : bef da ka sa db kb sb <;> cases h2 : bef db kb sb da ka sa <;> simp [h1, h2, oneI] at h ⊢
theorem ahd_two (da : Bool) (ka : Int) (db : Bool) (kb : Int) : oneI (ahd da ka db kb) + oneI (ahd db kb da ka) ≤ 1 ∧ 0 ≤ oneI (ahd da ka db kb) + oneI (ahd db kb da ka) := by
  have h : ¬ (ahd da ka db kb = true ∧ ahd db kb da ka = true) := fun h => by
    simp only [ahd, Bool.and_eq_true, Bool.or_eq_true, Bool.not_eq_true', decide_eq_true_eq] at h
    obtain ⟨⟨h1, h2⟩, h3, h4⟩ := h
    rcases h2 with h2 | h2
    · rw [h3] at h2; cases h2
    · rcases h4 with h4 | h4
      · rw [h1] at h4; cases h4
      · omega
  cases h1 : ahd da ka db kb <;> cases h2 : ahd db kb da ka <;> simp [h1, h2, oneI] at h ⊢
theorem bef_row (da : Bool) (ka sa : Int) (db : Bool) (kb sb : Int) (dc : Bool) (kc sc : Int) (h : bef da ka sa db kb sb = true) (h' : bef db kb sb dc kc sc = true) : bef da ka sa dc kc sc = true := by
  simp only [bef, Bool.and_eq_true, Bool.or_eq_true, Bool.not_eq_true', decide_eq_true_eq] at h h' ⊢
  obtain ⟨h1, h2⟩ := h
  obtain ⟨h3, h4⟩ := h'
  refine ⟨h1, ?_⟩
  rcases h4 with h4 | h4
  · exact .inl h4
  · rcases h2 with h2 | h2
    · rw [h3] at h2; cases h2
    · exact .inr (by omega)
theorem ahd_bef (da : Bool) (ka sa : Int) (db : Bool) (kb sb : Int) (h : ahd da ka db kb = true) : bef da ka sa db kb sb = true := by
  simp only [ahd, bef, Bool.and_eq_true, Bool.or_eq_true, Bool.not_eq_true', decide_eq_true_eq] at h ⊢
  exact ⟨h.1, h.2.imp id .inl⟩

set_option maxRecDepth 100000 in
set_option maxHeartbeats 16000000 in
theorem start_odd (da : Bool) (ka va sa : Int) (db : Bool) (kb vb sb : Int) (dc : Bool) (kc vc sc : Int) (n : Int) (u : World) (hka : (Lit.int .i64 ka).wf = true) (hva : (Lit.int .i64 va).wf = true) (hsa : (Lit.int .i64 sa).wf = true) (hkb : (Lit.int .i64 kb).wf = true) (hvb : (Lit.int .i64 vb).wf = true) (hsb : (Lit.int .i64 sb).wf = true) (hkc : (Lit.int .i64 kc).wf = true) (hvc : (Lit.int .i64 vc).wf = true) (hsc : (Lit.int .i64 sc).wf = true) (hn : (Lit.int .u64 n).wf = true) (hodd : (bits .and .u64 n 1 == 1) = true)
    (hpick : ∀ W : World, Calls Try.prog 19 #[.int .u64 n, .agg #[.bool da, .int .i64 ka, .int .i64 va, .int .i64 sa], .agg #[.bool db, .int .i64 kb, .int .i64 vb, .int .i64 sb]] W fun e W' => e = .returned (.agg #[.bool da, .int .i64 ka, .int .i64 va, .int .i64 sa]) ∧ Below W.heap.size W W') :
    Calls Try.prog 5 #[.agg #[.bool da, .int .i64 ka, .int .i64 va, .int .i64 sa], .agg #[.bool db, .int .i64 kb, .int .i64 vb, .int .i64 sb], .agg #[.bool dc, .int .i64 kc, .int .i64 vc, .int .i64 sc], .int .u64 n] u fun e u' => e = .returned (.bool true) ∧ Below u.heap.size u u' := by
  obtain ⟨x12, hx12⟩ : ∃ x, IntKind.u64.wrap (oneI (bef da ka sa db kb sb) + oneI (bef db kb sb da ka sa)) = x := ⟨_, rfl⟩
  obtain ⟨y12, hy12⟩ : ∃ x, IntKind.u64.wrap (oneI (ahd da ka db kb) + oneI (ahd db kb da ka)) = x := ⟨_, rfl⟩
  have hx12b : x12 ≤ 1 := by have := bef_two da ka sa db kb sb; rw [← hx12, IntKind.wrap_u64]; omega
  have hy12b : y12 ≤ 1 := by have := ahd_two da ka db kb; rw [← hy12, IntKind.wrap_u64]; omega
  go_enter Try.func5, Try.ntmps5
  go_wp2_with (first
    | (refine wpList_box_blk (w := u) rfl 23 _ rfl #[.bool da, .int .i64 ka, .int .i64 va, .int .i64 sa] rfl ?_; intro u1 q1 g1 z1)
    | (refine wpList_box_blk (w := u1) rfl 23 _ rfl #[.bool db, .int .i64 kb, .int .i64 vb, .int .i64 sb] rfl ?_; intro u2 q2 g2 z2)
    | (refine wpList_box_blk (w := u2) rfl 23 _ rfl #[.bool dc, .int .i64 kc, .int .i64 vc, .int .i64 sc] rfl ?_; intro u3 qc g3 z3))
  have qa := (q1.grown g2 (by simp)).grown g3 (by simp)
  have qb := q2.grown g3 (by simp)
  have f3 : Below u.heap.size u u3 := (((Below.refl _ u).grown g1 (Nat.le_refl _) (by simp)).grown g2 g1.size (by simp)).grown g3 (Nat.le_trans g1.size g2.size) (by simp)
  clear g1 g2 g3 z1 z2 z3 q1 q2
  refine wp_region_held (S := fun W => Below u3.heap.size u3 W) (by kernel_rfl) ?_
  change wpAnyH _ _ _ _ _ _ _ _ u3.drew
  have c0_0 := (Below.refl u3.heap.size u3).drew
  refine Held.one 0 (by kernel_rfl) ?_
  refine Held.op_call 0 (some 10) 8 #[] rfl rfl rfl rfl (enters_of Try.func8 (by kernel_rfl) rfl) (by simp)
    (awake9_any _) ?_
  rintro e w1 ⟨rfl, b1⟩
  have c0_1 := c0_0.trans (b1.mono c0_0.size)
  refine ⟨_, rfl, c0_1, ?_⟩
  simp only [Act.put, List.setIfInBounds_toArray, List.set_cons_zero, List.set_cons_succ]
  refine Held.take (v := .bool false) 1 (some 11) rfl rfl (by kernel_rfl) (by kernel_rfl) (by kernel_rfl) (fun _ _ _ h => h) rfl (Held.y_not rfl rfl rfl) c0_1 ?_
  simp only [Act.put, List.setIfInBounds_toArray, List.set_cons_zero, List.set_cons_succ]
  refine Held.take (v := .bool false) 2 (some 12) rfl rfl (by kernel_rfl) (by kernel_rfl) (by kernel_rfl) (fun _ _ _ h => h) rfl (Held.y_move rfl rfl) c0_1 ?_
  simp only [Act.put, List.setIfInBounds_toArray, List.set_cons_zero, List.set_cons_succ]
  refine Held.take (v := .agg #[.bool da, .int .i64 ka, .int .i64 va, .int .i64 sa]) 3 (some 13) rfl rfl (by kernel_rfl) (by kernel_rfl) (by kernel_rfl) (fun _ _ _ h => h) rfl (Held.y_load_blk (n := 4) rfl rfl Try.underlying23 rfl (by kernel_rfl) rfl (fun W hW => qa.below hW qa.lt)) c0_1 ?_
  simp only [Act.put, List.setIfInBounds_toArray, List.set_cons_zero, List.set_cons_succ]
  refine Held.take (v := .agg #[.bool db, .int .i64 kb, .int .i64 vb, .int .i64 sb]) 4 (some 14) rfl rfl (by kernel_rfl) (by kernel_rfl) (by kernel_rfl) (fun _ _ _ h => h) rfl (Held.y_load_blk (n := 4) rfl rfl Try.underlying23 rfl (by kernel_rfl) rfl (fun W hW => qb.below hW qb.lt)) c0_1 ?_
  simp only [Act.put, List.setIfInBounds_toArray, List.set_cons_zero, List.set_cons_succ]
  refine Held.take (v := .agg #[.bool da, .int .i64 ka, .int .i64 va, .int .i64 sa]) 6 (some 16) rfl rfl (by kernel_rfl) (by kernel_rfl) (by kernel_rfl) (fun _ _ _ h => h) rfl (Held.y_load_blk (n := 4) rfl rfl Try.underlying23 rfl (by kernel_rfl) rfl (fun W hW => qa.below hW qa.lt)) c0_1 ?_
  simp only [Act.put, List.setIfInBounds_toArray, List.set_cons_zero, List.set_cons_succ]
  refine Held.take (v := .agg #[.bool db, .int .i64 kb, .int .i64 vb, .int .i64 sb]) 7 (some 17) rfl rfl (by kernel_rfl) (by kernel_rfl) (by kernel_rfl) (fun _ _ _ h => h) rfl (Held.y_load_blk (n := 4) rfl rfl Try.underlying23 rfl (by kernel_rfl) rfl (fun W hW => qb.below hW qb.lt)) c0_1 ?_
  simp only [Act.put, List.setIfInBounds_toArray, List.set_cons_zero, List.set_cons_succ]
  refine Held.one 5 (by kernel_rfl) ?_
  refine Held.op_call 5 (some 15) 15 #[.agg #[.bool da, .int .i64 ka, .int .i64 va, .int .i64 sa], .agg #[.bool db, .int .i64 kb, .int .i64 vb, .int .i64 sb]] rfl rfl rfl rfl (enters_of Try.func15 (by kernel_rfl) rfl) (by simp [Act.eval])
    (before_any da ka va sa db kb vb sb hka hsa hkb hsb _) ?_
  rintro e w2 ⟨rfl, b2⟩
  have c0_2 := c0_1.trans (b2.mono c0_1.size)
  refine ⟨_, rfl, c0_2, ?_⟩
  simp only [Act.put, List.setIfInBounds_toArray, List.set_cons_zero, List.set_cons_succ]
  refine Held.one 8 (by kernel_rfl) ?_
  refine Held.op_call 8 (some 18) 16 #[.agg #[.bool da, .int .i64 ka, .int .i64 va, .int .i64 sa], .agg #[.bool db, .int .i64 kb, .int .i64 vb, .int .i64 sb]] rfl rfl rfl rfl (enters_of Try.func16 (by kernel_rfl) rfl) (by simp [Act.eval])
    (rbefore_any da ka va sa db kb vb sb  _) ?_
  rintro e w3 ⟨rfl, b3⟩
  have c0_3 := c0_2.trans (b3.mono c0_2.size)
  refine ⟨_, rfl, c0_3, ?_⟩
  simp only [Act.put, List.setIfInBounds_toArray, List.set_cons_zero, List.set_cons_succ]
  refine Held.take (v := .bool false) 9 (some 19) rfl rfl (by kernel_rfl) (by kernel_rfl) (by kernel_rfl) (fun _ _ _ h => h) rfl (Held.y_neI rfl rfl rfl (by simp)) c0_3 ?_
  simp only [Act.put, List.setIfInBounds_toArray, List.set_cons_zero, List.set_cons_succ]
  refine Held.take (v := .bool false) 10 (some 20) rfl rfl (by kernel_rfl) (by kernel_rfl) (by kernel_rfl) (fun _ _ _ h => h) rfl (Held.y_pickF rfl rfl rfl) c0_3 ?_
  simp only [Act.put, List.setIfInBounds_toArray, List.set_cons_zero, List.set_cons_succ]
  refine Held.take (v := .bool false) 11 (some 21) rfl rfl (by kernel_rfl) (by kernel_rfl) (by kernel_rfl) (fun _ _ _ h => h) rfl (Held.y_move rfl rfl) c0_3 ?_
  simp only [Act.put, List.setIfInBounds_toArray, List.set_cons_zero, List.set_cons_succ]
  refine Held.take (v := .agg #[.bool da, .int .i64 ka, .int .i64 va, .int .i64 sa]) 12 (some 22) rfl rfl (by kernel_rfl) (by kernel_rfl) (by kernel_rfl) (fun _ _ _ h => h) rfl (Held.y_load_blk (n := 4) rfl rfl Try.underlying23 rfl (by kernel_rfl) rfl (fun W hW => qa.below hW qa.lt)) c0_3 ?_
  simp only [Act.put, List.setIfInBounds_toArray, List.set_cons_zero, List.set_cons_succ]
  refine Held.take (v := .agg #[.bool db, .int .i64 kb, .int .i64 vb, .int .i64 sb]) 13 (some 23) rfl rfl (by kernel_rfl) (by kernel_rfl) (by kernel_rfl) (fun _ _ _ h => h) rfl (Held.y_load_blk (n := 4) rfl rfl Try.underlying23 rfl (by kernel_rfl) rfl (fun W hW => qb.below hW qb.lt)) c0_3 ?_
  simp only [Act.put, List.setIfInBounds_toArray, List.set_cons_zero, List.set_cons_succ]
  refine Held.take (v := .agg #[.bool da, .int .i64 ka, .int .i64 va, .int .i64 sa]) 15 (some 25) rfl rfl (by kernel_rfl) (by kernel_rfl) (by kernel_rfl) (fun _ _ _ h => h) rfl (Held.y_load_blk (n := 4) rfl rfl Try.underlying23 rfl (by kernel_rfl) rfl (fun W hW => qa.below hW qa.lt)) c0_3 ?_
  simp only [Act.put, List.setIfInBounds_toArray, List.set_cons_zero, List.set_cons_succ]
  refine Held.take (v := .agg #[.bool db, .int .i64 kb, .int .i64 vb, .int .i64 sb]) 16 (some 26) rfl rfl (by kernel_rfl) (by kernel_rfl) (by kernel_rfl) (fun _ _ _ h => h) rfl (Held.y_load_blk (n := 4) rfl rfl Try.underlying23 rfl (by kernel_rfl) rfl (fun W hW => qb.below hW qb.lt)) c0_3 ?_
  simp only [Act.put, List.setIfInBounds_toArray, List.set_cons_zero, List.set_cons_succ]
  refine Held.one 14 (by kernel_rfl) ?_
  refine Held.op_call 14 (some 24) 17 #[.agg #[.bool da, .int .i64 ka, .int .i64 va, .int .i64 sa], .agg #[.bool db, .int .i64 kb, .int .i64 vb, .int .i64 sb]] rfl rfl rfl rfl (enters_of Try.func17 (by kernel_rfl) rfl) (by simp [Act.eval])
    (ahead_any da ka va sa db kb vb sb hka hsa hkb hsb _) ?_
  rintro e w4 ⟨rfl, b4⟩
  have c0_4 := c0_3.trans (b4.mono c0_3.size)
  refine ⟨_, rfl, c0_4, ?_⟩
  simp only [Act.put, List.setIfInBounds_toArray, List.set_cons_zero, List.set_cons_succ]
  refine Held.one 17 (by kernel_rfl) ?_
  refine Held.op_call 17 (some 27) 18 #[.agg #[.bool da, .int .i64 ka, .int .i64 va, .int .i64 sa], .agg #[.bool db, .int .i64 kb, .int .i64 vb, .int .i64 sb]] rfl rfl rfl rfl (enters_of Try.func18 (by kernel_rfl) rfl) (by simp [Act.eval])
    (rahead_any da ka va sa db kb vb sb  _) ?_
  rintro e w5 ⟨rfl, b5⟩
  have c0_5 := c0_4.trans (b5.mono c0_4.size)
  refine ⟨_, rfl, c0_5, ?_⟩
  simp only [Act.put, List.setIfInBounds_toArray, List.set_cons_zero, List.set_cons_succ]
  refine Held.take (v := .bool false) 18 (some 28) rfl rfl (by kernel_rfl) (by kernel_rfl) (by kernel_rfl) (fun _ _ _ h => h) rfl (Held.y_neI rfl rfl rfl (by simp)) c0_5 ?_
  simp only [Act.put, List.setIfInBounds_toArray, List.set_cons_zero, List.set_cons_succ]
  refine Held.take (v := .bool false) 19 (some 29) rfl rfl (by kernel_rfl) (by kernel_rfl) (by kernel_rfl) (fun _ _ _ h => h) rfl (Held.y_pickF rfl rfl rfl) c0_5 ?_
  simp only [Act.put, List.setIfInBounds_toArray, List.set_cons_zero, List.set_cons_succ]
  refine wpAnyH_done (by kernel_rfl) ?_ _
  have f5 := f3.trans (c0_5.mono f3.size)
  have qa := qa.after c0_5
  have qb := qb.after c0_5
  have qc := qc.after c0_5
  generalize w5 = v1 at f5 qa qb qc ⊢
  clear b3
  go_wp2_with (first
    | (refine wpList_load_blk (w := v1) rfl 23 _ rfl u1.heap.size 4 rfl 23 _ qb _ Try.underlying23 rfl (by kernel_rfl) rfl ?_)
    | (refine wpList_alloc_blk (w := v1) rfl 23 rfl _ zero_rec ?_; intro v2 qz gz zz)
    | (refine wpList_store_blk (w := v2) rfl 23 _ _ rfl v1.heap.size 4 rfl 23 _ #[.bool db, .int .i64 kb, .int .i64 vb, .int .i64 sb] rfl qz info_rec rfl rfl (by kernel_rfl) ?_; intro v4 qw gw zw; have la := qa.lt; have lb := qb.lt; have lc := qc.lt; have qa := (qa.grown gz (by simp)).grown gw (by intro e; injection e with e; omega); have qb := (qb.grown gz (by simp)).grown gw (by intro e; injection e with e; omega); have qc := (qc.grown gz (by simp)).grown gw (by intro e; injection e with e; omega); have f5 := (f5.grown gz f5.size (by simp)).grown gw (Nat.le_trans f5.size gz.size) (fun r e => by cases e; exact f5.size); clear gz gw zz zw qz)
    | (refine wpList_load_blk (w := v4) rfl 23 _ rfl u.heap.size 4 rfl 23 _ qa _ Try.underlying23 rfl (by kernel_rfl) rfl ?_)
    | (refine wpList_store_blk (w := v4) rfl 23 _ _ rfl v1.heap.size 4 rfl 23 _ #[.bool da, .int .i64 ka, .int .i64 va, .int .i64 sa] rfl qw info_rec rfl rfl (by kernel_rfl) ?_; intro v5 qw gw zw; have qa := qa.grown gw (by intro e; injection e with e; omega); have qb := qb.grown gw (by intro e; injection e with e; omega); have qc := qc.grown gw (by intro e; injection e with e; omega); have f5 := f5.grown gw f5.size (fun r e => by cases e; have := b5.size; omega); clear gw zw))
  refine wp_region_held (S := fun W => Below v5.heap.size v5 W) (by kernel_rfl) ?_
  change wpAnyH _ _ _ _ _ _ _ _ v5.drew
  have c0_0 := (Below.refl v5.heap.size v5).drew
  refine Held.take (v := .int .u64 n) 0 (some 35) rfl rfl (by kernel_rfl) (by kernel_rfl) (by kernel_rfl) (fun _ _ _ h => h) rfl (Held.y_move rfl rfl) c0_0 ?_
  simp only [Act.put, List.setIfInBounds_toArray, List.set_cons_zero, List.set_cons_succ]
  refine Held.take (v := .agg #[.bool da, .int .i64 ka, .int .i64 va, .int .i64 sa]) 1 (some 36) rfl rfl (by kernel_rfl) (by kernel_rfl) (by kernel_rfl) (fun _ _ _ h => h) rfl (Held.y_load_blk (n := 4) rfl rfl Try.underlying23 rfl (by kernel_rfl) rfl (fun W hW => qa.below hW qa.lt)) c0_0 ?_
  simp only [Act.put, List.setIfInBounds_toArray, List.set_cons_zero, List.set_cons_succ]
  refine Held.take (v := .agg #[.bool db, .int .i64 kb, .int .i64 vb, .int .i64 sb]) 2 (some 37) rfl rfl (by kernel_rfl) (by kernel_rfl) (by kernel_rfl) (fun _ _ _ h => h) rfl (Held.y_load_blk (n := 4) rfl rfl Try.underlying23 rfl (by kernel_rfl) rfl (fun W hW => qb.below hW qb.lt)) c0_0 ?_
  simp only [Act.put, List.setIfInBounds_toArray, List.set_cons_zero, List.set_cons_succ]
  refine Held.take (v := .agg #[.bool da, .int .i64 ka, .int .i64 va, .int .i64 sa]) 4 (some 39) rfl rfl (by kernel_rfl) (by kernel_rfl) (by kernel_rfl) (fun _ _ _ h => h) rfl (Held.y_load_blk (n := 4) rfl rfl Try.underlying23 rfl (by kernel_rfl) rfl (fun W hW => qw.below hW qw.lt)) c0_0 ?_
  simp only [Act.put, List.setIfInBounds_toArray, List.set_cons_zero, List.set_cons_succ]
  refine Held.one 3 (by kernel_rfl) ?_
  refine Held.op_call 3 (some 38) 19 #[.int .u64 n, .agg #[.bool da, .int .i64 ka, .int .i64 va, .int .i64 sa], .agg #[.bool db, .int .i64 kb, .int .i64 vb, .int .i64 sb]] rfl rfl rfl rfl (enters_of Try.func19 (by kernel_rfl) rfl) (by simp [Act.eval])
    (hpick _) ?_
  rintro e w1 ⟨rfl, b1⟩
  have c0_1 := c0_0.trans (b1.mono c0_0.size)
  refine ⟨_, rfl, c0_1, ?_⟩
  simp only [Act.put, List.setIfInBounds_toArray, List.set_cons_zero, List.set_cons_succ]
  refine Held.take (v := .bool false) 5 (some 40) rfl rfl (by kernel_rfl) (by kernel_rfl) (by kernel_rfl) (fun _ _ _ h => h) rfl (y_ner rfl rfl rfl (by simp)) c0_1 ?_
  simp only [Act.put, List.setIfInBounds_toArray, List.set_cons_zero, List.set_cons_succ]
  refine Held.take (v := .bool false) 6 (some 41) rfl rfl (by kernel_rfl) (by kernel_rfl) (by kernel_rfl) (fun _ _ _ h => h) rfl (Held.y_move rfl rfl) c0_1 ?_
  simp only [Act.put, List.setIfInBounds_toArray, List.set_cons_zero, List.set_cons_succ]
  refine Held.take (v := .agg #[.bool da, .int .i64 ka, .int .i64 va, .int .i64 sa]) 7 (some 42) rfl rfl (by kernel_rfl) (by kernel_rfl) (by kernel_rfl) (fun _ _ _ h => h) rfl (Held.y_load_blk (n := 4) rfl rfl Try.underlying23 rfl (by kernel_rfl) rfl (fun W hW => qa.below hW qa.lt)) c0_1 ?_
  simp only [Act.put, List.setIfInBounds_toArray, List.set_cons_zero, List.set_cons_succ]
  refine Held.take (v := .agg #[.bool db, .int .i64 kb, .int .i64 vb, .int .i64 sb]) 8 (some 43) rfl rfl (by kernel_rfl) (by kernel_rfl) (by kernel_rfl) (fun _ _ _ h => h) rfl (Held.y_load_blk (n := 4) rfl rfl Try.underlying23 rfl (by kernel_rfl) rfl (fun W hW => qb.below hW qb.lt)) c0_1 ?_
  simp only [Act.put, List.setIfInBounds_toArray, List.set_cons_zero, List.set_cons_succ]
  refine Held.take (v := .agg #[.bool db, .int .i64 kb, .int .i64 vb, .int .i64 sb]) 10 (some 45) rfl rfl (by kernel_rfl) (by kernel_rfl) (by kernel_rfl) (fun _ _ _ h => h) rfl (Held.y_load_blk (n := 4) rfl rfl Try.underlying23 rfl (by kernel_rfl) rfl (fun W hW => qb.below hW qb.lt)) c0_1 ?_
  simp only [Act.put, List.setIfInBounds_toArray, List.set_cons_zero, List.set_cons_succ]
  refine Held.take (v := .agg #[.bool da, .int .i64 ka, .int .i64 va, .int .i64 sa]) 11 (some 46) rfl rfl (by kernel_rfl) (by kernel_rfl) (by kernel_rfl) (fun _ _ _ h => h) rfl (Held.y_load_blk (n := 4) rfl rfl Try.underlying23 rfl (by kernel_rfl) rfl (fun W hW => qa.below hW qa.lt)) c0_1 ?_
  simp only [Act.put, List.setIfInBounds_toArray, List.set_cons_zero, List.set_cons_succ]
  refine Held.one 9 (by kernel_rfl) ?_
  refine Held.op_call 9 (some 44) 15 #[.agg #[.bool da, .int .i64 ka, .int .i64 va, .int .i64 sa], .agg #[.bool db, .int .i64 kb, .int .i64 vb, .int .i64 sb]] rfl rfl rfl rfl (enters_of Try.func15 (by kernel_rfl) rfl) (by simp [Act.eval])
    (before_any da ka va sa db kb vb sb hka hsa hkb hsb _) ?_
  rintro e w2 ⟨rfl, b2⟩
  have c0_2 := c0_1.trans (b2.mono c0_1.size)
  refine ⟨_, rfl, c0_2, ?_⟩
  simp only [Act.put, List.setIfInBounds_toArray, List.set_cons_zero, List.set_cons_succ]
  refine Held.one 12 (by kernel_rfl) ?_
  refine Held.op_call 12 (some 47) 15 #[.agg #[.bool db, .int .i64 kb, .int .i64 vb, .int .i64 sb], .agg #[.bool da, .int .i64 ka, .int .i64 va, .int .i64 sa]] rfl rfl rfl rfl (enters_of Try.func15 (by kernel_rfl) rfl) (by simp [Act.eval])
    (before_any db kb vb sb da ka va sa hkb hsb hka hsa _) ?_
  rintro e w3 ⟨rfl, b3⟩
  have c0_3 := c0_2.trans (b3.mono c0_2.size)
  refine ⟨_, rfl, c0_3, ?_⟩
  simp only [Act.put, List.setIfInBounds_toArray, List.set_cons_zero, List.set_cons_succ]
  refine Held.take (v := .int .u64 x12) 13 (some 48) rfl rfl (by kernel_rfl) (by kernel_rfl) (by kernel_rfl) (fun _ _ _ h => h) rfl (Held.y_int rfl rfl rfl (Held.run_add 35 .u64 (hx12))) c0_3 ?_
  simp only [Act.put, List.setIfInBounds_toArray, List.set_cons_zero, List.set_cons_succ]
  refine Held.take (v := .bool false) 14 (some 49) rfl rfl (by kernel_rfl) (by kernel_rfl) (by kernel_rfl) (fun _ _ _ h => h) rfl (Held.y_gtr rfl rfl rfl (by simpa using hx12b)) c0_3 ?_
  simp only [Act.put, List.setIfInBounds_toArray, List.set_cons_zero, List.set_cons_succ]
  refine Held.take (v := .bool false) 15 (some 50) rfl rfl (by kernel_rfl) (by kernel_rfl) (by kernel_rfl) (fun _ _ _ h => h) rfl (Held.y_pickF rfl rfl rfl) c0_3 ?_
  simp only [Act.put, List.setIfInBounds_toArray, List.set_cons_zero, List.set_cons_succ]
  refine Held.take (v := .bool false) 16 (some 51) rfl rfl (by kernel_rfl) (by kernel_rfl) (by kernel_rfl) (fun _ _ _ h => h) rfl (Held.y_move rfl rfl) c0_3 ?_
  simp only [Act.put, List.setIfInBounds_toArray, List.set_cons_zero, List.set_cons_succ]
  refine Held.take (v := .agg #[.bool da, .int .i64 ka, .int .i64 va, .int .i64 sa]) 17 (some 52) rfl rfl (by kernel_rfl) (by kernel_rfl) (by kernel_rfl) (fun _ _ _ h => h) rfl (Held.y_load_blk (n := 4) rfl rfl Try.underlying23 rfl (by kernel_rfl) rfl (fun W hW => qa.below hW qa.lt)) c0_3 ?_
  simp only [Act.put, List.setIfInBounds_toArray, List.set_cons_zero, List.set_cons_succ]
  refine Held.take (v := .agg #[.bool db, .int .i64 kb, .int .i64 vb, .int .i64 sb]) 18 (some 53) rfl rfl (by kernel_rfl) (by kernel_rfl) (by kernel_rfl) (fun _ _ _ h => h) rfl (Held.y_load_blk (n := 4) rfl rfl Try.underlying23 rfl (by kernel_rfl) rfl (fun W hW => qb.below hW qb.lt)) c0_3 ?_
  simp only [Act.put, List.setIfInBounds_toArray, List.set_cons_zero, List.set_cons_succ]
  refine Held.take (v := .agg #[.bool db, .int .i64 kb, .int .i64 vb, .int .i64 sb]) 20 (some 55) rfl rfl (by kernel_rfl) (by kernel_rfl) (by kernel_rfl) (fun _ _ _ h => h) rfl (Held.y_load_blk (n := 4) rfl rfl Try.underlying23 rfl (by kernel_rfl) rfl (fun W hW => qb.below hW qb.lt)) c0_3 ?_
  simp only [Act.put, List.setIfInBounds_toArray, List.set_cons_zero, List.set_cons_succ]
  refine Held.take (v := .agg #[.bool da, .int .i64 ka, .int .i64 va, .int .i64 sa]) 21 (some 56) rfl rfl (by kernel_rfl) (by kernel_rfl) (by kernel_rfl) (fun _ _ _ h => h) rfl (Held.y_load_blk (n := 4) rfl rfl Try.underlying23 rfl (by kernel_rfl) rfl (fun W hW => qa.below hW qa.lt)) c0_3 ?_
  simp only [Act.put, List.setIfInBounds_toArray, List.set_cons_zero, List.set_cons_succ]
  refine Held.one 19 (by kernel_rfl) ?_
  refine Held.op_call 19 (some 54) 17 #[.agg #[.bool da, .int .i64 ka, .int .i64 va, .int .i64 sa], .agg #[.bool db, .int .i64 kb, .int .i64 vb, .int .i64 sb]] rfl rfl rfl rfl (enters_of Try.func17 (by kernel_rfl) rfl) (by simp [Act.eval])
    (ahead_any da ka va sa db kb vb sb hka hsa hkb hsb _) ?_
  rintro e w4 ⟨rfl, b4⟩
  have c0_4 := c0_3.trans (b4.mono c0_3.size)
  refine ⟨_, rfl, c0_4, ?_⟩
  simp only [Act.put, List.setIfInBounds_toArray, List.set_cons_zero, List.set_cons_succ]
  refine Held.one 22 (by kernel_rfl) ?_
  refine Held.op_call 22 (some 57) 17 #[.agg #[.bool db, .int .i64 kb, .int .i64 vb, .int .i64 sb], .agg #[.bool da, .int .i64 ka, .int .i64 va, .int .i64 sa]] rfl rfl rfl rfl (enters_of Try.func17 (by kernel_rfl) rfl) (by simp [Act.eval])
    (ahead_any db kb vb sb da ka va sa hkb hsb hka hsa _) ?_
  rintro e w5 ⟨rfl, b5⟩
  have c0_5 := c0_4.trans (b5.mono c0_4.size)
  refine ⟨_, rfl, c0_5, ?_⟩
  simp only [Act.put, List.setIfInBounds_toArray, List.set_cons_zero, List.set_cons_succ]
  refine Held.take (v := .int .u64 y12) 23 (some 58) rfl rfl (by kernel_rfl) (by kernel_rfl) (by kernel_rfl) (fun _ _ _ h => h) rfl (Held.y_int rfl rfl rfl (Held.run_add 35 .u64 (hy12))) c0_5 ?_
  simp only [Act.put, List.setIfInBounds_toArray, List.set_cons_zero, List.set_cons_succ]
  refine Held.take (v := .bool false) 24 (some 59) rfl rfl (by kernel_rfl) (by kernel_rfl) (by kernel_rfl) (fun _ _ _ h => h) rfl (Held.y_gtr rfl rfl rfl (by simpa using hy12b)) c0_5 ?_
  simp only [Act.put, List.setIfInBounds_toArray, List.set_cons_zero, List.set_cons_succ]
  refine Held.take (v := .bool false) 25 (some 60) rfl rfl (by kernel_rfl) (by kernel_rfl) (by kernel_rfl) (fun _ _ _ h => h) rfl (Held.y_pickF rfl rfl rfl) c0_5 ?_
  simp only [Act.put, List.setIfInBounds_toArray, List.set_cons_zero, List.set_cons_succ]
  refine wpAnyH_done (by kernel_rfl) ?_ _
  have f6 := f5.trans (c0_5.mono f5.size)
  have qa := qa.after c0_5
  have qb := qb.after c0_5
  have qc := qc.after c0_5
  generalize w5 = wN at f6 qa qb qc ⊢
  clear f5 qw
  obtain ⟨p, hp⟩ : ∃ p, bef da ka sa db kb sb = p := ⟨_, rfl⟩
  obtain ⟨q, hq⟩ : ∃ q, bef db kb sb dc kc sc = q := ⟨_, rfl⟩
  obtain ⟨r, hr⟩ : ∃ r, bef da ka sa dc kc sc = r := ⟨_, rfl⟩
  obtain ⟨s, hs⟩ : ∃ s, ahd da ka db kb = s := ⟨_, rfl⟩
  have h1 : p = true → q = true → r = true := fun e1 e2 => by rw [← hr]; exact bef_row da ka sa db kb sb dc kc sc (hp.trans e1) (hq.trans e2)
  have h2 : s = true → p = true := fun e => by rw [← hp]; exact ahd_bef da ka sa db kb sb (hs.trans e)
  have hab := before_any da ka va sa db kb vb sb hka hsa hkb hsb
  have hbc := before_any db kb vb sb dc kc vc sc hkb hsb hkc hsc
  have hac := before_any da ka va sa dc kc vc sc hka hsa hkc hsc
  have hah := ahead_any da ka va sa db kb vb sb hka hsa hkb hsb
  rw [hp] at hab
  rw [hq] at hbc
  rw [hr] at hac
  rw [hs] at hah
  clear hp hq hr hs hx12 hy12 hx12b hy12b hpick hodd
  cases p <;> cases q <;> cases r <;> cases s
  all_goals try (exfalso; first | exact absurd (h1 rfl rfl) (by decide) | exact absurd (h2 rfl) (by decide))
  all_goals
    simp only [show oneI true = 1 from rfl, show oneI false = 0 from rfl] at hab hbc hac hah
    clear h1 h2
    iterate 6
      go_wp2_with (first
      | (refine wpList_load_blk (w := wN) rfl 23 _ rfl u.heap.size 4 rfl 23 _ qa _ Try.underlying23 rfl (by kernel_rfl) rfl ?_)
      | (refine wpList_load_blk (w := wN) rfl 23 _ rfl u1.heap.size 4 rfl 23 _ qb _ Try.underlying23 rfl (by kernel_rfl) rfl ?_)
      | (refine wpList_load_blk (w := wN) rfl 23 _ rfl u2.heap.size 4 rfl 23 _ qc _ Try.underlying23 rfl (by kernel_rfl) rfl ?_))
      first
        | (refine (hab _).mono ?_; rintro e wN ⟨rfl, bN⟩; have qa := qa.after bN; have qb := qb.after bN; have qc := qc.after bN; have f6 := f6.trans (bN.mono f6.size))
        | (refine (hbc _).mono ?_; rintro e wN ⟨rfl, bN⟩; have qa := qa.after bN; have qb := qb.after bN; have qc := qc.after bN; have f6 := f6.trans (bN.mono f6.size))
        | (refine (hac _).mono ?_; rintro e wN ⟨rfl, bN⟩; have qa := qa.after bN; have qb := qb.after bN; have qc := qc.after bN; have f6 := f6.trans (bN.mono f6.size))
        | (refine (hah _).mono ?_; rintro e wN ⟨rfl, bN⟩; have qa := qa.after bN; have qb := qb.after bN; have qc := qc.after bN; have f6 := f6.trans (bN.mono f6.size))
        | skip
    go_ret
    exact ⟨rfl, f6⟩

set_option maxRecDepth 100000 in
set_option maxHeartbeats 16000000 in
theorem start_even (da : Bool) (ka va sa : Int) (db : Bool) (kb vb sb : Int) (dc : Bool) (kc vc sc : Int) (n : Int) (u : World) (hka : (Lit.int .i64 ka).wf = true) (hva : (Lit.int .i64 va).wf = true) (hsa : (Lit.int .i64 sa).wf = true) (hkb : (Lit.int .i64 kb).wf = true) (hvb : (Lit.int .i64 vb).wf = true) (hsb : (Lit.int .i64 sb).wf = true) (hkc : (Lit.int .i64 kc).wf = true) (hvc : (Lit.int .i64 vc).wf = true) (hsc : (Lit.int .i64 sc).wf = true) (hn : (Lit.int .u64 n).wf = true) (hodd : (bits .and .u64 n 1 == 1) = false)
    (hpick : ∀ W : World, Calls Try.prog 19 #[.int .u64 n, .agg #[.bool da, .int .i64 ka, .int .i64 va, .int .i64 sa], .agg #[.bool db, .int .i64 kb, .int .i64 vb, .int .i64 sb]] W fun e W' => e = .returned (.agg #[.bool db, .int .i64 kb, .int .i64 vb, .int .i64 sb]) ∧ Below W.heap.size W W') :
    Calls Try.prog 5 #[.agg #[.bool da, .int .i64 ka, .int .i64 va, .int .i64 sa], .agg #[.bool db, .int .i64 kb, .int .i64 vb, .int .i64 sb], .agg #[.bool dc, .int .i64 kc, .int .i64 vc, .int .i64 sc], .int .u64 n] u fun e u' => e = .returned (.bool true) ∧ Below u.heap.size u u' := by
  obtain ⟨x12, hx12⟩ : ∃ x, IntKind.u64.wrap (oneI (bef da ka sa db kb sb) + oneI (bef db kb sb da ka sa)) = x := ⟨_, rfl⟩
  obtain ⟨y12, hy12⟩ : ∃ x, IntKind.u64.wrap (oneI (ahd da ka db kb) + oneI (ahd db kb da ka)) = x := ⟨_, rfl⟩
  have hx12b : x12 ≤ 1 := by have := bef_two da ka sa db kb sb; rw [← hx12, IntKind.wrap_u64]; omega
  have hy12b : y12 ≤ 1 := by have := ahd_two da ka db kb; rw [← hy12, IntKind.wrap_u64]; omega
  go_enter Try.func5, Try.ntmps5
  go_wp2_with (first
    | (refine wpList_box_blk (w := u) rfl 23 _ rfl #[.bool da, .int .i64 ka, .int .i64 va, .int .i64 sa] rfl ?_; intro u1 q1 g1 z1)
    | (refine wpList_box_blk (w := u1) rfl 23 _ rfl #[.bool db, .int .i64 kb, .int .i64 vb, .int .i64 sb] rfl ?_; intro u2 q2 g2 z2)
    | (refine wpList_box_blk (w := u2) rfl 23 _ rfl #[.bool dc, .int .i64 kc, .int .i64 vc, .int .i64 sc] rfl ?_; intro u3 qc g3 z3))
  have qa := (q1.grown g2 (by simp)).grown g3 (by simp)
  have qb := q2.grown g3 (by simp)
  have f3 : Below u.heap.size u u3 := (((Below.refl _ u).grown g1 (Nat.le_refl _) (by simp)).grown g2 g1.size (by simp)).grown g3 (Nat.le_trans g1.size g2.size) (by simp)
  clear g1 g2 g3 z1 z2 z3 q1 q2
  refine wp_region_held (S := fun W => Below u3.heap.size u3 W) (by kernel_rfl) ?_
  change wpAnyH _ _ _ _ _ _ _ _ u3.drew
  have c0_0 := (Below.refl u3.heap.size u3).drew
  refine Held.one 0 (by kernel_rfl) ?_
  refine Held.op_call 0 (some 10) 8 #[] rfl rfl rfl rfl (enters_of Try.func8 (by kernel_rfl) rfl) (by simp)
    (awake9_any _) ?_
  rintro e w1 ⟨rfl, b1⟩
  have c0_1 := c0_0.trans (b1.mono c0_0.size)
  refine ⟨_, rfl, c0_1, ?_⟩
  simp only [Act.put, List.setIfInBounds_toArray, List.set_cons_zero, List.set_cons_succ]
  refine Held.take (v := .bool false) 1 (some 11) rfl rfl (by kernel_rfl) (by kernel_rfl) (by kernel_rfl) (fun _ _ _ h => h) rfl (Held.y_not rfl rfl rfl) c0_1 ?_
  simp only [Act.put, List.setIfInBounds_toArray, List.set_cons_zero, List.set_cons_succ]
  refine Held.take (v := .bool false) 2 (some 12) rfl rfl (by kernel_rfl) (by kernel_rfl) (by kernel_rfl) (fun _ _ _ h => h) rfl (Held.y_move rfl rfl) c0_1 ?_
  simp only [Act.put, List.setIfInBounds_toArray, List.set_cons_zero, List.set_cons_succ]
  refine Held.take (v := .agg #[.bool da, .int .i64 ka, .int .i64 va, .int .i64 sa]) 3 (some 13) rfl rfl (by kernel_rfl) (by kernel_rfl) (by kernel_rfl) (fun _ _ _ h => h) rfl (Held.y_load_blk (n := 4) rfl rfl Try.underlying23 rfl (by kernel_rfl) rfl (fun W hW => qa.below hW qa.lt)) c0_1 ?_
  simp only [Act.put, List.setIfInBounds_toArray, List.set_cons_zero, List.set_cons_succ]
  refine Held.take (v := .agg #[.bool db, .int .i64 kb, .int .i64 vb, .int .i64 sb]) 4 (some 14) rfl rfl (by kernel_rfl) (by kernel_rfl) (by kernel_rfl) (fun _ _ _ h => h) rfl (Held.y_load_blk (n := 4) rfl rfl Try.underlying23 rfl (by kernel_rfl) rfl (fun W hW => qb.below hW qb.lt)) c0_1 ?_
  simp only [Act.put, List.setIfInBounds_toArray, List.set_cons_zero, List.set_cons_succ]
  refine Held.take (v := .agg #[.bool da, .int .i64 ka, .int .i64 va, .int .i64 sa]) 6 (some 16) rfl rfl (by kernel_rfl) (by kernel_rfl) (by kernel_rfl) (fun _ _ _ h => h) rfl (Held.y_load_blk (n := 4) rfl rfl Try.underlying23 rfl (by kernel_rfl) rfl (fun W hW => qa.below hW qa.lt)) c0_1 ?_
  simp only [Act.put, List.setIfInBounds_toArray, List.set_cons_zero, List.set_cons_succ]
  refine Held.take (v := .agg #[.bool db, .int .i64 kb, .int .i64 vb, .int .i64 sb]) 7 (some 17) rfl rfl (by kernel_rfl) (by kernel_rfl) (by kernel_rfl) (fun _ _ _ h => h) rfl (Held.y_load_blk (n := 4) rfl rfl Try.underlying23 rfl (by kernel_rfl) rfl (fun W hW => qb.below hW qb.lt)) c0_1 ?_
  simp only [Act.put, List.setIfInBounds_toArray, List.set_cons_zero, List.set_cons_succ]
  refine Held.one 5 (by kernel_rfl) ?_
  refine Held.op_call 5 (some 15) 15 #[.agg #[.bool da, .int .i64 ka, .int .i64 va, .int .i64 sa], .agg #[.bool db, .int .i64 kb, .int .i64 vb, .int .i64 sb]] rfl rfl rfl rfl (enters_of Try.func15 (by kernel_rfl) rfl) (by simp [Act.eval])
    (before_any da ka va sa db kb vb sb hka hsa hkb hsb _) ?_
  rintro e w2 ⟨rfl, b2⟩
  have c0_2 := c0_1.trans (b2.mono c0_1.size)
  refine ⟨_, rfl, c0_2, ?_⟩
  simp only [Act.put, List.setIfInBounds_toArray, List.set_cons_zero, List.set_cons_succ]
  refine Held.one 8 (by kernel_rfl) ?_
  refine Held.op_call 8 (some 18) 16 #[.agg #[.bool da, .int .i64 ka, .int .i64 va, .int .i64 sa], .agg #[.bool db, .int .i64 kb, .int .i64 vb, .int .i64 sb]] rfl rfl rfl rfl (enters_of Try.func16 (by kernel_rfl) rfl) (by simp [Act.eval])
    (rbefore_any da ka va sa db kb vb sb  _) ?_
  rintro e w3 ⟨rfl, b3⟩
  have c0_3 := c0_2.trans (b3.mono c0_2.size)
  refine ⟨_, rfl, c0_3, ?_⟩
  simp only [Act.put, List.setIfInBounds_toArray, List.set_cons_zero, List.set_cons_succ]
  refine Held.take (v := .bool false) 9 (some 19) rfl rfl (by kernel_rfl) (by kernel_rfl) (by kernel_rfl) (fun _ _ _ h => h) rfl (Held.y_neI rfl rfl rfl (by simp)) c0_3 ?_
  simp only [Act.put, List.setIfInBounds_toArray, List.set_cons_zero, List.set_cons_succ]
  refine Held.take (v := .bool false) 10 (some 20) rfl rfl (by kernel_rfl) (by kernel_rfl) (by kernel_rfl) (fun _ _ _ h => h) rfl (Held.y_pickF rfl rfl rfl) c0_3 ?_
  simp only [Act.put, List.setIfInBounds_toArray, List.set_cons_zero, List.set_cons_succ]
  refine Held.take (v := .bool false) 11 (some 21) rfl rfl (by kernel_rfl) (by kernel_rfl) (by kernel_rfl) (fun _ _ _ h => h) rfl (Held.y_move rfl rfl) c0_3 ?_
  simp only [Act.put, List.setIfInBounds_toArray, List.set_cons_zero, List.set_cons_succ]
  refine Held.take (v := .agg #[.bool da, .int .i64 ka, .int .i64 va, .int .i64 sa]) 12 (some 22) rfl rfl (by kernel_rfl) (by kernel_rfl) (by kernel_rfl) (fun _ _ _ h => h) rfl (Held.y_load_blk (n := 4) rfl rfl Try.underlying23 rfl (by kernel_rfl) rfl (fun W hW => qa.below hW qa.lt)) c0_3 ?_
  simp only [Act.put, List.setIfInBounds_toArray, List.set_cons_zero, List.set_cons_succ]
  refine Held.take (v := .agg #[.bool db, .int .i64 kb, .int .i64 vb, .int .i64 sb]) 13 (some 23) rfl rfl (by kernel_rfl) (by kernel_rfl) (by kernel_rfl) (fun _ _ _ h => h) rfl (Held.y_load_blk (n := 4) rfl rfl Try.underlying23 rfl (by kernel_rfl) rfl (fun W hW => qb.below hW qb.lt)) c0_3 ?_
  simp only [Act.put, List.setIfInBounds_toArray, List.set_cons_zero, List.set_cons_succ]
  refine Held.take (v := .agg #[.bool da, .int .i64 ka, .int .i64 va, .int .i64 sa]) 15 (some 25) rfl rfl (by kernel_rfl) (by kernel_rfl) (by kernel_rfl) (fun _ _ _ h => h) rfl (Held.y_load_blk (n := 4) rfl rfl Try.underlying23 rfl (by kernel_rfl) rfl (fun W hW => qa.below hW qa.lt)) c0_3 ?_
  simp only [Act.put, List.setIfInBounds_toArray, List.set_cons_zero, List.set_cons_succ]
  refine Held.take (v := .agg #[.bool db, .int .i64 kb, .int .i64 vb, .int .i64 sb]) 16 (some 26) rfl rfl (by kernel_rfl) (by kernel_rfl) (by kernel_rfl) (fun _ _ _ h => h) rfl (Held.y_load_blk (n := 4) rfl rfl Try.underlying23 rfl (by kernel_rfl) rfl (fun W hW => qb.below hW qb.lt)) c0_3 ?_
  simp only [Act.put, List.setIfInBounds_toArray, List.set_cons_zero, List.set_cons_succ]
  refine Held.one 14 (by kernel_rfl) ?_
  refine Held.op_call 14 (some 24) 17 #[.agg #[.bool da, .int .i64 ka, .int .i64 va, .int .i64 sa], .agg #[.bool db, .int .i64 kb, .int .i64 vb, .int .i64 sb]] rfl rfl rfl rfl (enters_of Try.func17 (by kernel_rfl) rfl) (by simp [Act.eval])
    (ahead_any da ka va sa db kb vb sb hka hsa hkb hsb _) ?_
  rintro e w4 ⟨rfl, b4⟩
  have c0_4 := c0_3.trans (b4.mono c0_3.size)
  refine ⟨_, rfl, c0_4, ?_⟩
  simp only [Act.put, List.setIfInBounds_toArray, List.set_cons_zero, List.set_cons_succ]
  refine Held.one 17 (by kernel_rfl) ?_
  refine Held.op_call 17 (some 27) 18 #[.agg #[.bool da, .int .i64 ka, .int .i64 va, .int .i64 sa], .agg #[.bool db, .int .i64 kb, .int .i64 vb, .int .i64 sb]] rfl rfl rfl rfl (enters_of Try.func18 (by kernel_rfl) rfl) (by simp [Act.eval])
    (rahead_any da ka va sa db kb vb sb  _) ?_
  rintro e w5 ⟨rfl, b5⟩
  have c0_5 := c0_4.trans (b5.mono c0_4.size)
  refine ⟨_, rfl, c0_5, ?_⟩
  simp only [Act.put, List.setIfInBounds_toArray, List.set_cons_zero, List.set_cons_succ]
  refine Held.take (v := .bool false) 18 (some 28) rfl rfl (by kernel_rfl) (by kernel_rfl) (by kernel_rfl) (fun _ _ _ h => h) rfl (Held.y_neI rfl rfl rfl (by simp)) c0_5 ?_
  simp only [Act.put, List.setIfInBounds_toArray, List.set_cons_zero, List.set_cons_succ]
  refine Held.take (v := .bool false) 19 (some 29) rfl rfl (by kernel_rfl) (by kernel_rfl) (by kernel_rfl) (fun _ _ _ h => h) rfl (Held.y_pickF rfl rfl rfl) c0_5 ?_
  simp only [Act.put, List.setIfInBounds_toArray, List.set_cons_zero, List.set_cons_succ]
  refine wpAnyH_done (by kernel_rfl) ?_ _
  have f5 := f3.trans (c0_5.mono f3.size)
  have qa := qa.after c0_5
  have qb := qb.after c0_5
  have qc := qc.after c0_5
  generalize w5 = v1 at f5 qa qb qc ⊢
  clear b3
  go_wp2_with (first
    | (refine wpList_load_blk (w := v1) rfl 23 _ rfl u1.heap.size 4 rfl 23 _ qb _ Try.underlying23 rfl (by kernel_rfl) rfl ?_)
    | (refine wpList_alloc_blk (w := v1) rfl 23 rfl _ zero_rec ?_; intro v2 qz gz zz)
    | (refine wpList_store_blk (w := v2) rfl 23 _ _ rfl v1.heap.size 4 rfl 23 _ #[.bool db, .int .i64 kb, .int .i64 vb, .int .i64 sb] rfl qz info_rec rfl rfl (by kernel_rfl) ?_; intro v4 qw gw zw; have la := qa.lt; have lb := qb.lt; have lc := qc.lt; have qa := (qa.grown gz (by simp)).grown gw (by intro e; injection e with e; omega); have qb := (qb.grown gz (by simp)).grown gw (by intro e; injection e with e; omega); have qc := (qc.grown gz (by simp)).grown gw (by intro e; injection e with e; omega); have f5 := (f5.grown gz f5.size (by simp)).grown gw (Nat.le_trans f5.size gz.size) (fun r e => by cases e; exact f5.size); clear gz gw zz zw qz)
    | (refine wpList_load_blk (w := v4) rfl 23 _ rfl u.heap.size 4 rfl 23 _ qa _ Try.underlying23 rfl (by kernel_rfl) rfl ?_)
    | (refine wpList_store_blk (w := v4) rfl 23 _ _ rfl v1.heap.size 4 rfl 23 _ #[.bool da, .int .i64 ka, .int .i64 va, .int .i64 sa] rfl qw info_rec rfl rfl (by kernel_rfl) ?_; intro v5 qw gw zw; have qa := qa.grown gw (by intro e; injection e with e; omega); have qb := qb.grown gw (by intro e; injection e with e; omega); have qc := qc.grown gw (by intro e; injection e with e; omega); have f5 := f5.grown gw f5.size (fun r e => by cases e; have := b5.size; omega); clear gw zw))
  refine wp_region_held (S := fun W => Below v4.heap.size v4 W) (by kernel_rfl) ?_
  change wpAnyH _ _ _ _ _ _ _ _ v4.drew
  have c0_0 := (Below.refl v4.heap.size v4).drew
  refine Held.take (v := .int .u64 n) 0 (some 35) rfl rfl (by kernel_rfl) (by kernel_rfl) (by kernel_rfl) (fun _ _ _ h => h) rfl (Held.y_move rfl rfl) c0_0 ?_
  simp only [Act.put, List.setIfInBounds_toArray, List.set_cons_zero, List.set_cons_succ]
  refine Held.take (v := .agg #[.bool da, .int .i64 ka, .int .i64 va, .int .i64 sa]) 1 (some 36) rfl rfl (by kernel_rfl) (by kernel_rfl) (by kernel_rfl) (fun _ _ _ h => h) rfl (Held.y_load_blk (n := 4) rfl rfl Try.underlying23 rfl (by kernel_rfl) rfl (fun W hW => qa.below hW qa.lt)) c0_0 ?_
  simp only [Act.put, List.setIfInBounds_toArray, List.set_cons_zero, List.set_cons_succ]
  refine Held.take (v := .agg #[.bool db, .int .i64 kb, .int .i64 vb, .int .i64 sb]) 2 (some 37) rfl rfl (by kernel_rfl) (by kernel_rfl) (by kernel_rfl) (fun _ _ _ h => h) rfl (Held.y_load_blk (n := 4) rfl rfl Try.underlying23 rfl (by kernel_rfl) rfl (fun W hW => qb.below hW qb.lt)) c0_0 ?_
  simp only [Act.put, List.setIfInBounds_toArray, List.set_cons_zero, List.set_cons_succ]
  refine Held.take (v := .agg #[.bool db, .int .i64 kb, .int .i64 vb, .int .i64 sb]) 4 (some 39) rfl rfl (by kernel_rfl) (by kernel_rfl) (by kernel_rfl) (fun _ _ _ h => h) rfl (Held.y_load_blk (n := 4) rfl rfl Try.underlying23 rfl (by kernel_rfl) rfl (fun W hW => qw.below hW qw.lt)) c0_0 ?_
  simp only [Act.put, List.setIfInBounds_toArray, List.set_cons_zero, List.set_cons_succ]
  refine Held.one 3 (by kernel_rfl) ?_
  refine Held.op_call 3 (some 38) 19 #[.int .u64 n, .agg #[.bool da, .int .i64 ka, .int .i64 va, .int .i64 sa], .agg #[.bool db, .int .i64 kb, .int .i64 vb, .int .i64 sb]] rfl rfl rfl rfl (enters_of Try.func19 (by kernel_rfl) rfl) (by simp [Act.eval])
    (hpick _) ?_
  rintro e w1 ⟨rfl, b1⟩
  have c0_1 := c0_0.trans (b1.mono c0_0.size)
  refine ⟨_, rfl, c0_1, ?_⟩
  simp only [Act.put, List.setIfInBounds_toArray, List.set_cons_zero, List.set_cons_succ]
  refine Held.take (v := .bool false) 5 (some 40) rfl rfl (by kernel_rfl) (by kernel_rfl) (by kernel_rfl) (fun _ _ _ h => h) rfl (y_ner rfl rfl rfl (by simp)) c0_1 ?_
  simp only [Act.put, List.setIfInBounds_toArray, List.set_cons_zero, List.set_cons_succ]
  refine Held.take (v := .bool false) 6 (some 41) rfl rfl (by kernel_rfl) (by kernel_rfl) (by kernel_rfl) (fun _ _ _ h => h) rfl (Held.y_move rfl rfl) c0_1 ?_
  simp only [Act.put, List.setIfInBounds_toArray, List.set_cons_zero, List.set_cons_succ]
  refine Held.take (v := .agg #[.bool da, .int .i64 ka, .int .i64 va, .int .i64 sa]) 7 (some 42) rfl rfl (by kernel_rfl) (by kernel_rfl) (by kernel_rfl) (fun _ _ _ h => h) rfl (Held.y_load_blk (n := 4) rfl rfl Try.underlying23 rfl (by kernel_rfl) rfl (fun W hW => qa.below hW qa.lt)) c0_1 ?_
  simp only [Act.put, List.setIfInBounds_toArray, List.set_cons_zero, List.set_cons_succ]
  refine Held.take (v := .agg #[.bool db, .int .i64 kb, .int .i64 vb, .int .i64 sb]) 8 (some 43) rfl rfl (by kernel_rfl) (by kernel_rfl) (by kernel_rfl) (fun _ _ _ h => h) rfl (Held.y_load_blk (n := 4) rfl rfl Try.underlying23 rfl (by kernel_rfl) rfl (fun W hW => qb.below hW qb.lt)) c0_1 ?_
  simp only [Act.put, List.setIfInBounds_toArray, List.set_cons_zero, List.set_cons_succ]
  refine Held.take (v := .agg #[.bool db, .int .i64 kb, .int .i64 vb, .int .i64 sb]) 10 (some 45) rfl rfl (by kernel_rfl) (by kernel_rfl) (by kernel_rfl) (fun _ _ _ h => h) rfl (Held.y_load_blk (n := 4) rfl rfl Try.underlying23 rfl (by kernel_rfl) rfl (fun W hW => qb.below hW qb.lt)) c0_1 ?_
  simp only [Act.put, List.setIfInBounds_toArray, List.set_cons_zero, List.set_cons_succ]
  refine Held.take (v := .agg #[.bool da, .int .i64 ka, .int .i64 va, .int .i64 sa]) 11 (some 46) rfl rfl (by kernel_rfl) (by kernel_rfl) (by kernel_rfl) (fun _ _ _ h => h) rfl (Held.y_load_blk (n := 4) rfl rfl Try.underlying23 rfl (by kernel_rfl) rfl (fun W hW => qa.below hW qa.lt)) c0_1 ?_
  simp only [Act.put, List.setIfInBounds_toArray, List.set_cons_zero, List.set_cons_succ]
  refine Held.one 9 (by kernel_rfl) ?_
  refine Held.op_call 9 (some 44) 15 #[.agg #[.bool da, .int .i64 ka, .int .i64 va, .int .i64 sa], .agg #[.bool db, .int .i64 kb, .int .i64 vb, .int .i64 sb]] rfl rfl rfl rfl (enters_of Try.func15 (by kernel_rfl) rfl) (by simp [Act.eval])
    (before_any da ka va sa db kb vb sb hka hsa hkb hsb _) ?_
  rintro e w2 ⟨rfl, b2⟩
  have c0_2 := c0_1.trans (b2.mono c0_1.size)
  refine ⟨_, rfl, c0_2, ?_⟩
  simp only [Act.put, List.setIfInBounds_toArray, List.set_cons_zero, List.set_cons_succ]
  refine Held.one 12 (by kernel_rfl) ?_
  refine Held.op_call 12 (some 47) 15 #[.agg #[.bool db, .int .i64 kb, .int .i64 vb, .int .i64 sb], .agg #[.bool da, .int .i64 ka, .int .i64 va, .int .i64 sa]] rfl rfl rfl rfl (enters_of Try.func15 (by kernel_rfl) rfl) (by simp [Act.eval])
    (before_any db kb vb sb da ka va sa hkb hsb hka hsa _) ?_
  rintro e w3 ⟨rfl, b3⟩
  have c0_3 := c0_2.trans (b3.mono c0_2.size)
  refine ⟨_, rfl, c0_3, ?_⟩
  simp only [Act.put, List.setIfInBounds_toArray, List.set_cons_zero, List.set_cons_succ]
  refine Held.take (v := .int .u64 x12) 13 (some 48) rfl rfl (by kernel_rfl) (by kernel_rfl) (by kernel_rfl) (fun _ _ _ h => h) rfl (Held.y_int rfl rfl rfl (Held.run_add 35 .u64 (hx12))) c0_3 ?_
  simp only [Act.put, List.setIfInBounds_toArray, List.set_cons_zero, List.set_cons_succ]
  refine Held.take (v := .bool false) 14 (some 49) rfl rfl (by kernel_rfl) (by kernel_rfl) (by kernel_rfl) (fun _ _ _ h => h) rfl (Held.y_gtr rfl rfl rfl (by simpa using hx12b)) c0_3 ?_
  simp only [Act.put, List.setIfInBounds_toArray, List.set_cons_zero, List.set_cons_succ]
  refine Held.take (v := .bool false) 15 (some 50) rfl rfl (by kernel_rfl) (by kernel_rfl) (by kernel_rfl) (fun _ _ _ h => h) rfl (Held.y_pickF rfl rfl rfl) c0_3 ?_
  simp only [Act.put, List.setIfInBounds_toArray, List.set_cons_zero, List.set_cons_succ]
  refine Held.take (v := .bool false) 16 (some 51) rfl rfl (by kernel_rfl) (by kernel_rfl) (by kernel_rfl) (fun _ _ _ h => h) rfl (Held.y_move rfl rfl) c0_3 ?_
  simp only [Act.put, List.setIfInBounds_toArray, List.set_cons_zero, List.set_cons_succ]
  refine Held.take (v := .agg #[.bool da, .int .i64 ka, .int .i64 va, .int .i64 sa]) 17 (some 52) rfl rfl (by kernel_rfl) (by kernel_rfl) (by kernel_rfl) (fun _ _ _ h => h) rfl (Held.y_load_blk (n := 4) rfl rfl Try.underlying23 rfl (by kernel_rfl) rfl (fun W hW => qa.below hW qa.lt)) c0_3 ?_
  simp only [Act.put, List.setIfInBounds_toArray, List.set_cons_zero, List.set_cons_succ]
  refine Held.take (v := .agg #[.bool db, .int .i64 kb, .int .i64 vb, .int .i64 sb]) 18 (some 53) rfl rfl (by kernel_rfl) (by kernel_rfl) (by kernel_rfl) (fun _ _ _ h => h) rfl (Held.y_load_blk (n := 4) rfl rfl Try.underlying23 rfl (by kernel_rfl) rfl (fun W hW => qb.below hW qb.lt)) c0_3 ?_
  simp only [Act.put, List.setIfInBounds_toArray, List.set_cons_zero, List.set_cons_succ]
  refine Held.take (v := .agg #[.bool db, .int .i64 kb, .int .i64 vb, .int .i64 sb]) 20 (some 55) rfl rfl (by kernel_rfl) (by kernel_rfl) (by kernel_rfl) (fun _ _ _ h => h) rfl (Held.y_load_blk (n := 4) rfl rfl Try.underlying23 rfl (by kernel_rfl) rfl (fun W hW => qb.below hW qb.lt)) c0_3 ?_
  simp only [Act.put, List.setIfInBounds_toArray, List.set_cons_zero, List.set_cons_succ]
  refine Held.take (v := .agg #[.bool da, .int .i64 ka, .int .i64 va, .int .i64 sa]) 21 (some 56) rfl rfl (by kernel_rfl) (by kernel_rfl) (by kernel_rfl) (fun _ _ _ h => h) rfl (Held.y_load_blk (n := 4) rfl rfl Try.underlying23 rfl (by kernel_rfl) rfl (fun W hW => qa.below hW qa.lt)) c0_3 ?_
  simp only [Act.put, List.setIfInBounds_toArray, List.set_cons_zero, List.set_cons_succ]
  refine Held.one 19 (by kernel_rfl) ?_
  refine Held.op_call 19 (some 54) 17 #[.agg #[.bool da, .int .i64 ka, .int .i64 va, .int .i64 sa], .agg #[.bool db, .int .i64 kb, .int .i64 vb, .int .i64 sb]] rfl rfl rfl rfl (enters_of Try.func17 (by kernel_rfl) rfl) (by simp [Act.eval])
    (ahead_any da ka va sa db kb vb sb hka hsa hkb hsb _) ?_
  rintro e w4 ⟨rfl, b4⟩
  have c0_4 := c0_3.trans (b4.mono c0_3.size)
  refine ⟨_, rfl, c0_4, ?_⟩
  simp only [Act.put, List.setIfInBounds_toArray, List.set_cons_zero, List.set_cons_succ]
  refine Held.one 22 (by kernel_rfl) ?_
  refine Held.op_call 22 (some 57) 17 #[.agg #[.bool db, .int .i64 kb, .int .i64 vb, .int .i64 sb], .agg #[.bool da, .int .i64 ka, .int .i64 va, .int .i64 sa]] rfl rfl rfl rfl (enters_of Try.func17 (by kernel_rfl) rfl) (by simp [Act.eval])
    (ahead_any db kb vb sb da ka va sa hkb hsb hka hsa _) ?_
  rintro e w5 ⟨rfl, b5⟩
  have c0_5 := c0_4.trans (b5.mono c0_4.size)
  refine ⟨_, rfl, c0_5, ?_⟩
  simp only [Act.put, List.setIfInBounds_toArray, List.set_cons_zero, List.set_cons_succ]
  refine Held.take (v := .int .u64 y12) 23 (some 58) rfl rfl (by kernel_rfl) (by kernel_rfl) (by kernel_rfl) (fun _ _ _ h => h) rfl (Held.y_int rfl rfl rfl (Held.run_add 35 .u64 (hy12))) c0_5 ?_
  simp only [Act.put, List.setIfInBounds_toArray, List.set_cons_zero, List.set_cons_succ]
  refine Held.take (v := .bool false) 24 (some 59) rfl rfl (by kernel_rfl) (by kernel_rfl) (by kernel_rfl) (fun _ _ _ h => h) rfl (Held.y_gtr rfl rfl rfl (by simpa using hy12b)) c0_5 ?_
  simp only [Act.put, List.setIfInBounds_toArray, List.set_cons_zero, List.set_cons_succ]
  refine Held.take (v := .bool false) 25 (some 60) rfl rfl (by kernel_rfl) (by kernel_rfl) (by kernel_rfl) (fun _ _ _ h => h) rfl (Held.y_pickF rfl rfl rfl) c0_5 ?_
  simp only [Act.put, List.setIfInBounds_toArray, List.set_cons_zero, List.set_cons_succ]
  refine wpAnyH_done (by kernel_rfl) ?_ _
  have f6 := f5.trans (c0_5.mono f5.size)
  have qa := qa.after c0_5
  have qb := qb.after c0_5
  have qc := qc.after c0_5
  generalize w5 = wN at f6 qa qb qc ⊢
  clear f5 qw
  obtain ⟨p, hp⟩ : ∃ p, bef da ka sa db kb sb = p := ⟨_, rfl⟩
  obtain ⟨q, hq⟩ : ∃ q, bef db kb sb dc kc sc = q := ⟨_, rfl⟩
  obtain ⟨r, hr⟩ : ∃ r, bef da ka sa dc kc sc = r := ⟨_, rfl⟩
  obtain ⟨s, hs⟩ : ∃ s, ahd da ka db kb = s := ⟨_, rfl⟩
  have h1 : p = true → q = true → r = true := fun e1 e2 => by rw [← hr]; exact bef_row da ka sa db kb sb dc kc sc (hp.trans e1) (hq.trans e2)
  have h2 : s = true → p = true := fun e => by rw [← hp]; exact ahd_bef da ka sa db kb sb (hs.trans e)
  have hab := before_any da ka va sa db kb vb sb hka hsa hkb hsb
  have hbc := before_any db kb vb sb dc kc vc sc hkb hsb hkc hsc
  have hac := before_any da ka va sa dc kc vc sc hka hsa hkc hsc
  have hah := ahead_any da ka va sa db kb vb sb hka hsa hkb hsb
  rw [hp] at hab
  rw [hq] at hbc
  rw [hr] at hac
  rw [hs] at hah
  clear hp hq hr hs hx12 hy12 hx12b hy12b hpick hodd
  cases p <;> cases q <;> cases r <;> cases s
  all_goals try (exfalso; first | exact absurd (h1 rfl rfl) (by decide) | exact absurd (h2 rfl) (by decide))
  all_goals
    simp only [show oneI true = 1 from rfl, show oneI false = 0 from rfl] at hab hbc hac hah
    clear h1 h2
    iterate 6
      go_wp2_with (first
      | (refine wpList_load_blk (w := wN) rfl 23 _ rfl u.heap.size 4 rfl 23 _ qa _ Try.underlying23 rfl (by kernel_rfl) rfl ?_)
      | (refine wpList_load_blk (w := wN) rfl 23 _ rfl u1.heap.size 4 rfl 23 _ qb _ Try.underlying23 rfl (by kernel_rfl) rfl ?_)
      | (refine wpList_load_blk (w := wN) rfl 23 _ rfl u2.heap.size 4 rfl 23 _ qc _ Try.underlying23 rfl (by kernel_rfl) rfl ?_))
      first
        | (refine (hab _).mono ?_; rintro e wN ⟨rfl, bN⟩; have qa := qa.after bN; have qb := qb.after bN; have qc := qc.after bN; have f6 := f6.trans (bN.mono f6.size))
        | (refine (hbc _).mono ?_; rintro e wN ⟨rfl, bN⟩; have qa := qa.after bN; have qb := qb.after bN; have qc := qc.after bN; have f6 := f6.trans (bN.mono f6.size))
        | (refine (hac _).mono ?_; rintro e wN ⟨rfl, bN⟩; have qa := qa.after bN; have qb := qb.after bN; have qc := qc.after bN; have f6 := f6.trans (bN.mono f6.size))
        | (refine (hah _).mono ?_; rintro e wN ⟨rfl, bN⟩; have qa := qa.after bN; have qb := qb.after bN; have qc := qc.after bN; have f6 := f6.trans (bN.mono f6.size))
        | skip
    go_ret
    exact ⟨rfl, f6⟩

theorem start (da : Bool) (ka va sa : Int) (db : Bool) (kb vb sb : Int) (dc : Bool) (kc vc sc : Int) (n : Int) (u : World) (hka : (Lit.int .i64 ka).wf = true) (hva : (Lit.int .i64 va).wf = true) (hsa : (Lit.int .i64 sa).wf = true) (hkb : (Lit.int .i64 kb).wf = true) (hvb : (Lit.int .i64 vb).wf = true) (hsb : (Lit.int .i64 sb).wf = true) (hkc : (Lit.int .i64 kc).wf = true) (hvc : (Lit.int .i64 vc).wf = true) (hsc : (Lit.int .i64 sc).wf = true) (hn : (Lit.int .u64 n).wf = true) :
    Calls Try.prog 5 #[.agg #[.bool da, .int .i64 ka, .int .i64 va, .int .i64 sa], .agg #[.bool db, .int .i64 kb, .int .i64 vb, .int .i64 sb], .agg #[.bool dc, .int .i64 kc, .int .i64 vc, .int .i64 sc], .int .u64 n] u fun e u' => e = .returned (.bool true) ∧ Below u.heap.size u u' := by
  have hn' := wf_u64 hn
  have hpk := fun W => pick_any n da ka va sa db kb vb sb hn hka hva hsa hkb hvb hsb W
  by_cases h : n % 2 = 1
  · refine start_odd da ka va sa db kb vb sb dc kc vc sc n u hka hva hsa hkb hvb hsb hkc hvc hsc hn ?_ (fun W => ?_)
    · rw [and_one n hn'.1 (by omega), h]; rfl
    · have := hpk W
      rwa [pick_odd n da ka va sa db kb vb sb h] at this
  · refine start_even da ka va sa db kb vb sb dc kc vc sc n u hka hva hsa hkb hvb hsb hkc hvc hsc hn ?_ (fun W => ?_)
    · rw [and_one n hn'.1 (by omega)]; simpa using h
    · have := hpk W
      rwa [pick_even n da ka va sa db kb vb sb h] at this

theorem walk (rd0 : Bool) (rk0 rv0 rs0 : Int) (rd1 : Bool) (rk1 rv1 rs1 : Int) (rd2 : Bool) (rk2 rv2 rs2 : Int) (a3 : Int) (w : World) (wk0 : (Lit.int .i64 rk0).wf = true) (wv0 : (Lit.int .i64 rv0).wf = true) (ws0 : (Lit.int .i64 rs0).wf = true) (wk1 : (Lit.int .i64 rk1).wf = true) (wv1 : (Lit.int .i64 rv1).wf = true) (ws1 : (Lit.int .i64 rs1).wf = true) (wk2 : (Lit.int .i64 rk2).wf = true) (wv2 : (Lit.int .i64 rv2).wf = true) (ws2 : (Lit.int .i64 rs2).wf = true) (w3 : (Lit.int .u64 a3).wf = true) :
    Calls Try.prog 5 #[.agg #[.bool rd0, .int .i64 rk0, .int .i64 rv0, .int .i64 rs0], .agg #[.bool rd1, .int .i64 rk1, .int .i64 rv1, .int .i64 rs1], .agg #[.bool rd2, .int .i64 rk2, .int .i64 rv2, .int .i64 rs2], .int .u64 a3] w fun e w' => e = .returned (.bool true) ∧ Below w.heap.size w w' := by
  exact start rd0 rk0 rv0 rs0 rd1 rk1 rv1 rs1 rd2 rk2 rv2 rs2 a3 w wk0 wv0 ws0 wk1 wv1 ws1 wk2 wv2 ws2 w3

set_option maxRecDepth 100000 in
theorem lifted (os : Os) (started : os.Started) (H : Type) (enc : TypeId × Value → H) :
    ReturnsInHanded {} Try.checked os 5 .any (Rows.recordOrderSpec.pre6 enc Try.prog Try.f5 Rows.recordOrderRow.domain false) (Rows.recordOrderSpec.post enc Try.prog Try.f5 false true false false) := by
  refine returnsInHanded_of_change (C := Try.checked) own started (by kernel_rfl) Try.func5
    (ChangeSpec.witness6 (enc := enc) (C := Try.checked) false ⟨#[], #[.agg #[.bool false, .int .i64 0, .int .i64 0, .int .i64 0], .agg #[.bool false, .int .i64 0, .int .i64 0, .int .i64 0], .agg #[.bool false, .int .i64 0, .int .i64 0, .int .i64 0], .int .u64 0], []⟩ 8 (by kernel_rfl) (by kernel_rfl) (by kernel_rfl) (by kernel_rfl)) ?_
  intro W base args ds gs before hval0 hW hcnd _
  have hval : ∀ (j : Nat) t v, Try.f5.params[j]? = some t → args[j]? = some v → Value.okWide Try.prog W .any base t v := hval0
  have hW' := hW
  obtain ⟨p, q, hA0, hV, rfl, hfz, hnd⟩ := hW
  have hA : DataW.TrodAll enc Try.prog W 0 (fun _ => true) true Try.f5.params.toList args.toList ds p := hA0
  rw [Try.params5] at hA hval
  obtain ⟨v0, vs0, d0, ds0, p0, q0, hargs, rfl, rfl, h0, r0⟩ := trodAll_cons hA
  obtain ⟨v1, vs1, d1, ds1, p1, q1, rfl, rfl, rfl, h1, r1⟩ := trodAll_cons r0
  obtain ⟨v2, vs2, d2, ds2, p2, q2, rfl, rfl, rfl, h2, r2⟩ := trodAll_cons r1
  obtain ⟨v3, vs3, d3, ds3, p3, q3, rfl, rfl, rfl, h3, r3⟩ := trodAll_cons r2
  obtain ⟨rfl, rfl, rfl⟩ := trodAll_nil r3
  obtain rfl : args = #[v0, v1, v2, v3] := by cases args; simp_all
  obtain ⟨rfl, rfl⟩ := trodVars_none hV
  have kk0 := h0
  have lt0 : ∀ x ∈ p0, x.block < W.heap.size := by obtain ⟨m, hm⟩ := kk0; exact DataW.trod_lt m _ _ _ hm
  obtain ⟨rd0, rk0, rv0, rs0, rfl, wk0, wv0, ws0⟩ := Rc.open_rec (hval 0 23 v0 rfl rfl) h0
  have kk1 := h1
  have lt1 : ∀ x ∈ p1, x.block < W.heap.size := by obtain ⟨m, hm⟩ := kk1; exact DataW.trod_lt m _ _ _ hm
  obtain ⟨rd1, rk1, rv1, rs1, rfl, wk1, wv1, ws1⟩ := Rc.open_rec (hval 1 23 v1 rfl rfl) h1
  have kk2 := h2
  have lt2 : ∀ x ∈ p2, x.block < W.heap.size := by obtain ⟨m, hm⟩ := kk2; exact DataW.trod_lt m _ _ _ hm
  obtain ⟨rd2, rk2, rv2, rs2, rfl, wk2, wv2, ws2⟩ := Rc.open_rec (hval 2 23 v2 rfl rfl) h2
  obtain ⟨a3, rfl, rfl, rfl, w3⟩ := open_int Try.underlying35 (hval 3 35 v3 rfl rfl) h3
  clear hA0 hval0
  refine (walk rd0 rk0 rv0 rs0 rd1 rk1 rv1 rs1 rd2 rk2 rv2 rs2 a3 W wk0 wv0 ws0 wk1 wv1 ws1 wk2 wv2 ws2 w3).mono fun e W' ⟨he, bel⟩ => ?_
  subst he
  exact ⟨_, rfl, _, _, _, [], _, [], hW', trodAll_mk1 (shut_bool Try.underlying4 _), (trodAll_cons_mk (Below.trod laidOut (by kernel_rfl) (of_decide_eq_true (by kernel_rfl)) kk0 bel lt0) (trodAll_cons_mk (Below.trod laidOut (by kernel_rfl) (of_decide_eq_true (by kernel_rfl)) kk1 bel lt1) (trodAll_cons_mk (Below.trod laidOut (by kernel_rfl) (of_decide_eq_true (by kernel_rfl)) kk2 bel lt2) (trodAll_cons_mk (shut_int Try.underlying35 w3) trodAll_mk0)))), rfl, bel.frame _, fun h => by cases h⟩

theorem over : Rows.recordOrderRow.holds Try.pinned (OpenSpec.ofChange Rows.recordOrderSpec) :=
  OpenClaim.holds_of_wide 5 Try.f5 rfl rfl rfl rfl rfl rfl rfl ⟨rfl, rfl, rfl, rfl, rfl⟩ rfl rfl rfl rfl rfl (by kernel_rfl) Try.func5 (by kernel_rfl)
    (of_decide_eq_true (by kernel_rfl)) (by unfold Func.isWrapper; first | (rw [if_pos (by decide +kernel)]; kernel_rfl) | (rw [if_neg (by decide +kernel)]; exact ⟨rfl, rfl⟩))
    (fun os started H enc _ => lifted os started H enc)

/-- the statement -/
theorem proved : Rows.RecordOrderSaid :=
  over
#print axioms proved
end Go.Proofs.Ytdfnacnklmmjhaa.recordOrder
