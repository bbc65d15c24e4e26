/-
  Package record's Dead, rowOf, record, Pick, by their contracts.
  A range over a function whose iterator makes what it hands out (new blocks), keeps no cells of its own and whose body never leaves early: what the iterator is told of the rounds, and what the loop owes: no program here.
  s[l:h] of a slice at a block's start, and what it reads as: no program here.
  Package record's words, put, number and mayBe, by their contracts.
  Package record's mayBe, and its iterator over words, by their contracts.
-/
import Derived.Test.YtlinmcgmkpkpaaaDoorB3
import Derived.StillTailTactics
import Derived.Test.YtlinmcgmkpkpaaaDoorB1
import Derived.Laws.Slices
import Derived.Lib.EndianBits
import Derived.Lib.BufferOwn
set_option linter.unusedVariables false
namespace Go.Proofs.YtlinmcgmkpkpaaaDoor.Rc
open Go.RowKit Go.Shelf Go.Proofs.YtlinmcgmkpkpaaaDoor Mem Help Go.Proofs.YtlinmcgmkpkpaaaDoor.Sum Po Ct Go.Proofs.YtlinmcgmkpkpaaaDoor.Bit Held
attribute [local irreducible] wpList wpListIn Calls
def numbers (d : Bool) (k v s : Int) : List Int := [oneI d, u64 k, u64 v, u64 s]
theorem numbers_length (d : Bool) (k v s : Int) : (numbers d k v s).length = 4 := rfl
theorem numbers_wf (d : Bool) (k v s : Int) : ∀ z ∈ numbers d k v s, (Lit.int .u64 z).wf = true := fun z hz => by
  simp only [numbers, List.mem_cons, List.not_mem_nil, or_false] at hz
  rcases hz with rfl | rfl | rfl | rfl
  · exact one_wf d
  all_goals exact u64_wf _
theorem w64_eq (x : Int) : wrap64 x = IntKind.i64.wrap x := (IntWalk.i64_left x).symm
theorem w64_u64 {x : Int} (hx : (Lit.int .i64 x).wf = true) : wrap64 (u64 x) = x := by rw [w64_eq, i64_u64 hx]
theorem zero_rec : (Tryd.prog.info? 51).bind (·.zero) = some (.agg #[.bool false, .int .i64 0, .int .i64 0, .int .i64 0]) := by kernel_rfl
theorem zero_row : (Tryd.prog.info? 142).bind (·.zero) = some (.agg (arr .u64 (List.replicate 4 0))) := by kernel_rfl
theorem info_row : (Tryd.prog.info? 142).map (·.size) = some 4 := by kernel_rfl
theorem info_rec : (Tryd.prog.info? 51).map (·.size) = some 4 := by kernel_rfl
theorem size_u64 : (Tryd.prog.info? 23).map (·.size) = some 1 := by kernel_rfl
theorem dead_any (w : World) : Calls Tryd.prog 56 #[] w fun e w' => e = .returned (.agg #[.bool true, .int .i64 0, .int .i64 0, .int .i64 0]) ∧ Below w.heap.size w w' := by
  go_enter Tryd.func56, Tryd.ntmps56
  go_wp2_with (first
    | (refine wpList_alloc_blk (w := w) rfl 51 rfl _ zero_rec ?_; intro w1 q1 g1 z1)
    | (refine wpList_build_blk rfl 51 _ rfl #[.bool true, .int .i64 0, .int .i64 0, .int .i64 0] (by kernel_rfl) ?_)
    | (refine wpList_store_blk (w := w1) rfl 51 _ _ rfl w.heap.size 4 rfl 51 _ #[.bool true, .int .i64 0, .int .i64 0, .int .i64 0] rfl q1 info_rec rfl rfl (by kernel_rfl) ?_; intro w2 q2 g2 z2))
  exact bodyPost_ret (results_blk rfl _ _ w.heap.size 4 _ _ rfl q2 _ Tryd.underlying51 rfl info_rec rfl) rfl ⟨rfl, ((Below.refl _ w).grown g1 (Nat.le_refl _) (by simp)).grown g2 g1.size (fun r e => by cases e; exact Nat.le_refl _)⟩
set_option maxRecDepth 100000 in
set_option maxHeartbeats 4000000 in
theorem rowOf_any (da : Bool) (ka va sa : Int) (w : World) :
    Calls Tryd.prog 95 #[.agg #[.bool da, .int .i64 ka, .int .i64 va, .int .i64 sa]] w fun e w' => e = .returned (.agg (arr .u64 (numbers da ka va sa))) ∧ Below w.heap.size w w' := by
  go_enter Tryd.func95, Tryd.ntmps95
  go_wp2_with (first
    | (refine wpList_box_blk (w := w) rfl 51 _ rfl #[.bool da, .int .i64 ka, .int .i64 va, .int .i64 sa] rfl ?_; intro u1 q1 g1 z1)
    | (refine wpList_alloc_Row (w := u1) rfl 142 rfl .u64 4 zero_row ?_; intro u2 r2 g2 z2))
  have bz : Below w.heap.size w u2 := ((Below.refl _ w).grown g1 (Nat.le_refl _) (by simp)).grown g2 g1.size (by simp)
  have l1 := q1.lt
  have q1 := q1.grown g2 (by simp)
  have lz : u1.heap.size ≤ u2.heap.size := g2.size
  have s1 : w.heap.size ≤ u1.heap.size := g1.size
  clear g1 g2 z1 z2
  refine wp_region_held (S := fun W => Below u1.heap.size u2 W) (by kernel_rfl) ?_
  change wpAnyH _ _ _ _ _ _ _ _ u2.drew
  have c0_0 := (Below.refl u2.heap.size u2).drew
  refine Held.tk (v := .pointer (some ⟨w.heap.size, 0, none⟩)) 0 (some 3) rfl (Held.y_field (k := 0) (s := 0) rfl rfl Tryd.underlying51 rfl (by kernel_rfl) rfl) (c0_0.mono lz) ?_
  simp only [Act.put, Z1, Z2, Z3]
  refine Held.tk (v := .bool da) 1 (some 4) rfl (Held.y_load rfl rfl (by kernel_rfl) (fun W hW => (q1.below hW l1).cell rfl)) (c0_0.mono lz) ?_
  simp only [Act.put, Z1, Z2, Z3]
  refine Held.tk (v := .pointer (some ⟨w.heap.size, 1, none⟩)) 3 (some 6) rfl (Held.y_field (k := 1) (s := 0) rfl rfl Tryd.underlying51 rfl (by kernel_rfl) rfl) (c0_0.mono lz) ?_
  simp only [Act.put, Z1, Z2, Z3]
  refine Held.tk (v := .int .i64 ka) 4 (some 7) rfl (Held.y_load rfl rfl (by kernel_rfl) (fun W hW => (q1.below hW l1).cell rfl)) (c0_0.mono lz) ?_
  simp only [Act.put, Z1, Z2, Z3]
  refine Held.tk (v := .int .u64 (u64 ka)) 5 (some 8) rfl (Held.y_convert rfl rfl (by kernel_rfl) Tryd.underlying23 (u64_eq ka)) (c0_0.mono lz) ?_
  simp only [Act.put, Z1, Z2, Z3]
  refine Held.tk (v := .pointer (some ⟨w.heap.size, 2, none⟩)) 6 (some 9) rfl (Held.y_field (k := 2) (s := 0) rfl rfl Tryd.underlying51 rfl (by kernel_rfl) rfl) (c0_0.mono lz) ?_
  simp only [Act.put, Z1, Z2, Z3]
  refine Held.tk (v := .int .i64 va) 7 (some 10) rfl (Held.y_load rfl rfl (by kernel_rfl) (fun W hW => (q1.below hW l1).cell rfl)) (c0_0.mono lz) ?_
  simp only [Act.put, Z1, Z2, Z3]
  refine Held.tk (v := .int .u64 (u64 va)) 8 (some 11) rfl (Held.y_convert rfl rfl (by kernel_rfl) Tryd.underlying23 (u64_eq va)) (c0_0.mono lz) ?_
  simp only [Act.put, Z1, Z2, Z3]
  refine Held.tk (v := .pointer (some ⟨w.heap.size, 3, none⟩)) 9 (some 12) rfl (Held.y_field (k := 3) (s := 0) rfl rfl Tryd.underlying51 rfl (by kernel_rfl) rfl) (c0_0.mono lz) ?_
  simp only [Act.put, Z1, Z2, Z3]
  refine Held.tk (v := .int .i64 sa) 10 (some 13) rfl (Held.y_load rfl rfl (by kernel_rfl) (fun W hW => (q1.below hW l1).cell rfl)) (c0_0.mono lz) ?_
  simp only [Act.put, Z1, Z2, Z3]
  refine Held.tk (v := .int .u64 (u64 sa)) 11 (some 14) rfl (Held.y_convert rfl rfl (by kernel_rfl) Tryd.underlying23 (u64_eq sa)) (c0_0.mono lz) ?_
  simp only [Act.put, Z1, Z2, Z3]
  refine Held.one 2 (by kernel_rfl) ?_
  refine Held.op_call 2 (some 5) 105 #[.bool da] rfl rfl rfl rfl (enters_of Tryd.func105 (by kernel_rfl) rfl) (by simp [Act.eval])
    (one_b da _) ?_
  rintro e w1 ⟨rfl, b1⟩
  have c0_1 := c0_0.trans (b1.mono c0_0.size)
  refine ⟨_, rfl, (c0_1.mono lz), ?_⟩
  simp only [Act.put, Z1, Z2, Z3]
  refine Held.tk (v := .agg (arr .u64 [(oneI da), (u64 ka), (u64 va), (u64 sa)])) 12 (some 15) rfl (Held.y_build rfl (by kernel_rfl)) (c0_1.mono lz) ?_
  simp only [Act.put, Z1, Z2, Z3]
  refine Held.one 13 (by kernel_rfl) ?_
  have r2 := r2.below c0_1 r2.lt
  refine Held.op_store_RowL 13 none 142 u1.heap.size 142 .u64 _ (numbers da ka va sa) rfl rfl rfl rfl rfl rfl r2 4 info_row rfl (by simp) (numbers_wf _ _ _ _) ?_
  intro w2 r2 g2
  have d2 := (bz.trans (c0_1.mono bz.size)).grown g2 (Nat.le_trans bz.size c0_1.size) (fun r e => by cases e; exact s1)
  have c2 := (c0_1.mono lz).grown g2 (Nat.le_trans lz c0_1.size) (fun r e => by cases e; exact Nat.le_refl _)
  refine ⟨c2, ?_⟩
  simp only [Act.put]
  refine wpAnyH_done (by kernel_rfl) ?_ _
  go_wp2_with fail
  exact bodyPost_ret (results_Row rfl _ _ u1.heap.size _ _ _ rfl r2 4 23 Tryd.underlying142 info_row rfl) rfl ⟨rfl, d2⟩
set_option maxRecDepth 100000 in
set_option maxHeartbeats 4000000 in
theorem record_any (n0 n1 n2 n3 : Int) (hw : ∀ z ∈ [n0, n1, n2, n3], (Lit.int .u64 z).wf = true) (w : World) :
    Calls Tryd.prog 97 #[.agg (arr .u64 [n0, n1, n2, n3])] w fun e w' => e = .returned (.agg #[.bool (n0 == 1), .int .i64 (wrap64 n1), .int .i64 (wrap64 n2), .int .i64 (wrap64 n3)]) ∧ Below w.heap.size w w' := by
  go_enter Tryd.func97, Tryd.ntmps97
  go_wp2_with (first
    | (refine wpList_box_Row (w := w) rfl 142 _ rfl .u64 [n0, n1, n2, n3] rfl hw ?_; intro w1 r1 g1 z1)
    | (refine wpList_alloc_blk (w := w1) rfl 51 rfl _ zero_rec ?_; intro w2 q2 g2 z2; have r2 := r1.grown g2 (by simp); have c0 := r2.cell (i := 0) (by simp); have c1 := r2.cell (i := 1) (by simp); have c2 := r2.cell (i := 2) (by simp); have c3 := r2.cell (i := 3) (by simp); simp only [List.getD_cons_zero, List.getD_cons_succ] at c0 c1 c2 c3)
    | (refine wpList_build_blk rfl 51 _ rfl #[.bool (n0 == 1), .int .i64 (wrap64 n1), .int .i64 (wrap64 n2), .int .i64 (wrap64 n3)] (by kernel_rfl) ?_)
    | (refine wpList_store_blk (w := w2) rfl 51 _ _ rfl w1.heap.size 4 rfl 51 _ #[.bool (n0 == 1), .int .i64 (wrap64 n1), .int .i64 (wrap64 n2), .int .i64 (wrap64 n3)] rfl q2 info_rec rfl rfl (by kernel_rfl) ?_; intro w3 q3 g3 z3))
  exact bodyPost_ret (results_blk rfl _ _ w1.heap.size 4 _ _ rfl q3 _ Tryd.underlying51 rfl info_rec rfl) rfl ⟨rfl, (((Below.refl _ w).grown g1 (Nat.le_refl _) (by simp)).grown g2 g1.size (by simp)).grown g3 (Nat.le_trans g1.size g2.size) (fun r e => by cases e; exact g1.size)⟩
theorem record_back (d : Bool) (k v s : Int) (hk : (Lit.int .i64 k).wf = true) (hv : (Lit.int .i64 v).wf = true) (hs : (Lit.int .i64 s).wf = true) (w : World) :
    Calls Tryd.prog 97 #[.agg (arr .u64 (numbers d k v s))] w fun e w' => e = .returned (.agg #[.bool d, .int .i64 k, .int .i64 v, .int .i64 s]) ∧ Below w.heap.size w w' := by
  have := record_any (oneI d) (u64 k) (u64 v) (u64 s) (numbers_wf d k v s) w
  rw [w64_u64 hk, w64_u64 hv, w64_u64 hs, show (oneI d == 1) = d by cases d <;> rfl] at this
  exact this
theorem pick_0 (c x y : Int) (hc : (Lit.int .u64 c).wf = true) (hx : (Lit.int .u64 x).wf = true) (hy : (Lit.int .u64 y).wf = true) (w : World) :
    Calls Tryd.prog 96 #[.int .u64 c, .int .u64 x, .int .u64 y] w fun e w' => e = .returned (.int .u64 (pickI c x y)) ∧ w = w' := by
  have h0 := wf_u64 hc
  have h1 := wf_u64 hx
  have h2 := wf_u64 hy
  exact Ct.pick_any c x y h0.1 (by omega) h1.1 (by omega) h2.1 (by omega) w
theorem still_of_b {P : Program} {f : FuncId} {args : Array Value} {w : World} {v : Value} (h : Calls P f args w fun e w' => e = .returned v ∧ w = w') : Calls P f args w fun e w' => e = .returned v ∧ w' = w :=
  h.mono fun _ _ ⟨a, b⟩ => ⟨a, b.symm⟩
theorem numbers_at (d : Bool) (k v s : Int) (i : Nat) : (Lit.int .u64 ((numbers d k v s).getD i 0)).wf = true := by
  by_cases h : i < 4
  · rw [List.getD_eq_getElem?_getD, List.getElem?_eq_getElem (by rw [numbers_length]; exact h)]
    exact numbers_wf d k v s _ (List.getElem_mem _)
  · rw [List.getD_eq_getElem?_getD, List.getElem?_eq_none (by rw [numbers_length]; omega)]
    rfl
theorem pick_wf {c x y : Int} (hc : (Lit.int .u64 c).wf = true) (hx : (Lit.int .u64 x).wf = true) (hy : (Lit.int .u64 y).wf = true) : (Lit.int .u64 (pickI c x y)).wf = true := by
  unfold pickI
  split
  · exact hx
  · exact hy
def pickV (c : Int) (a b : Array Value) : Array Value := if c % 2 = 1 then a else b
theorem pickV_size {c : Int} {a b : Array Value} {n : Nat} (ha : a.size = n) (hb : b.size = n) : (pickV c a b).size = n := by
  unfold pickV
  split
  · exact ha
  · exact hb
theorem pickV_one {c : Int} {a b : Array Value} (ha : a.all (·.oneCell') = true) (hb : b.all (·.oneCell') = true) : (pickV c a b).all (·.oneCell') = true := by
  unfold pickV
  split
  · exact ha
  · exact hb
def picked (c : Int) (da : Bool) (ka va sa : Int) (db : Bool) (kb vb sb : Int) : List Int := [pickI c (oneI da) (oneI db), pickI c (u64 ka) (u64 kb), pickI c (u64 va) (u64 vb), pickI c (u64 sa) (u64 sb)]
theorem picked_get (c : Int) (da : Bool) (ka va sa : Int) (db : Bool) (kb vb sb : Int) {i : Nat} (h : i < 4) : (picked c da ka va sa db kb vb sb).getD i 0 = pickI c ((numbers da ka va sa).getD i 0) ((numbers db kb vb sb).getD i 0) := by
  match i, h with
  | 0, _ => rfl
  | 1, _ => rfl
  | 2, _ => rfl
  | 3, _ => rfl
theorem picked_eq (c : Int) (da : Bool) (ka va sa : Int) (db : Bool) (kb vb sb : Int) : picked c da ka va sa db kb vb sb = if c % 2 = 1 then numbers da ka va sa else numbers db kb vb sb := by
  unfold picked numbers pickI
  split <;> rfl
theorem picked_back (c : Int) (da : Bool) (ka va sa : Int) (db : Bool) (kb vb sb : Int) (hka : (Lit.int .i64 ka).wf = true) (hva : (Lit.int .i64 va).wf = true) (hsa : (Lit.int .i64 sa).wf = true) (hkb : (Lit.int .i64 kb).wf = true) (hvb : (Lit.int .i64 vb).wf = true) (hsb : (Lit.int .i64 sb).wf = true) (w : World) :
    Calls Tryd.prog 97 #[.agg (arr .u64 (picked c da ka va sa db kb vb sb))] w fun e w' => e = .returned (.agg (pickV c #[.bool da, .int .i64 ka, .int .i64 va, .int .i64 sa] #[.bool db, .int .i64 kb, .int .i64 vb, .int .i64 sb])) ∧ Below w.heap.size w w' := by
  rw [picked_eq]
  unfold pickV
  split
  · exact record_back da ka va sa hka hva hsa w
  · exact record_back db kb vb sb hkb hvb hsb w
set_option maxRecDepth 100000 in
set_option maxHeartbeats 4000000 in
theorem pick_any (c : Int) (da : Bool) (ka va sa : Int) (db : Bool) (kb vb sb : Int) (hc : (Lit.int .u64 c).wf = true) (hka : (Lit.int .i64 ka).wf = true) (hva : (Lit.int .i64 va).wf = true) (hsa : (Lit.int .i64 sa).wf = true) (hkb : (Lit.int .i64 kb).wf = true) (hvb : (Lit.int .i64 vb).wf = true) (hsb : (Lit.int .i64 sb).wf = true) (w : World) :
    Calls Tryd.prog 76 #[.int .u64 c, .agg #[.bool da, .int .i64 ka, .int .i64 va, .int .i64 sa], .agg #[.bool db, .int .i64 kb, .int .i64 vb, .int .i64 sb]] w fun e w' => e = .returned (.agg (pickV c #[.bool da, .int .i64 ka, .int .i64 va, .int .i64 sa] #[.bool db, .int .i64 kb, .int .i64 vb, .int .i64 sb])) ∧ Below w.heap.size w w' := by
  go_enter Tryd.func76, Tryd.ntmps76
  go_wp2_with (first
    | (refine wpList_box_blk (w := w) rfl 51 _ rfl #[.bool da, .int .i64 ka, .int .i64 va, .int .i64 sa] rfl ?_; intro wa qa ga za)
    | (refine wpList_box_blk (w := wa) rfl 51 _ rfl #[.bool db, .int .i64 kb, .int .i64 vb, .int .i64 sb] rfl ?_; intro wb qb gb zb)
    | (refine wpList_alloc_blk (w := wb) rfl 51 rfl _ zero_rec ?_; intro wc qc gc zc))
  have bz : Below w.heap.size w wc := (((Below.refl _ w).grown ga (Nat.le_refl _) (by simp)).grown gb ga.size (by simp)).grown gc (Nat.le_trans ga.size gb.size) (by simp)
  have qa := (qa.grown gb (by simp)).grown gc (by simp)
  have qb := qb.grown gc (by simp)
  have hsw : w.heap.size ≤ wb.heap.size := Nat.le_trans ga.size gb.size
  clear ga gb gc za zb zc
  refine wp_mono (Q := fun e a' w' => e = .normal ∧ ∃ p4 p5, a' = { tmps := #[.int .u64 c, .agg #[.bool da, .int .i64 ka, .int .i64 va, .int .i64 sa], .agg #[.bool db, .int .i64 kb, .int .i64 vb, .int .i64 sb], undef, .pointer (some ⟨w.heap.size, 0, none⟩), .pointer (some ⟨wa.heap.size, 0, none⟩), .pointer (some ⟨wb.heap.size, 0, none⟩), .pointer (some ⟨p4, 0, none⟩), .pointer (some ⟨p5, 0, none⟩), undef, .agg #[.bool da, .int .i64 ka, .int .i64 va, .int .i64 sa], .agg (arr .u64 (numbers da ka va sa)), .agg #[.bool db, .int .i64 kb, .int .i64 vb, .int .i64 sb], .agg (arr .u64 (numbers db kb vb sb)), undef, undef, undef, undef, undef, undef, undef, undef, undef, undef, undef, undef, undef, undef, undef, undef], defers := [] } ∧ Row w' p4 142 .u64 (numbers da ka va sa) ∧ Row w' p5 142 .u64 (numbers db kb vb sb) ∧ p4 ≠ p5 ∧ wc.heap.size ≤ p4 ∧ Below wc.heap.size wc w') ?_ ?_
  · refine wp_region_held (S := fun W => Below wc.heap.size wc W) (by kernel_rfl) ?_
    change wpAnyH _ _ _ _ _ _ _ _ wc.drew
    have c0_0 := (Below.refl wc.heap.size wc).drew
    refine Held.take (v := .agg #[.bool da, .int .i64 ka, .int .i64 va, .int .i64 sa]) 0 (some 10) rfl rfl (by kernel_rfl) (by kernel_rfl) (by kernel_rfl) (fun _ _ _ h => by cases h.1) rfl (Held.y_load_blk (n := 4) rfl rfl Tryd.underlying51 rfl (by kernel_rfl) rfl (fun W hW => qa.below hW qa.lt)) c0_0 ?_
    simp only [Act.put, Z1, Z2, Z3]
    refine Held.take (v := .agg #[.bool db, .int .i64 kb, .int .i64 vb, .int .i64 sb]) 2 (some 12) rfl rfl (by kernel_rfl) (by kernel_rfl) (by kernel_rfl) (fun _ _ _ h => by cases h.1) rfl (Held.y_load_blk (n := 4) rfl rfl Tryd.underlying51 rfl (by kernel_rfl) rfl (fun W hW => qb.below hW qb.lt)) c0_0 ?_
    simp only [Act.put, Z1, Z2, Z3]
    refine Held.three 1 4 5 (by kernel_rfl) ?_ ?_ ?_
    · refine Held.op_call 1 (some 11) 95 #[.agg #[.bool da, .int .i64 ka, .int .i64 va, .int .i64 sa]] rfl rfl rfl rfl (enters_of Tryd.func95 (by kernel_rfl) rfl) (by simp [Act.eval])
        (rowOf_any da ka va sa _) ?_
      rintro e w1 ⟨rfl, b1⟩
      have c0_1 := c0_0.trans (b1.mono c0_0.size)
      refine ⟨_, rfl, c0_1, ?_⟩
      simp only [Act.put, Z1, Z2, Z3]
      refine Held.three 3 4 5 (by kernel_rfl) ?_ ?_ ?_
      · refine Held.op_call 3 (some 13) 95 #[.agg #[.bool db, .int .i64 kb, .int .i64 vb, .int .i64 sb]] rfl rfl rfl rfl (enters_of Tryd.func95 (by kernel_rfl) rfl) (by simp [Act.eval])
          (rowOf_any db kb vb sb _) ?_
        rintro e w2 ⟨rfl, b2⟩
        have c0_2 := c0_1.trans (b2.mono c0_1.size)
        refine ⟨_, rfl, c0_2, ?_⟩
        simp only [Act.put, Z1, Z2, Z3]
        refine Held.two 4 5 (by kernel_rfl) ?_ ?_
        · refine Held.op_alloc_Row 4 (some 7) 142 .u64 4 rfl rfl rfl rfl zero_row ?_
          intro p4 w3 r4 b3 h4
          have q4 := Nat.le_trans c0_2.size h4.out
          have c0_3 := c0_2.trans (b3.mono c0_2.size)
          refine ⟨c0_3, ?_⟩
          simp only [Act.put, Z1, Z2, Z3]
          refine Held.one 5 (by kernel_rfl) ?_
          refine Held.op_alloc_Row 5 (some 8) 142 .u64 4 rfl rfl rfl rfl zero_row ?_
          intro p5 w4 r5 b4 h5
          have q5 := Nat.le_trans c0_3.size h5.out
          have n4_5 : p4 ≠ p5 := (by have := r4.lt; have := h5.out; intro e; subst e; exact absurd (Nat.lt_of_lt_of_le r4.lt h5.out) (Nat.lt_irrefl _))
          have r4 := r4.below b4 r4.lt
          have c0_4 := c0_3.trans (b4.mono c0_3.size)
          refine ⟨c0_4, ?_⟩
          simp only [Act.put, Z1, Z2, Z3]
          refine Held.one 6 (by kernel_rfl) ?_
          refine Held.op_store_RowL 6 none 142 p4 142 .u64 _ (numbers da ka va sa) rfl rfl rfl rfl rfl rfl r4 4 info_row rfl (by simp) (numbers_wf _ _ _ _) ?_
          intro w5 r4 g5
          have c0_5 := c0_4.grown g5 c0_4.size (fun r e => by cases e; exact q4)
          have r5 := r5.grown g5 (by intro e; injection e with e; first | exact (by assumption : p5 ≠ p4) e | exact (by assumption : p4 ≠ p5) e.symm)
          refine ⟨c0_5, ?_⟩
          simp only [Act.put]
          refine Held.one 7 (by kernel_rfl) ?_
          refine Held.op_store_RowL 7 none 142 p5 142 .u64 _ (numbers db kb vb sb) rfl rfl rfl rfl rfl rfl r5 4 info_row rfl (by simp) (numbers_wf _ _ _ _) ?_
          intro w6 r5 g6
          have c0_6 := c0_5.grown g6 c0_5.size (fun r e => by cases e; exact q5)
          have r4 := r4.grown g6 (by intro e; injection e with e; first | exact (by assumption : p4 ≠ p5) e | exact (by assumption : p5 ≠ p4) e.symm)
          refine ⟨c0_6, ?_⟩
          simp only [Act.put]
          refine wpAnyH_done (by kernel_rfl) ?_ _
          exact ⟨rfl, p4, p5, rfl, r4, r5, (by first | assumption | exact Ne.symm (by assumption)), q4, c0_6⟩
        · refine Held.op_alloc_Row 5 (some 8) 142 .u64 4 rfl rfl rfl rfl zero_row ?_
          intro p5 w3 r5 b3 h5
          have q5 := Nat.le_trans c0_2.size h5.out
          have c0_3 := c0_2.trans (b3.mono c0_2.size)
          refine ⟨c0_3, ?_⟩
          simp only [Act.put, Z1, Z2, Z3]
          refine Held.one 4 (by kernel_rfl) ?_
          refine Held.op_alloc_Row 4 (some 7) 142 .u64 4 rfl rfl rfl rfl zero_row ?_
          intro p4 w4 r4 b4 h4
          have q4 := Nat.le_trans c0_3.size h4.out
          have n5_4 : p5 ≠ p4 := (by have := r5.lt; have := h4.out; intro e; subst e; exact absurd (Nat.lt_of_lt_of_le r5.lt h4.out) (Nat.lt_irrefl _))
          have r5 := r5.below b4 r5.lt
          have c0_4 := c0_3.trans (b4.mono c0_3.size)
          refine ⟨c0_4, ?_⟩
          simp only [Act.put, Z1, Z2, Z3]
          refine Held.one 6 (by kernel_rfl) ?_
          refine Held.op_store_RowL 6 none 142 p4 142 .u64 _ (numbers da ka va sa) rfl rfl rfl rfl rfl rfl r4 4 info_row rfl (by simp) (numbers_wf _ _ _ _) ?_
          intro w5 r4 g5
          have c0_5 := c0_4.grown g5 c0_4.size (fun r e => by cases e; exact q4)
          have r5 := r5.grown g5 (by intro e; injection e with e; first | exact (by assumption : p5 ≠ p4) e | exact (by assumption : p4 ≠ p5) e.symm)
          refine ⟨c0_5, ?_⟩
          simp only [Act.put]
          refine Held.one 7 (by kernel_rfl) ?_
          refine Held.op_store_RowL 7 none 142 p5 142 .u64 _ (numbers db kb vb sb) rfl rfl rfl rfl rfl rfl r5 4 info_row rfl (by simp) (numbers_wf _ _ _ _) ?_
          intro w6 r5 g6
          have c0_6 := c0_5.grown g6 c0_5.size (fun r e => by cases e; exact q5)
          have r4 := r4.grown g6 (by intro e; injection e with e; first | exact (by assumption : p4 ≠ p5) e | exact (by assumption : p5 ≠ p4) e.symm)
          refine ⟨c0_6, ?_⟩
          simp only [Act.put]
          refine wpAnyH_done (by kernel_rfl) ?_ _
          exact ⟨rfl, p4, p5, rfl, r4, r5, (by first | assumption | exact Ne.symm (by assumption)), q4, c0_6⟩
      · refine Held.op_alloc_Row 4 (some 7) 142 .u64 4 rfl rfl rfl rfl zero_row ?_
        intro p4 w2 r4 b2 h4
        have q4 := Nat.le_trans c0_1.size h4.out
        have c0_2 := c0_1.trans (b2.mono c0_1.size)
        refine ⟨c0_2, ?_⟩
        simp only [Act.put, Z1, Z2, Z3]
        refine Held.two 3 5 (by kernel_rfl) ?_ ?_
        · refine Held.op_call 3 (some 13) 95 #[.agg #[.bool db, .int .i64 kb, .int .i64 vb, .int .i64 sb]] rfl rfl rfl rfl (enters_of Tryd.func95 (by kernel_rfl) rfl) (by simp [Act.eval])
            (rowOf_any db kb vb sb _) ?_
          rintro e w3 ⟨rfl, b3⟩
          have c0_3 := c0_2.trans (b3.mono c0_2.size)
          have r4 := r4.below b3 r4.lt
          refine ⟨_, rfl, c0_3, ?_⟩
          simp only [Act.put, Z1, Z2, Z3]
          refine Held.one 5 (by kernel_rfl) ?_
          refine Held.op_alloc_Row 5 (some 8) 142 .u64 4 rfl rfl rfl rfl zero_row ?_
          intro p5 w4 r5 b4 h5
          have q5 := Nat.le_trans c0_3.size h5.out
          have n4_5 : p4 ≠ p5 := (by have := r4.lt; have := h5.out; intro e; subst e; exact absurd (Nat.lt_of_lt_of_le r4.lt h5.out) (Nat.lt_irrefl _))
          have r4 := r4.below b4 r4.lt
          have c0_4 := c0_3.trans (b4.mono c0_3.size)
          refine ⟨c0_4, ?_⟩
          simp only [Act.put, Z1, Z2, Z3]
          refine Held.one 6 (by kernel_rfl) ?_
          refine Held.op_store_RowL 6 none 142 p4 142 .u64 _ (numbers da ka va sa) rfl rfl rfl rfl rfl rfl r4 4 info_row rfl (by simp) (numbers_wf _ _ _ _) ?_
          intro w5 r4 g5
          have c0_5 := c0_4.grown g5 c0_4.size (fun r e => by cases e; exact q4)
          have r5 := r5.grown g5 (by intro e; injection e with e; first | exact (by assumption : p5 ≠ p4) e | exact (by assumption : p4 ≠ p5) e.symm)
          refine ⟨c0_5, ?_⟩
          simp only [Act.put]
          refine Held.one 7 (by kernel_rfl) ?_
          refine Held.op_store_RowL 7 none 142 p5 142 .u64 _ (numbers db kb vb sb) rfl rfl rfl rfl rfl rfl r5 4 info_row rfl (by simp) (numbers_wf _ _ _ _) ?_
          intro w6 r5 g6
          have c0_6 := c0_5.grown g6 c0_5.size (fun r e => by cases e; exact q5)
          have r4 := r4.grown g6 (by intro e; injection e with e; first | exact (by assumption : p4 ≠ p5) e | exact (by assumption : p5 ≠ p4) e.symm)
          refine ⟨c0_6, ?_⟩
          simp only [Act.put]
          refine wpAnyH_done (by kernel_rfl) ?_ _
          exact ⟨rfl, p4, p5, rfl, r4, r5, (by first | assumption | exact Ne.symm (by assumption)), q4, c0_6⟩
        · refine Held.op_alloc_Row 5 (some 8) 142 .u64 4 rfl rfl rfl rfl zero_row ?_
          intro p5 w3 r5 b3 h5
          have q5 := Nat.le_trans c0_2.size h5.out
          have n4_5 : p4 ≠ p5 := (by have := r4.lt; have := h5.out; intro e; subst e; exact absurd (Nat.lt_of_lt_of_le r4.lt h5.out) (Nat.lt_irrefl _))
          have r4 := r4.below b3 r4.lt
          have c0_3 := c0_2.trans (b3.mono c0_2.size)
          refine ⟨c0_3, ?_⟩
          simp only [Act.put, Z1, Z2, Z3]
          refine Held.one 3 (by kernel_rfl) ?_
          refine Held.op_call 3 (some 13) 95 #[.agg #[.bool db, .int .i64 kb, .int .i64 vb, .int .i64 sb]] rfl rfl rfl rfl (enters_of Tryd.func95 (by kernel_rfl) rfl) (by simp [Act.eval])
            (rowOf_any db kb vb sb _) ?_
          rintro e w4 ⟨rfl, b4⟩
          have c0_4 := c0_3.trans (b4.mono c0_3.size)
          have r4 := r4.below b4 r4.lt
          have r5 := r5.below b4 r5.lt
          refine ⟨_, rfl, c0_4, ?_⟩
          simp only [Act.put, Z1, Z2, Z3]
          refine Held.one 6 (by kernel_rfl) ?_
          refine Held.op_store_RowL 6 none 142 p4 142 .u64 _ (numbers da ka va sa) rfl rfl rfl rfl rfl rfl r4 4 info_row rfl (by simp) (numbers_wf _ _ _ _) ?_
          intro w5 r4 g5
          have c0_5 := c0_4.grown g5 c0_4.size (fun r e => by cases e; exact q4)
          have r5 := r5.grown g5 (by intro e; injection e with e; first | exact (by assumption : p5 ≠ p4) e | exact (by assumption : p4 ≠ p5) e.symm)
          refine ⟨c0_5, ?_⟩
          simp only [Act.put]
          refine Held.one 7 (by kernel_rfl) ?_
          refine Held.op_store_RowL 7 none 142 p5 142 .u64 _ (numbers db kb vb sb) rfl rfl rfl rfl rfl rfl r5 4 info_row rfl (by simp) (numbers_wf _ _ _ _) ?_
          intro w6 r5 g6
          have c0_6 := c0_5.grown g6 c0_5.size (fun r e => by cases e; exact q5)
          have r4 := r4.grown g6 (by intro e; injection e with e; first | exact (by assumption : p4 ≠ p5) e | exact (by assumption : p5 ≠ p4) e.symm)
          refine ⟨c0_6, ?_⟩
          simp only [Act.put]
          refine wpAnyH_done (by kernel_rfl) ?_ _
          exact ⟨rfl, p4, p5, rfl, r4, r5, (by first | assumption | exact Ne.symm (by assumption)), q4, c0_6⟩
      · refine Held.op_alloc_Row 5 (some 8) 142 .u64 4 rfl rfl rfl rfl zero_row ?_
        intro p5 w2 r5 b2 h5
        have q5 := Nat.le_trans c0_1.size h5.out
        have c0_2 := c0_1.trans (b2.mono c0_1.size)
        refine ⟨c0_2, ?_⟩
        simp only [Act.put, Z1, Z2, Z3]
        refine Held.two 3 4 (by kernel_rfl) ?_ ?_
        · refine Held.op_call 3 (some 13) 95 #[.agg #[.bool db, .int .i64 kb, .int .i64 vb, .int .i64 sb]] rfl rfl rfl rfl (enters_of Tryd.func95 (by kernel_rfl) rfl) (by simp [Act.eval])
            (rowOf_any db kb vb sb _) ?_
          rintro e w3 ⟨rfl, b3⟩
          have c0_3 := c0_2.trans (b3.mono c0_2.size)
          have r5 := r5.below b3 r5.lt
          refine ⟨_, rfl, c0_3, ?_⟩
          simp only [Act.put, Z1, Z2, Z3]
          refine Held.one 4 (by kernel_rfl) ?_
          refine Held.op_alloc_Row 4 (some 7) 142 .u64 4 rfl rfl rfl rfl zero_row ?_
          intro p4 w4 r4 b4 h4
          have q4 := Nat.le_trans c0_3.size h4.out
          have n5_4 : p5 ≠ p4 := (by have := r5.lt; have := h4.out; intro e; subst e; exact absurd (Nat.lt_of_lt_of_le r5.lt h4.out) (Nat.lt_irrefl _))
          have r5 := r5.below b4 r5.lt
          have c0_4 := c0_3.trans (b4.mono c0_3.size)
          refine ⟨c0_4, ?_⟩
          simp only [Act.put, Z1, Z2, Z3]
          refine Held.one 6 (by kernel_rfl) ?_
          refine Held.op_store_RowL 6 none 142 p4 142 .u64 _ (numbers da ka va sa) rfl rfl rfl rfl rfl rfl r4 4 info_row rfl (by simp) (numbers_wf _ _ _ _) ?_
          intro w5 r4 g5
          have c0_5 := c0_4.grown g5 c0_4.size (fun r e => by cases e; exact q4)
          have r5 := r5.grown g5 (by intro e; injection e with e; first | exact (by assumption : p5 ≠ p4) e | exact (by assumption : p4 ≠ p5) e.symm)
          refine ⟨c0_5, ?_⟩
          simp only [Act.put]
          refine Held.one 7 (by kernel_rfl) ?_
          refine Held.op_store_RowL 7 none 142 p5 142 .u64 _ (numbers db kb vb sb) rfl rfl rfl rfl rfl rfl r5 4 info_row rfl (by simp) (numbers_wf _ _ _ _) ?_
          intro w6 r5 g6
          have c0_6 := c0_5.grown g6 c0_5.size (fun r e => by cases e; exact q5)
          have r4 := r4.grown g6 (by intro e; injection e with e; first | exact (by assumption : p4 ≠ p5) e | exact (by assumption : p5 ≠ p4) e.symm)
          refine ⟨c0_6, ?_⟩
          simp only [Act.put]
          refine wpAnyH_done (by kernel_rfl) ?_ _
          exact ⟨rfl, p4, p5, rfl, r4, r5, (by first | assumption | exact Ne.symm (by assumption)), q4, c0_6⟩
        · refine Held.op_alloc_Row 4 (some 7) 142 .u64 4 rfl rfl rfl rfl zero_row ?_
          intro p4 w3 r4 b3 h4
          have q4 := Nat.le_trans c0_2.size h4.out
          have n5_4 : p5 ≠ p4 := (by have := r5.lt; have := h4.out; intro e; subst e; exact absurd (Nat.lt_of_lt_of_le r5.lt h4.out) (Nat.lt_irrefl _))
          have r5 := r5.below b3 r5.lt
          have c0_3 := c0_2.trans (b3.mono c0_2.size)
          refine ⟨c0_3, ?_⟩
          simp only [Act.put, Z1, Z2, Z3]
          refine Held.one 3 (by kernel_rfl) ?_
          refine Held.op_call 3 (some 13) 95 #[.agg #[.bool db, .int .i64 kb, .int .i64 vb, .int .i64 sb]] rfl rfl rfl rfl (enters_of Tryd.func95 (by kernel_rfl) rfl) (by simp [Act.eval])
            (rowOf_any db kb vb sb _) ?_
          rintro e w4 ⟨rfl, b4⟩
          have c0_4 := c0_3.trans (b4.mono c0_3.size)
          have r5 := r5.below b4 r5.lt
          have r4 := r4.below b4 r4.lt
          refine ⟨_, rfl, c0_4, ?_⟩
          simp only [Act.put, Z1, Z2, Z3]
          refine Held.one 6 (by kernel_rfl) ?_
          refine Held.op_store_RowL 6 none 142 p4 142 .u64 _ (numbers da ka va sa) rfl rfl rfl rfl rfl rfl r4 4 info_row rfl (by simp) (numbers_wf _ _ _ _) ?_
          intro w5 r4 g5
          have c0_5 := c0_4.grown g5 c0_4.size (fun r e => by cases e; exact q4)
          have r5 := r5.grown g5 (by intro e; injection e with e; first | exact (by assumption : p5 ≠ p4) e | exact (by assumption : p4 ≠ p5) e.symm)
          refine ⟨c0_5, ?_⟩
          simp only [Act.put]
          refine Held.one 7 (by kernel_rfl) ?_
          refine Held.op_store_RowL 7 none 142 p5 142 .u64 _ (numbers db kb vb sb) rfl rfl rfl rfl rfl rfl r5 4 info_row rfl (by simp) (numbers_wf _ _ _ _) ?_
          intro w6 r5 g6
          have c0_6 := c0_5.grown g6 c0_5.size (fun r e => by cases e; exact q5)
          have r4 := r4.grown g6 (by intro e; injection e with e; first | exact (by assumption : p4 ≠ p5) e | exact (by assumption : p5 ≠ p4) e.symm)
          refine ⟨c0_6, ?_⟩
          simp only [Act.put]
          refine wpAnyH_done (by kernel_rfl) ?_ _
          exact ⟨rfl, p4, p5, rfl, r4, r5, (by first | assumption | exact Ne.symm (by assumption)), q4, c0_6⟩
    · refine Held.op_alloc_Row 4 (some 7) 142 .u64 4 rfl rfl rfl rfl zero_row ?_
      intro p4 w1 r4 b1 h4
      have q4 := Nat.le_trans c0_0.size h4.out
      have c0_1 := c0_0.trans (b1.mono c0_0.size)
      refine ⟨c0_1, ?_⟩
      simp only [Act.put, Z1, Z2, Z3]
      refine Held.two 1 5 (by kernel_rfl) ?_ ?_
      · refine Held.op_call 1 (some 11) 95 #[.agg #[.bool da, .int .i64 ka, .int .i64 va, .int .i64 sa]] rfl rfl rfl rfl (enters_of Tryd.func95 (by kernel_rfl) rfl) (by simp [Act.eval])
          (rowOf_any da ka va sa _) ?_
        rintro e w2 ⟨rfl, b2⟩
        have c0_2 := c0_1.trans (b2.mono c0_1.size)
        have r4 := r4.below b2 r4.lt
        refine ⟨_, rfl, c0_2, ?_⟩
        simp only [Act.put, Z1, Z2, Z3]
        refine Held.two 3 5 (by kernel_rfl) ?_ ?_
        · refine Held.op_call 3 (some 13) 95 #[.agg #[.bool db, .int .i64 kb, .int .i64 vb, .int .i64 sb]] rfl rfl rfl rfl (enters_of Tryd.func95 (by kernel_rfl) rfl) (by simp [Act.eval])
            (rowOf_any db kb vb sb _) ?_
          rintro e w3 ⟨rfl, b3⟩
          have c0_3 := c0_2.trans (b3.mono c0_2.size)
          have r4 := r4.below b3 r4.lt
          refine ⟨_, rfl, c0_3, ?_⟩
          simp only [Act.put, Z1, Z2, Z3]
          refine Held.one 5 (by kernel_rfl) ?_
          refine Held.op_alloc_Row 5 (some 8) 142 .u64 4 rfl rfl rfl rfl zero_row ?_
          intro p5 w4 r5 b4 h5
          have q5 := Nat.le_trans c0_3.size h5.out
          have n4_5 : p4 ≠ p5 := (by have := r4.lt; have := h5.out; intro e; subst e; exact absurd (Nat.lt_of_lt_of_le r4.lt h5.out) (Nat.lt_irrefl _))
          have r4 := r4.below b4 r4.lt
          have c0_4 := c0_3.trans (b4.mono c0_3.size)
          refine ⟨c0_4, ?_⟩
          simp only [Act.put, Z1, Z2, Z3]
          refine Held.one 6 (by kernel_rfl) ?_
          refine Held.op_store_RowL 6 none 142 p4 142 .u64 _ (numbers da ka va sa) rfl rfl rfl rfl rfl rfl r4 4 info_row rfl (by simp) (numbers_wf _ _ _ _) ?_
          intro w5 r4 g5
          have c0_5 := c0_4.grown g5 c0_4.size (fun r e => by cases e; exact q4)
          have r5 := r5.grown g5 (by intro e; injection e with e; first | exact (by assumption : p5 ≠ p4) e | exact (by assumption : p4 ≠ p5) e.symm)
          refine ⟨c0_5, ?_⟩
          simp only [Act.put]
          refine Held.one 7 (by kernel_rfl) ?_
          refine Held.op_store_RowL 7 none 142 p5 142 .u64 _ (numbers db kb vb sb) rfl rfl rfl rfl rfl rfl r5 4 info_row rfl (by simp) (numbers_wf _ _ _ _) ?_
          intro w6 r5 g6
          have c0_6 := c0_5.grown g6 c0_5.size (fun r e => by cases e; exact q5)
          have r4 := r4.grown g6 (by intro e; injection e with e; first | exact (by assumption : p4 ≠ p5) e | exact (by assumption : p5 ≠ p4) e.symm)
          refine ⟨c0_6, ?_⟩
          simp only [Act.put]
          refine wpAnyH_done (by kernel_rfl) ?_ _
          exact ⟨rfl, p4, p5, rfl, r4, r5, (by first | assumption | exact Ne.symm (by assumption)), q4, c0_6⟩
        · refine Held.op_alloc_Row 5 (some 8) 142 .u64 4 rfl rfl rfl rfl zero_row ?_
          intro p5 w3 r5 b3 h5
          have q5 := Nat.le_trans c0_2.size h5.out
          have n4_5 : p4 ≠ p5 := (by have := r4.lt; have := h5.out; intro e; subst e; exact absurd (Nat.lt_of_lt_of_le r4.lt h5.out) (Nat.lt_irrefl _))
          have r4 := r4.below b3 r4.lt
          have c0_3 := c0_2.trans (b3.mono c0_2.size)
          refine ⟨c0_3, ?_⟩
          simp only [Act.put, Z1, Z2, Z3]
          refine Held.one 3 (by kernel_rfl) ?_
          refine Held.op_call 3 (some 13) 95 #[.agg #[.bool db, .int .i64 kb, .int .i64 vb, .int .i64 sb]] rfl rfl rfl rfl (enters_of Tryd.func95 (by kernel_rfl) rfl) (by simp [Act.eval])
            (rowOf_any db kb vb sb _) ?_
          rintro e w4 ⟨rfl, b4⟩
          have c0_4 := c0_3.trans (b4.mono c0_3.size)
          have r4 := r4.below b4 r4.lt
          have r5 := r5.below b4 r5.lt
          refine ⟨_, rfl, c0_4, ?_⟩
          simp only [Act.put, Z1, Z2, Z3]
          refine Held.one 6 (by kernel_rfl) ?_
          refine Held.op_store_RowL 6 none 142 p4 142 .u64 _ (numbers da ka va sa) rfl rfl rfl rfl rfl rfl r4 4 info_row rfl (by simp) (numbers_wf _ _ _ _) ?_
          intro w5 r4 g5
          have c0_5 := c0_4.grown g5 c0_4.size (fun r e => by cases e; exact q4)
          have r5 := r5.grown g5 (by intro e; injection e with e; first | exact (by assumption : p5 ≠ p4) e | exact (by assumption : p4 ≠ p5) e.symm)
          refine ⟨c0_5, ?_⟩
          simp only [Act.put]
          refine Held.one 7 (by kernel_rfl) ?_
          refine Held.op_store_RowL 7 none 142 p5 142 .u64 _ (numbers db kb vb sb) rfl rfl rfl rfl rfl rfl r5 4 info_row rfl (by simp) (numbers_wf _ _ _ _) ?_
          intro w6 r5 g6
          have c0_6 := c0_5.grown g6 c0_5.size (fun r e => by cases e; exact q5)
          have r4 := r4.grown g6 (by intro e; injection e with e; first | exact (by assumption : p4 ≠ p5) e | exact (by assumption : p5 ≠ p4) e.symm)
          refine ⟨c0_6, ?_⟩
          simp only [Act.put]
          refine wpAnyH_done (by kernel_rfl) ?_ _
          exact ⟨rfl, p4, p5, rfl, r4, r5, (by first | assumption | exact Ne.symm (by assumption)), q4, c0_6⟩
      · refine Held.op_alloc_Row 5 (some 8) 142 .u64 4 rfl rfl rfl rfl zero_row ?_
        intro p5 w2 r5 b2 h5
        have q5 := Nat.le_trans c0_1.size h5.out
        have n4_5 : p4 ≠ p5 := (by have := r4.lt; have := h5.out; intro e; subst e; exact absurd (Nat.lt_of_lt_of_le r4.lt h5.out) (Nat.lt_irrefl _))
        have r4 := r4.below b2 r4.lt
        have c0_2 := c0_1.trans (b2.mono c0_1.size)
        refine ⟨c0_2, ?_⟩
        simp only [Act.put, Z1, Z2, Z3]
        refine Held.one 1 (by kernel_rfl) ?_
        refine Held.op_call 1 (some 11) 95 #[.agg #[.bool da, .int .i64 ka, .int .i64 va, .int .i64 sa]] rfl rfl rfl rfl (enters_of Tryd.func95 (by kernel_rfl) rfl) (by simp [Act.eval])
          (rowOf_any da ka va sa _) ?_
        rintro e w3 ⟨rfl, b3⟩
        have c0_3 := c0_2.trans (b3.mono c0_2.size)
        have r4 := r4.below b3 r4.lt
        have r5 := r5.below b3 r5.lt
        refine ⟨_, rfl, c0_3, ?_⟩
        simp only [Act.put, Z1, Z2, Z3]
        refine Held.one 3 (by kernel_rfl) ?_
        refine Held.op_call 3 (some 13) 95 #[.agg #[.bool db, .int .i64 kb, .int .i64 vb, .int .i64 sb]] rfl rfl rfl rfl (enters_of Tryd.func95 (by kernel_rfl) rfl) (by simp [Act.eval])
          (rowOf_any db kb vb sb _) ?_
        rintro e w4 ⟨rfl, b4⟩
        have c0_4 := c0_3.trans (b4.mono c0_3.size)
        have r4 := r4.below b4 r4.lt
        have r5 := r5.below b4 r5.lt
        refine ⟨_, rfl, c0_4, ?_⟩
        simp only [Act.put, Z1, Z2, Z3]
        refine Held.one 6 (by kernel_rfl) ?_
        refine Held.op_store_RowL 6 none 142 p4 142 .u64 _ (numbers da ka va sa) rfl rfl rfl rfl rfl rfl r4 4 info_row rfl (by simp) (numbers_wf _ _ _ _) ?_
        intro w5 r4 g5
        have c0_5 := c0_4.grown g5 c0_4.size (fun r e => by cases e; exact q4)
        have r5 := r5.grown g5 (by intro e; injection e with e; first | exact (by assumption : p5 ≠ p4) e | exact (by assumption : p4 ≠ p5) e.symm)
        refine ⟨c0_5, ?_⟩
        simp only [Act.put]
        refine Held.one 7 (by kernel_rfl) ?_
        refine Held.op_store_RowL 7 none 142 p5 142 .u64 _ (numbers db kb vb sb) rfl rfl rfl rfl rfl rfl r5 4 info_row rfl (by simp) (numbers_wf _ _ _ _) ?_
        intro w6 r5 g6
        have c0_6 := c0_5.grown g6 c0_5.size (fun r e => by cases e; exact q5)
        have r4 := r4.grown g6 (by intro e; injection e with e; first | exact (by assumption : p4 ≠ p5) e | exact (by assumption : p5 ≠ p4) e.symm)
        refine ⟨c0_6, ?_⟩
        simp only [Act.put]
        refine wpAnyH_done (by kernel_rfl) ?_ _
        exact ⟨rfl, p4, p5, rfl, r4, r5, (by first | assumption | exact Ne.symm (by assumption)), q4, c0_6⟩
    · refine Held.op_alloc_Row 5 (some 8) 142 .u64 4 rfl rfl rfl rfl zero_row ?_
      intro p5 w1 r5 b1 h5
      have q5 := Nat.le_trans c0_0.size h5.out
      have c0_1 := c0_0.trans (b1.mono c0_0.size)
      refine ⟨c0_1, ?_⟩
      simp only [Act.put, Z1, Z2, Z3]
      refine Held.two 1 4 (by kernel_rfl) ?_ ?_
      · refine Held.op_call 1 (some 11) 95 #[.agg #[.bool da, .int .i64 ka, .int .i64 va, .int .i64 sa]] rfl rfl rfl rfl (enters_of Tryd.func95 (by kernel_rfl) rfl) (by simp [Act.eval])
          (rowOf_any da ka va sa _) ?_
        rintro e w2 ⟨rfl, b2⟩
        have c0_2 := c0_1.trans (b2.mono c0_1.size)
        have r5 := r5.below b2 r5.lt
        refine ⟨_, rfl, c0_2, ?_⟩
        simp only [Act.put, Z1, Z2, Z3]
        refine Held.two 3 4 (by kernel_rfl) ?_ ?_
        · refine Held.op_call 3 (some 13) 95 #[.agg #[.bool db, .int .i64 kb, .int .i64 vb, .int .i64 sb]] rfl rfl rfl rfl (enters_of Tryd.func95 (by kernel_rfl) rfl) (by simp [Act.eval])
            (rowOf_any db kb vb sb _) ?_
          rintro e w3 ⟨rfl, b3⟩
          have c0_3 := c0_2.trans (b3.mono c0_2.size)
          have r5 := r5.below b3 r5.lt
          refine ⟨_, rfl, c0_3, ?_⟩
          simp only [Act.put, Z1, Z2, Z3]
          refine Held.one 4 (by kernel_rfl) ?_
          refine Held.op_alloc_Row 4 (some 7) 142 .u64 4 rfl rfl rfl rfl zero_row ?_
          intro p4 w4 r4 b4 h4
          have q4 := Nat.le_trans c0_3.size h4.out
          have n5_4 : p5 ≠ p4 := (by have := r5.lt; have := h4.out; intro e; subst e; exact absurd (Nat.lt_of_lt_of_le r5.lt h4.out) (Nat.lt_irrefl _))
          have r5 := r5.below b4 r5.lt
          have c0_4 := c0_3.trans (b4.mono c0_3.size)
          refine ⟨c0_4, ?_⟩
          simp only [Act.put, Z1, Z2, Z3]
          refine Held.one 6 (by kernel_rfl) ?_
          refine Held.op_store_RowL 6 none 142 p4 142 .u64 _ (numbers da ka va sa) rfl rfl rfl rfl rfl rfl r4 4 info_row rfl (by simp) (numbers_wf _ _ _ _) ?_
          intro w5 r4 g5
          have c0_5 := c0_4.grown g5 c0_4.size (fun r e => by cases e; exact q4)
          have r5 := r5.grown g5 (by intro e; injection e with e; first | exact (by assumption : p5 ≠ p4) e | exact (by assumption : p4 ≠ p5) e.symm)
          refine ⟨c0_5, ?_⟩
          simp only [Act.put]
          refine Held.one 7 (by kernel_rfl) ?_
          refine Held.op_store_RowL 7 none 142 p5 142 .u64 _ (numbers db kb vb sb) rfl rfl rfl rfl rfl rfl r5 4 info_row rfl (by simp) (numbers_wf _ _ _ _) ?_
          intro w6 r5 g6
          have c0_6 := c0_5.grown g6 c0_5.size (fun r e => by cases e; exact q5)
          have r4 := r4.grown g6 (by intro e; injection e with e; first | exact (by assumption : p4 ≠ p5) e | exact (by assumption : p5 ≠ p4) e.symm)
          refine ⟨c0_6, ?_⟩
          simp only [Act.put]
          refine wpAnyH_done (by kernel_rfl) ?_ _
          exact ⟨rfl, p4, p5, rfl, r4, r5, (by first | assumption | exact Ne.symm (by assumption)), q4, c0_6⟩
        · refine Held.op_alloc_Row 4 (some 7) 142 .u64 4 rfl rfl rfl rfl zero_row ?_
          intro p4 w3 r4 b3 h4
          have q4 := Nat.le_trans c0_2.size h4.out
          have n5_4 : p5 ≠ p4 := (by have := r5.lt; have := h4.out; intro e; subst e; exact absurd (Nat.lt_of_lt_of_le r5.lt h4.out) (Nat.lt_irrefl _))
          have r5 := r5.below b3 r5.lt
          have c0_3 := c0_2.trans (b3.mono c0_2.size)
          refine ⟨c0_3, ?_⟩
          simp only [Act.put, Z1, Z2, Z3]
          refine Held.one 3 (by kernel_rfl) ?_
          refine Held.op_call 3 (some 13) 95 #[.agg #[.bool db, .int .i64 kb, .int .i64 vb, .int .i64 sb]] rfl rfl rfl rfl (enters_of Tryd.func95 (by kernel_rfl) rfl) (by simp [Act.eval])
            (rowOf_any db kb vb sb _) ?_
          rintro e w4 ⟨rfl, b4⟩
          have c0_4 := c0_3.trans (b4.mono c0_3.size)
          have r5 := r5.below b4 r5.lt
          have r4 := r4.below b4 r4.lt
          refine ⟨_, rfl, c0_4, ?_⟩
          simp only [Act.put, Z1, Z2, Z3]
          refine Held.one 6 (by kernel_rfl) ?_
          refine Held.op_store_RowL 6 none 142 p4 142 .u64 _ (numbers da ka va sa) rfl rfl rfl rfl rfl rfl r4 4 info_row rfl (by simp) (numbers_wf _ _ _ _) ?_
          intro w5 r4 g5
          have c0_5 := c0_4.grown g5 c0_4.size (fun r e => by cases e; exact q4)
          have r5 := r5.grown g5 (by intro e; injection e with e; first | exact (by assumption : p5 ≠ p4) e | exact (by assumption : p4 ≠ p5) e.symm)
          refine ⟨c0_5, ?_⟩
          simp only [Act.put]
          refine Held.one 7 (by kernel_rfl) ?_
          refine Held.op_store_RowL 7 none 142 p5 142 .u64 _ (numbers db kb vb sb) rfl rfl rfl rfl rfl rfl r5 4 info_row rfl (by simp) (numbers_wf _ _ _ _) ?_
          intro w6 r5 g6
          have c0_6 := c0_5.grown g6 c0_5.size (fun r e => by cases e; exact q5)
          have r4 := r4.grown g6 (by intro e; injection e with e; first | exact (by assumption : p4 ≠ p5) e | exact (by assumption : p5 ≠ p4) e.symm)
          refine ⟨c0_6, ?_⟩
          simp only [Act.put]
          refine wpAnyH_done (by kernel_rfl) ?_ _
          exact ⟨rfl, p4, p5, rfl, r4, r5, (by first | assumption | exact Ne.symm (by assumption)), q4, c0_6⟩
      · refine Held.op_alloc_Row 4 (some 7) 142 .u64 4 rfl rfl rfl rfl zero_row ?_
        intro p4 w2 r4 b2 h4
        have q4 := Nat.le_trans c0_1.size h4.out
        have n5_4 : p5 ≠ p4 := (by have := r5.lt; have := h4.out; intro e; subst e; exact absurd (Nat.lt_of_lt_of_le r5.lt h4.out) (Nat.lt_irrefl _))
        have r5 := r5.below b2 r5.lt
        have c0_2 := c0_1.trans (b2.mono c0_1.size)
        refine ⟨c0_2, ?_⟩
        simp only [Act.put, Z1, Z2, Z3]
        refine Held.one 1 (by kernel_rfl) ?_
        refine Held.op_call 1 (some 11) 95 #[.agg #[.bool da, .int .i64 ka, .int .i64 va, .int .i64 sa]] rfl rfl rfl rfl (enters_of Tryd.func95 (by kernel_rfl) rfl) (by simp [Act.eval])
          (rowOf_any da ka va sa _) ?_
        rintro e w3 ⟨rfl, b3⟩
        have c0_3 := c0_2.trans (b3.mono c0_2.size)
        have r5 := r5.below b3 r5.lt
        have r4 := r4.below b3 r4.lt
        refine ⟨_, rfl, c0_3, ?_⟩
        simp only [Act.put, Z1, Z2, Z3]
        refine Held.one 3 (by kernel_rfl) ?_
        refine Held.op_call 3 (some 13) 95 #[.agg #[.bool db, .int .i64 kb, .int .i64 vb, .int .i64 sb]] rfl rfl rfl rfl (enters_of Tryd.func95 (by kernel_rfl) rfl) (by simp [Act.eval])
          (rowOf_any db kb vb sb _) ?_
        rintro e w4 ⟨rfl, b4⟩
        have c0_4 := c0_3.trans (b4.mono c0_3.size)
        have r5 := r5.below b4 r5.lt
        have r4 := r4.below b4 r4.lt
        refine ⟨_, rfl, c0_4, ?_⟩
        simp only [Act.put, Z1, Z2, Z3]
        refine Held.one 6 (by kernel_rfl) ?_
        refine Held.op_store_RowL 6 none 142 p4 142 .u64 _ (numbers da ka va sa) rfl rfl rfl rfl rfl rfl r4 4 info_row rfl (by simp) (numbers_wf _ _ _ _) ?_
        intro w5 r4 g5
        have c0_5 := c0_4.grown g5 c0_4.size (fun r e => by cases e; exact q4)
        have r5 := r5.grown g5 (by intro e; injection e with e; first | exact (by assumption : p5 ≠ p4) e | exact (by assumption : p4 ≠ p5) e.symm)
        refine ⟨c0_5, ?_⟩
        simp only [Act.put]
        refine Held.one 7 (by kernel_rfl) ?_
        refine Held.op_store_RowL 7 none 142 p5 142 .u64 _ (numbers db kb vb sb) rfl rfl rfl rfl rfl rfl r5 4 info_row rfl (by simp) (numbers_wf _ _ _ _) ?_
        intro w6 r5 g6
        have c0_6 := c0_5.grown g6 c0_5.size (fun r e => by cases e; exact q5)
        have r4 := r4.grown g6 (by intro e; injection e with e; first | exact (by assumption : p4 ≠ p5) e | exact (by assumption : p5 ≠ p4) e.symm)
        refine ⟨c0_6, ?_⟩
        simp only [Act.put]
        refine wpAnyH_done (by kernel_rfl) ?_ _
        exact ⟨rfl, p4, p5, rfl, r4, r5, (by first | assumption | exact Ne.symm (by assumption)), q4, c0_6⟩
  · rintro e a' w1 ⟨rfl, p4, p5, rfl, ra, rb, hne, q4, cz⟩
    have q1 := qc.after cz
    have b1 := bz.trans (cz.mono bz.size)
    have lb : wb.heap.size < w1.heap.size := Nat.lt_of_lt_of_le qc.lt cz.size
    have lc : wc.heap.size ≤ w1.heap.size := cz.size
    have hp4w : w.heap.size ≤ p4 := Nat.le_trans bz.size q4
    have hp4 : wb.heap.size ≠ p4 := fun e => by have := qc.lt; rw [e] at this; exact absurd (Nat.lt_of_lt_of_le this q4) (Nat.lt_irrefl _)
    clear cz qa qb qc bz
    have hF : (picked c da ka va sa db kb vb sb).length = (numbers da ka va sa).length := rfl
    go_wp2_with fail
    go_loopw [14] (fun i wr => ∃ k : Nat, k ≤ 4 ∧ i = .int .i64 k ∧ Row wr p4 142 .u64 (blend (picked c da ka va sa db kb vb sb) (numbers da ka va sa) k) ∧ Row wr p5 142 .u64 (numbers db kb vb sb) ∧ Blk wr wb.heap.size 51 #[.bool false, .int .i64 0, .int .i64 0, .int .i64 0] ∧ Below w.heap.size w wr) (fun i _ => 4 - (intOf i).toNat)
    case atStart => exact ⟨0, by omega, rfl, by rw [blend_zero]; exact ra, rb, q1, b1⟩
    case round =>
      clear ra rb q1 b1
      obtain ⟨k, hk, rfl, ra, rb, q1, b1⟩ := hrel
      by_cases hlt : k < 4
      · have hlt' : (k : Int) < 4 := by omega
        have hk0 : (0 : Int) ≤ (k : Int) := by omega
        have HG := Lib.hid (blend_get hF (i := k) hlt)
        have HS := Lib.hid (blend_set hF (i := k) hlt)
        have HL := Lib.hid (blend_length hF k)
        have x1 := numbers_at da ka va sa k
        have x2 := numbers_at db kb vb sb k
        have HP := Lib.hid (picked_get c da ka va sa db kb vb sb hlt)
        have ca := ra.cell (i := k) (by rw [HL.out]; exact hlt)
        have cb := rb.cell (i := k) hlt
        rw [HG.out] at ca
        generalize (numbers da ka va sa).getD k 0 = x at ca x1 HP
        generalize (numbers db kb vb sb).getD k 0 = y at cb x2 HP
        have wp := pick_wf hc x1 x2
        go_wp2_with fail
        go_still_tail 10, (by kernel_rfl)
        still_call (still_of_b (pick_0 c x y hc x1 x2 _))
        repeat still_step
        refine wpStill_nil ?_
        change wpList _ _ _ _ _ wr.drew
        have ra : Row wr.drew p4 142 .u64 (blend (picked c da ka va sa db kb vb sb) (numbers da ka va sa) k) := ra
        have rb : Row wr.drew p5 142 .u64 (numbers db kb vb sb) := rb
        have q1 := q1.drew
        have b1 := b1.drew
        generalize wr.drew = wd at ra rb q1 b1 ⊢
        go_wp2_with (refine wpList_store_elem (w := wd) rfl 23 _ _ rfl p4 k rfl 142 .u64 _ (pickI c x y) rfl ra (by rw [HL.out]; exact hlt) size_u64 wp ?_; intro we ra g1 z1)
        rw [← HP.out, HS.out] at ra
        have rb := rb.grown g1 (by intro e; injection e with e; exact hne e.symm)
        have q1 := q1.grown g1 (by intro e; injection e with e; exact hp4 e)
        have b1 := b1.grown g1 b1.size (fun r e => by cases e; exact hp4w)
        clear HG HS HL HP x1 x2 ca cb z1 g1
        go_roundw
        case rel => exact ⟨k + 1, by omega, by go_num, ra, rb, q1, b1⟩
        case measure => simp [intOf]; omega
      · have hk4 : k = 4 := by omega
        subst hk4
        rw [show blend (picked c da ka va sa db kb vb sb) (numbers da ka va sa) 4 = picked c da ka va sa db kb vb sb from blend_all hF] at ra
        go_wp2_with (refine wpList_load_Row rfl 142 _ rfl p4 rfl 142 .u64 _ ra 4 23 Tryd.underlying142 info_row rfl ?_)
        refine (picked_back c da ka va sa db kb vb sb hka hva hsa hkb hvb hsb wr).mono ?_
        rintro e wy ⟨rfl, by_⟩
        have dy := b1.trans (by_.mono b1.size)
        have qy := q1.after by_
        go_wp2_with (refine wpList_store_blk (w := wy) rfl 51 _ _ rfl wb.heap.size 4 rfl 51 _ _ rfl qy info_rec (pickV_size rfl rfl) rfl (pickV_one (by kernel_rfl) (by kernel_rfl)) ?_; intro w3 q3 g3 z3)
        exact bodyPost_ret (results_blk rfl _ _ wb.heap.size 4 _ _ rfl q3 _ Tryd.underlying51 rfl info_rec (pickV_size rfl rfl)) rfl ⟨rfl, dy.grown g3 dy.size (fun r e => by cases e; exact hsw)⟩
end Go.Proofs.YtlinmcgmkpkpaaaDoor.Rc
namespace Go.Proofs.YtlinmcgmkpkpaaaDoor.Range
open Go.RowKit
def SeqGive {α : Type} (F : Fence) (n : Nat) (P : Program) (g : Nat) (lb : Array Value) (Enc : α → Nat → World → Array Value → Prop) (Kp : World → World → Prop) (xs : List α) (w : World) : Prop :=
  ∀ (l : Nat) (J : List α → World → Prop) (W : World), Below w.heap.size w W → (∀ s W1 W2, J s W1 → W1.grownBy W2 none → J s W2) →
    (∀ pre x args W0 W1, J pre W0 → W0.grownBy W1 none → Enc x W0.heap.size W1 args → (pre ++ [x]) <+: xs → YieldAt F (n - 1) P l args W1 fun e W' => e = .returned (.bool true) ∧ J (pre ++ [x]) W' ∧ Kp W1 W') →
    J [] W → CallsIn F n P g (#[.func (.yield l) #[] #[]] ++ lb) W fun e W' => (∃ v, e = .returned v) ∧ J xs W'
variable {F : Fence} {n : Nat} {P : Program}
theorem wpIn_rangeFunc_give {α : Type} {g : Operand} {ps : Array Tmp} {assign body : Code} {Q : Exit → Act → World → Prop} {a : Act} {w : World}
    (hro : F.round = none) (h1 : 1 ≤ n) {gf : Nat} {lb : Array Value} (hg : a.eval g = .func (.func gf) #[] lb) (hFg : F.fn gf) (eg : ∀ args w, (callFunc gf args).run P w = .ok (.enter gf args) w)
    {Enc : α → Nat → World → Array Value → Prop} {Kp : World → World → Prop} {xs : List α} {w0 : World} (hseq : SeqGive F (n - 1) P gf lb Enc Kp xs w0)
    (hKt : ∀ {A B C : World}, Kp A B → Kp B C → Kp A C) (hKb : ∀ (W : World) (l : Nat) (o o' : Obj), w.heap.size ≤ l → W.heap[l]? = some o → o.isCells = false → o.isWalk = false → Kp W (W.putObj l o'))
    (hb0 : Below w0.heap.size w0 w) (hps : ∀ x B W args, Enc x B W args → args.size = ps.size)
    (I : List α → World → Prop) (hI : OwnFrom w.heap.size I) (h0 : I [] w)
    (Ib : α → Act → List α → World → Prop) (hIb : ∀ x a', OwnFrom w.heap.size (Ib x a'))
    (hassign : ∀ (l : Nat) (pre : List α) (x : α) (args : Array Value) (W0 W : World) (K : Act → World → Prop), I pre W0 → W0.grownBy W none → Enc x W0.heap.size W args → (pre ++ [x]) <+: xs → w.heap.size ≤ W0.heap.size → (∀ a' W', KeepsOthers W W' → Kp W W' → Ib x a' pre W' → K a' W') →
      assign.wpIn (F.inRound l) (n - 1 - 1) P (Exit.then K (fun _ _ _ => False)) { tmps := (ps.zip args).foldl (fun t (p, v) => t.setIfInBounds p v) a.tmps, defers := [] } W)
    (hbody : ∀ (l : Nat) (pre : List α) (x : α) (a' : Act) (W : World), Ib x a' pre W → (pre ++ [x]) <+: xs → w.heap.size ≤ W.heap.size →
      body.wpIn (F.inRound l) (n - 1 - 1) P (goesOn fun W' => KeepsOthers W W' ∧ Kp W W' ∧ I (pre ++ [x]) W') a' W)
    (hdone : ∀ (D : Nat) (W : World), w.heap.size ≤ D → I xs W → W.heap[D]? = some (.deferred (some [])) → Q .normal { a with defers := { target := .collected D, args := #[] } :: a.defers } W) :
    (Code.rangeFunc g ps assign body).wpIn F n P Q a w := by
  refine wpIn_rangeFunc fun fn hfn => ?_
  rw [hro]
  let rec0 : LoopState → Loop := fun st => { state := st, pending := none, fn := fn, tmps := a.tmps, params := ps, assign := assign, body := body, defers := w.heap.size }
  let W1 : World := (w.alloc (.deferred (some []))).alloc (.loop (rec0 .ready))
  have hz1 : W1.heap.size = w.heap.size + 2 := by simp [W1]
  have hl1 : W1.heap[w.heap.size + 1]? = some (.loop (rec0 .ready)) := by
    have e := World.alloc_heap_new (w.alloc (.deferred (some []))) (.loop (rec0 .ready))
    rwa [World.size_alloc] at e
  have hd1 : W1.heap[w.heap.size]? = some (.deferred (some [])) := (Below.heap_alloc _ _ _ (by simp)).trans (World.alloc_heap_new w _)
  have hi1 : I [] W1 := hI.alloc _ (hI.alloc _ h0)
  have hb1 : Below w0.heap.size w0 W1 := hb0.trans ((((Below.refl _ w).alloc (Nat.le_refl _) _).alloc (by simp) _).mono hb0.size)
  refine ⟨w.heap.size + 1, [{ target := .collected w.heap.size, args := #[] }], W1, { target := .fn (.func gf) lb, args := #[.func (.yield (w.heap.size + 1)) #[] #[]] }, W1, gf,
    #[.func (.yield (w.heap.size + 1)) #[] #[]] ++ lb, W1, run_enterLoop_outer _ _ _ _ _, by simp only [resolve, hg]; simp [go_sem],
    fun f' hf' => by simp [Target.leads] at hf'; subst hf'; exact hFg, by simp [invoke, go_sem, eg], fun _ => h1, ?_⟩
  refine (hseq (w.heap.size + 1) (fun pre W => I pre W ∧ W.heap[w.heap.size + 1]? = some (.loop (rec0 .ready)) ∧ W.heap[w.heap.size]? = some (.deferred (some []))) W1 hb1
    (fun s A B hs hg' => ⟨hI s A B none hs.1 hg' (fun r e => by cases e), (hg'.block _ (Array.getElem?_eq_some_iff.1 hs.2.1).1 (by simp)).trans hs.2.1, (hg'.block _ (Array.getElem?_eq_some_iff.1 hs.2.2).1 (by simp)).trans hs.2.2⟩) ?_ ⟨hi1, hl1, hd1⟩).mono ?_
  · -- a round
    rintro pre x args W0 W ⟨hi, hl0, hd0⟩ hgW henc hpre
    have hlt0 : w.heap.size + 1 < W0.heap.size := (Array.getElem?_eq_some_iff.1 hl0).1
    have hl := (hgW.block _ hlt0 (by simp)).trans hl0
    have hd := (hgW.block _ (by omega) (by simp)).trans hd0
    have hlt : w.heap.size + 1 < W.heap.size := (Array.getElem?_eq_some_iff.1 hl).1
    have hy := run_yield (P := P) (args := args) hl (hps x _ _ _ henc)
    refine ⟨fn, _, assign, body, hy, roundIn_of_wpIn hfn (hassign _ pre x args W0 W _ hi hgW henc hpre (by omega) ?_)⟩
    intro a' W2 hk2 hp2 hib
    have hl2 := hk2.same _ _ hl rfl
    have hd2 := hk2.same _ _ hd rfl
    have hlt2 : w.heap.size + 1 < W2.heap.size := (Array.getElem?_eq_some_iff.1 hl2).1
    refine ⟨_, run_beginRound hl2 rfl, ?_⟩
    have hl3 : (W2.putObj (w.heap.size + 1) (.loop { rec0 .ready with state := .busy })).heap[w.heap.size + 1]? = some (.loop { rec0 .ready with state := .busy }) := World.putObj_heap_same hlt2
    have hd3 : (W2.putObj (w.heap.size + 1) (.loop { rec0 .ready with state := .busy })).heap[w.heap.size]? = some (.deferred (some [])) := (World.putObj_heap_other (by omega)).trans hd2
    have hp3 : Kp W (W2.putObj (w.heap.size + 1) (.loop { rec0 .ready with state := .busy })) := hKt hp2 (hKb _ _ _ _ (by omega) hl2 rfl rfl)
    refine wpIn_mono (hbody _ pre x a' _ ((hIb x a').putObj _ hib (by omega) hl2 rfl) hpre (by rw [World.putObj_size]; omega)) ?_
    intro e a3 W4 hp
    cases e with
    | normal =>
      obtain ⟨hk4, hp4, hi4⟩ := hp
      have hl4 := hk4.same _ _ hl3 rfl
      have hlt4 : w.heap.size + 1 < W4.heap.size := (Array.getElem?_eq_some_iff.1 hl4).1
      refine ⟨_, _, run_endRound (P := P) none hl4, rfl, ⟨hI.putObj _ hi4 (by omega) hl4 rfl, World.putObj_heap_same hlt4, (World.putObj_heap_other (by omega)).trans (hk4.same _ _ hd3 rfl)⟩, ?_⟩
      exact hKt (hKt hp3 hp4) (hKb _ _ _ _ (by omega) hl4 rfl rfl)
    | ret => exact hp.elim
    | exit id => exact hp.elim
    | goto t => exact hp.elim
    | panic ch => exact hp.elim
    | outgrown => exact hp.elim
  · -- behind the iterator
    rintro e W2 ⟨⟨v, rfl⟩, hi, hl, hd⟩
    refine ⟨none, _, run_endLoop (P := P) hl (by simp [rec0]), ?_⟩
    exact hdone _ _ (Nat.le_refl _) (hI.putObj _ hi (by omega) hl rfl) ((World.putObj_heap_other (by omega)).trans hd)
end Go.Proofs.YtlinmcgmkpkpaaaDoor.Range
namespace Go.Proofs.YtlinmcgmkpkpaaaDoor.Mem
open Go.RowKit
end Go.Proofs.YtlinmcgmkpkpaaaDoor.Mem
namespace Go.Proofs.YtlinmcgmkpkpaaaDoor.Rc
open Go.RowKit Go.Shelf Go.Proofs.YtlinmcgmkpkpaaaDoor Mem Help Go.Proofs.YtlinmcgmkpkpaaaDoor.Sum Po Ky Ct Go.Proofs.YtlinmcgmkpkpaaaDoor.Bit Held Go.Proofs.YtlinmcgmkpkpaaaDoor.Range
attribute [local go_sem] Oper.semAt_some
attribute [local irreducible] wpList wpListIn Calls
theorem run_shl_ {P : Program} (t : TypeId) (k k' : IntKind) {a : Int} (n : Nat) (hn : n ≤ k.bits) (w : World) : (binOp .shl t (.int k a) (.int k' (n : Int))).run P w = .ok (.int k (k.wrap (a * 2 ^ n))) w := by
  rw [binOp_shl, shift_shl k k' a (n : Int) (by omega) (by omega), Int.toNat_natCast]
  rfl
end Go.Proofs.YtlinmcgmkpkpaaaDoor.Rc
namespace Go.Proofs.YtlinmcgmkpkpaaaDoor.Rc
open Go.RowKit Go.Shelf Go.Proofs.YtlinmcgmkpkpaaaDoor Mem Help Go.Proofs.YtlinmcgmkpkpaaaDoor.Sum Po Ky Ct Go.Proofs.YtlinmcgmkpkpaaaDoor.Bit Held Go.Proofs.YtlinmcgmkpkpaaaDoor.Range
attribute [local go_sem] Oper.semAt_some
attribute [local irreducible] wpList wpListIn Calls
def may (n0 n1 n2 n3 : Int) : Bool := decide (n0 = 0) || (decide (n0 = 1) && decide (n1 = 0 ∧ n2 = 0 ∧ n3 = 0))
end Go.Proofs.YtlinmcgmkpkpaaaDoor.Rc
