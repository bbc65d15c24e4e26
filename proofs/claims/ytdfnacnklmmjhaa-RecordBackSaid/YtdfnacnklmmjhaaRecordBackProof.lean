/-
  The law RecordBack of package dominolaw09 returns true for every record and every 32 bytes: what is packed is taken, a dead one as Dead; what is taken, packed again, is the same bytes.
-/
import Derived.Test.YtdfnacnklmmjhaaRows
import Derived.WalkKit
import Derived.ProofKit
import Derived.OpenShut
import Derived.ShutString
import Derived.ChangeOld
import Derived.Below
import Derived.Test.YtdfnacnklmmjhaaRr9
import Derived.Test.YtdfnacnklmmjhaaRcP
import Derived.Test.YtdfnacnklmmjhaaArrP
import Derived.Test.YtdfnacnklmmjhaaKept
namespace Go.Proofs.Ytdfnacnklmmjhaa.recordBack
open Go.ChangeShapes Go.WideShapes Go.ChangeAt Go.RowKit
open Go.ChangeMaps (open_string shut_string)
open Go.Shelf Go.Proofs.Ytdfnacnklmmjhaa.Mem Go.Proofs.Ytdfnacnklmmjhaa.Help Go.Proofs.Ytdfnacnklmmjhaa.Sum Go.Proofs.Ytdfnacnklmmjhaa.Po Go.Proofs.Ytdfnacnklmmjhaa.Ky Go.Proofs.Ytdfnacnklmmjhaa.Ct Go.Proofs.Ytdfnacnklmmjhaa.Bit Go.Proofs.Ytdfnacnklmmjhaa.Held Go.Proofs.Ytdfnacnklmmjhaa.Rc Go.Proofs.Ytdfnacnklmmjhaa
set_option linter.unusedVariables false

theorem own : ownKnob Try.prog.godebug = none := by kernel_rfl
theorem laidOut : laidOutB Try.prog = true := by kernel_rfl

/-- what a slice that came in leads to -/
def IsRow (k : IntKind) (w : World) (a : Option Addr) (len cap : Nat) (zs : List Int) : Prop :=
  (a = none ∧ len = 0 ∧ cap = 0 ∧ zs = []) ∨
  ∃ x, a = some x ∧ len ≤ cap ∧ cap ≤ maxLen ∧ zs.length = cap ∧ (∀ i, i < zs.length → w.cell? (x.add i) = some (.int k (zs.getD i 0))) ∧ ∀ n ∈ zs, (Lit.int k n).wf = true

attribute [local irreducible] wpList Calls

theorem fld_eights (ns : List Int) (hw : ∀ z ∈ ns, (Lit.int .u64 z).wf = true) {i : Nat} (hi : i < ns.length) : fld (eights ns) i = ns.getD i 0 := by
  unfold fld
  rw [eights_at ns i hi, val_digits]
  have := wf_u64 (hw (ns.getD i 0) (by rw [List.getD_eq_getElem?_getD, List.getElem?_eq_getElem hi]; exact List.getElem_mem _))
  omega
theorem fld_packed (d : Bool) (k v s : Int) {i : Nat} (hi : i < 4) : fld (packed d k v s) i = (numbers d (zd d k) (zd d v) (zd d s)).getD i 0 := fld_eights _ (numbers_wf _ _ _ _) hi
theorem taken_packed (d : Bool) (k v s : Int) (hk : (Lit.int .i64 k).wf = true) (hv : (Lit.int .i64 v).wf = true) (hs : (Lit.int .i64 s).wf = true) : takenC (packed d k v s) = #[.bool d, .int .i64 (zd d k), .int .i64 (zd d v), .int .i64 (zd d s)] ∧ takenE (packed d k v s) = 0 := by
  have h0 : fld (packed d k v s) 0 = oneI d := fld_packed d k v s (i := 0) (by omega)
  have h1 : fld (packed d k v s) 1 = u64 (zd d k) := fld_packed d k v s (i := 1) (by omega)
  have h2 : fld (packed d k v s) 2 = u64 (zd d v) := fld_packed d k v s (i := 2) (by omega)
  have h3 : fld (packed d k v s) 3 = u64 (zd d s) := fld_packed d k v s (i := 3) (by omega)
  have hm : mayB (packed d k v s) = true := by
    unfold mayB
    rw [h0, h1, h2, h3]
    cases d <;> rfl
  unfold takenC takenE
  rw [packed_length, hm, if_pos ⟨rfl, rfl⟩, if_neg (by omega), if_pos ⟨rfl, rfl⟩, h0, h1, h2, h3]
  unfold recC
  rw [w64_u64 (zd_wf hk), w64_u64 (zd_wf hv), w64_u64 (zd_wf hs), show (oneI d == 1) = d by cases d <;> rfl]
  exact ⟨rfl, rfl⟩
theorem eights_flds {zs : List Int} (h : Bs zs) (hl : zs.length = 32) : eights (flds zs) = zs := by
  have hd : ∀ i, i < 4 → digits (fld zs i) 8 = (zs.drop (8 * i)).take 8 := fun i hi => by
    have hb : Bs ((zs.drop (8 * i)).take 8) := fun z hz => h z (List.mem_of_mem_drop (List.mem_of_mem_take hz))
    have hn : ((zs.drop (8 * i)).take 8).length = 8 := by rw [List.length_take, List.length_drop, hl]; omega
    have := digits_val hb
    rwa [hn] at this
  simp only [eights, flds, List.flatMap_cons, List.flatMap_nil, List.append_nil]
  rw [hd 0 (by omega), hd 1 (by omega), hd 2 (by omega), hd 3 (by omega)]
  have e3 : (zs.drop (8 * 3)).take 8 = zs.drop 24 := List.take_of_length_le (by rw [List.length_drop, hl]; omega)
  have e2 := List.take_append_drop 8 (zs.drop 16)
  have e1 := List.take_append_drop 8 (zs.drop 8)
  have e0 := List.take_append_drop 8 zs
  rw [List.drop_drop] at e1 e2
  rw [e3, show 8 * 2 = 16 from rfl, show 8 * 1 = 8 from rfl, Nat.mul_zero, List.drop_zero]
  rw [show 16 + 8 = 24 from rfl] at e2
  rw [show 8 + 8 = 16 from rfl] at e1
  rw [e2, e1, e0]
theorem packed_taken {zs : List Int} (h : Bs zs) (hl : zs.length = 32) (hm : mayB zs = true) : packed (fld zs 0 == 1) (wrap64 (fld zs 1)) (wrap64 (fld zs 2)) (wrap64 (fld zs 3)) = zs := by
  have hw := fun i => fld_wf h i
  have e := eights_flds h hl
  have u : ∀ i, u64 (wrap64 (fld zs i)) = fld zs i := fun i => by rw [w64_eq, u64_i64 (hw i)]
  unfold packed
  rw [show numbers (fld zs 0 == 1) (zd (fld zs 0 == 1) (wrap64 (fld zs 1))) (zd (fld zs 0 == 1) (wrap64 (fld zs 2))) (zd (fld zs 0 == 1) (wrap64 (fld zs 3))) = flds zs by
    unfold mayB may at hm
    simp only [Bool.or_eq_true, Bool.and_eq_true, decide_eq_true_eq] at hm
    rcases hm with h0 | ⟨h0, h1, h2, h3⟩
    · unfold numbers flds zd
      rw [h0]
      simp only [show ((0 : Int) == 1) = false from rfl, Bool.false_eq_true, if_false, u]
      rfl
    · unfold numbers flds zd
      rw [h0, h1, h2, h3]
      rfl]
  exact e

set_option maxRecDepth 100000 in
set_option maxHeartbeats 16000000 in
theorem start_true_ok (k v s : Int) (hk : (Lit.int .i64 k).wf = true) (hv : (Lit.int .i64 v).wf = true) (hs : (Lit.int .i64 s).wf = true) (zb : List Int) (hzl : zb.length = 32) (hzw : ∀ z ∈ zb, (Lit.int .u8 z).wf = true) (xd : Bool) (xk xv xs : Int) (hxk : (Lit.int .i64 xk).wf = true) (hxv : (Lit.int .i64 xv).wf = true) (hxs : (Lit.int .i64 xs).wf = true) (hpk : packed xd xk xv xs = zb) (htc : takenC zb = #[.bool xd, .int .i64 xk, .int .i64 xv, .int .i64 xs]) (hte : takenE zb = 0) (u : World) :
    Calls Try.prog 4 #[.agg #[.bool true, .int .i64 k, .int .i64 v, .int .i64 s], .agg (arr .u8 zb)] u fun e u' => e = .returned (.bool true) ∧ Below u.heap.size u u' := by
  obtain ⟨tc, te⟩ := taken_packed true k v s hk hv hs
  have tc : takenC (packed true k v s) = #[.bool true, .int .i64 0, .int .i64 0, .int .i64 0] := tc
  have HTC := Lib.hid tc
  have HTE := Lib.hid te
  have HYC := Lib.hid htc
  have HYE := Lib.hid hte
  have HZB := Lib.hid hzl
  have HPK := Lib.hid hpk
  clear hpk
  clear tc te htc hte hzl
  go_enter Try.func4, Try.ntmps4
  go_wp2_with (first
    | (refine wpList_box_blk (w := u) rfl 23 _ rfl #[.bool true, .int .i64 k, .int .i64 v, .int .i64 s] rfl ?_; intro u1 q1 g1 z1)
    | (refine wpList_box_Row (w := u1) rfl 30 _ rfl .u8 zb rfl hzw ?_; intro u2 rb g2 z2; have q1 := q1.grown g2 (by simp))
    | (refine wpList_load_blk (w := u2) rfl 23 _ rfl u.heap.size 4 rfl 23 _ q1 _ Try.underlying23 rfl (by kernel_rfl) rfl ?_))
  have f2 : Below u.heap.size u u2 := ((Below.refl _ u).grown g1 (Nat.le_refl _) (by simp)).grown g2 g1.size (by simp)
  clear g1 g2 z1 z2
  refine (pack_any true k v s hk hv hs u2).mono ?_
  rintro e u3 ⟨rfl, f3⟩
  have q1 := q1.after f3
  have rb := rb.below f3 rb.lt
  have f3 := f2.trans (f3.mono f2.size)
  clear f2
  have l1 := q1.lt
  have l2 := rb.lt
  have hsl : ∀ W, (Instr.sliceAt 30 (.pointer (some ⟨u3.heap.size, 0, none⟩)) none none none).run Try.prog W = .ok (.slice (some ⟨u3.heap.size, 0, none⟩) 32 32) W := fun W => run_slice_arr_all (P := Try.prog) 30 5 32 u3.heap.size W Try.underlying30 (by kernel_rfl) (by omega)
  go_wp2_with (first
    | (refine wpList_alloc_Row (w := u3) rfl 30 rfl .u8 32 zero_32 ?_; intro ua ra ga za)
    | (refine wpList_store_RowTo (w := ua) rfl 30 _ _ rfl u3.heap.size rfl 30 .u8 _ (packed true k v s) rfl ra 32 info_32 (packed_length _ _ _ _) (by simp) (packed_wf _ _ _ _) ?_; intro ub rp gb zb'))
  have q1 := (q1.grown ga (by simp)).grown gb (by intro e; injection e with e; omega)
  have rb := (rb.grown ga (by simp)).grown gb (by intro e; injection e with e; omega)
  have fb := (f3.grown ga f3.size (by simp)).grown gb (Nat.le_trans f3.size ga.size) (fun r e => by cases e; exact f3.size)
  clear ga gb za zb' ra f3 l1 l2
  have ip := rp.ints (n := 32) (by rw [packed_length]; omega)
  rw [List.take_of_length_le (by rw [packed_length]; omega)] at ip
  refine (take_any ub.heap.size (some ⟨u3.heap.size, 0, none⟩) 32 32 (packed true k v s) ub ip (Nat.le_refl _) (by omega) (by omega)).mono ?_
  rintro e u4 ⟨rfl, f4⟩
  rw [HTC.out, HTE.out]
  have q1 := q1.after f4
  have rb := rb.below f4 rb.lt
  have f4 := fb.trans (f4.mono fb.size)
  clear fb ip rp hsl
  have l1 := q1.lt
  have l2 := rb.lt
  have hsl : ∀ W, (Instr.sliceAt 30 (.pointer (some ⟨u1.heap.size, 0, none⟩)) none none none).run Try.prog W = .ok (.slice (some ⟨u1.heap.size, 0, none⟩) 32 32) W := fun W => run_slice_arr_all (P := Try.prog) 30 5 32 u1.heap.size W Try.underlying30 (by kernel_rfl) (by omega)
  go_wp2_with (first
    | (refine wpList_alloc_blk (w := u4) rfl 23 rfl _ zero_rec ?_; intro u5 qz gz zz)
    | (refine wpList_store_blk (w := u5) rfl 23 _ _ rfl u4.heap.size 4 rfl 23 _ #[.bool true, .int .i64 0, .int .i64 0, .int .i64 0] rfl qz info_rec rfl rfl (by kernel_rfl) ?_; intro u6 qx gx zx; have q1 := (q1.grown gz (by simp)).grown gx (by intro e; injection e with e; omega); have rb := (rb.grown gz (by simp)).grown gx (by intro e; injection e with e; omega); have f6 := (f4.grown gz f4.size (by simp)).grown gx (Nat.le_trans f4.size gz.size) (fun r e => by cases e; exact f4.size); clear gz gx zz zx qz f4 l1 l2; have l1 := q1.lt; have l2 := rb.lt; have l3 := qx.lt)
    | (refine wpList_load_blk (w := u6) rfl 23 _ rfl u.heap.size 4 rfl 23 _ q1 _ Try.underlying23 rfl (by kernel_rfl) rfl ?_)
    | (refine wpList_alloc_blk (w := u6) rfl 23 rfl _ zero_rec ?_; intro uc qz gz zz)
    | (refine wpList_store_blk (w := uc) rfl 23 _ _ rfl u6.heap.size 4 rfl 23 _ #[.bool true, .int .i64 k, .int .i64 v, .int .i64 s] rfl qz info_rec rfl rfl (by kernel_rfl) ?_; intro u7 qw gx zx; have q1 := (q1.grown gz (by simp)).grown gx (by intro e; injection e with e; omega); have rb := (rb.grown gz (by simp)).grown gx (by intro e; injection e with e; omega); have qx := (qx.grown gz (by simp)).grown gx (by intro e; injection e with e; omega); have f7 := (f6.grown gz f6.size (by simp)).grown gx (Nat.le_trans f6.size gz.size) (fun r e => by cases e; exact f6.size); have f6s := f6.size; have m2 := l2; have m3 := l3; clear gz gx zz zx qz l1 l2 l3; have l1 := q1.lt; have l2 := rb.lt; have l3 := qx.lt; have c0 := q1.cell (i := 0) rfl)
    | (refine wpList_run (w := u7) rfl (v := .pointer (some ⟨u.heap.size, 0, none⟩)) (Held.y_field (S := fun _ => True) (k := 0) (s := 0) rfl rfl Try.underlying23 rfl (by kernel_rfl) rfl _ trivial) ?_)
    | (refine wpList_build_blk rfl 23 _ rfl #[.bool true, .int .i64 0, .int .i64 0, .int .i64 0] (by kernel_rfl) ?_)
    | (refine wpList_store_blk (w := u7) rfl 23 _ _ rfl u6.heap.size 4 rfl 23 _ #[.bool true, .int .i64 0, .int .i64 0, .int .i64 0] rfl qw info_rec rfl rfl (by kernel_rfl) ?_; intro ux qw gx zx; have rb := rb.grown gx (by intro e; injection e with e; omega); have qx := qx.grown gx (by intro e; injection e with e; omega); have f7 := f7.grown gx f7.size (fun r e => by cases e; exact f6s); clear gx zx))
  have ib := rb.ints (n := 32) (by rw [HZB.out]; omega)
  rw [List.take_of_length_le (by rw [HZB.out]; omega)] at ib
  refine (take_any ux.heap.size (some ⟨u1.heap.size, 0, none⟩) 32 32 zb ux ib (Nat.le_refl _) (by omega) (by omega)).mono ?_
  rintro e u8 ⟨rfl, f8⟩
  rw [HYC.out, HYE.out]
  have rb := rb.below f8 rb.lt
  have qx := qx.after f8
  have qw := qw.after f8
  have f8 := f7.trans (f8.mono f7.size)
  clear f7 ib hsl l1 l2 l3 c0 m2 m3
  have l2 := rb.lt
  have l3 := qx.lt
  have l4 := qw.lt
  go_wp2_with (first
    | (refine wpList_alloc_blk (w := u8) rfl 23 rfl _ zero_rec ?_; intro ud qz gz zz)
    | (refine wpList_store_blk (w := ud) rfl 23 _ _ rfl u8.heap.size 4 rfl 23 _ #[.bool xd, .int .i64 xk, .int .i64 xv, .int .i64 xs] rfl qz info_rec rfl rfl (by kernel_rfl) ?_; intro u9 qy gx zx))
  have rb := (rb.grown gz (by simp)).grown gx (by intro e; injection e with e; omega)
  have qx := (qx.grown gz (by simp)).grown gx (by intro e; injection e with e; omega)
  have qw := (qw.grown gz (by simp)).grown gx (by intro e; injection e with e; omega)
  have f9 := (f8.grown gz f8.size (by simp)).grown gx (Nat.le_trans f8.size gz.size) (fun r e => by cases e; exact f8.size)
  clear gz gx zz zx qz f8 l2 l3 l4
  refine wp_region_held (S := fun W => Below u9.heap.size u9 W) (by kernel_rfl) ?_
  change wpAnyH _ _ _ _ _ _ _ _ u9.drew
  have c0_0 := (Below.refl u9.heap.size u9).drew
  refine Held.one 0 (by kernel_rfl) ?_
  refine Held.op_call 0 (some 27) 8 #[] rfl rfl rfl rfl (enters_of Try.func8 (by kernel_rfl) rfl) (by simp)
    (awake9_any _) ?_
  rintro e w1 ⟨rfl, b1⟩
  have c0_1 := c0_0.trans (b1.mono c0_0.size)
  refine ⟨_, rfl, c0_1, ?_⟩
  simp only [Act.put, List.setIfInBounds_toArray, List.set_cons_zero, List.set_cons_succ]
  refine Held.take (v := .bool true) 1 (some 28) rfl rfl (by kernel_rfl) (by kernel_rfl) (by kernel_rfl) (fun _ _ _ h => h) rfl (Held.y_move rfl rfl) c0_1 ?_
  simp only [Act.put, List.setIfInBounds_toArray, List.set_cons_zero, List.set_cons_succ]
  refine Held.take (v := .int .i64 0) 2 (some 29) rfl rfl (by kernel_rfl) (by kernel_rfl) (by kernel_rfl) (fun _ _ _ h => h) rfl (Held.y_move rfl rfl) c0_1 ?_
  simp only [Act.put, List.setIfInBounds_toArray, List.set_cons_zero, List.set_cons_succ]
  refine Held.take (v := .bool true) 3 (some 30) rfl rfl (by kernel_rfl) (by kernel_rfl) (by kernel_rfl) (fun _ _ _ h => h) rfl (Held.y_eqI rfl rfl rfl (by simp)) c0_1 ?_
  simp only [Act.put, List.setIfInBounds_toArray, List.set_cons_zero, List.set_cons_succ]
  refine Held.take (v := .bool true) 4 (some 31) rfl rfl (by kernel_rfl) (by kernel_rfl) (by kernel_rfl) (fun _ _ _ h => h) rfl (Held.y_pick rfl rfl rfl) c0_1 ?_
  simp only [Act.put, List.setIfInBounds_toArray, List.set_cons_zero, List.set_cons_succ]
  refine Held.take (v := .bool true) 5 (some 32) rfl rfl (by kernel_rfl) (by kernel_rfl) (by kernel_rfl) (fun _ _ _ h => h) rfl (Held.y_move rfl rfl) c0_1 ?_
  simp only [Act.put, List.setIfInBounds_toArray, List.set_cons_zero, List.set_cons_succ]
  refine Held.take (v := .agg #[.bool true, .int .i64 0, .int .i64 0, .int .i64 0]) 6 (some 33) rfl rfl (by kernel_rfl) (by kernel_rfl) (by kernel_rfl) (fun _ _ _ h => h) rfl (Held.y_load_blk (n := 4) rfl rfl Try.underlying23 rfl (by kernel_rfl) rfl (fun W hW => qx.below hW qx.lt)) c0_1 ?_
  simp only [Act.put, List.setIfInBounds_toArray, List.set_cons_zero, List.set_cons_succ]
  refine Held.take (v := .agg #[.bool true, .int .i64 0, .int .i64 0, .int .i64 0]) 7 (some 34) rfl rfl (by kernel_rfl) (by kernel_rfl) (by kernel_rfl) (fun _ _ _ h => h) rfl (Held.y_load_blk (n := 4) rfl rfl Try.underlying23 rfl (by kernel_rfl) rfl (fun W hW => qw.below hW qw.lt)) c0_1 ?_
  simp only [Act.put, List.setIfInBounds_toArray, List.set_cons_zero, List.set_cons_succ]
  refine Held.take (v := .bool true) 8 (some 35) rfl rfl (by kernel_rfl) (by kernel_rfl) (by kernel_rfl) (fun _ _ _ h => h) rfl (y_eqr rfl rfl rfl (by simp)) c0_1 ?_
  simp only [Act.put, List.setIfInBounds_toArray, List.set_cons_zero, List.set_cons_succ]
  refine Held.take (v := .bool true) 9 (some 36) rfl rfl (by kernel_rfl) (by kernel_rfl) (by kernel_rfl) (fun _ _ _ h => h) rfl (Held.y_pick rfl rfl rfl) c0_1 ?_
  simp only [Act.put, List.setIfInBounds_toArray, List.set_cons_zero, List.set_cons_succ]
  refine Held.take (v := .bool true) 10 (some 37) rfl rfl (by kernel_rfl) (by kernel_rfl) (by kernel_rfl) (fun _ _ _ h => h) rfl (Held.y_move rfl rfl) c0_1 ?_
  simp only [Act.put, List.setIfInBounds_toArray, List.set_cons_zero, List.set_cons_succ]
  refine Held.take (v := .int .i64 0) 11 (some 38) rfl rfl (by kernel_rfl) (by kernel_rfl) (by kernel_rfl) (fun _ _ _ h => h) rfl (Held.y_move rfl rfl) c0_1 ?_
  simp only [Act.put, List.setIfInBounds_toArray, List.set_cons_zero, List.set_cons_succ]
  refine Held.take (v := .bool false) 12 (some 39) rfl rfl (by kernel_rfl) (by kernel_rfl) (by kernel_rfl) (fun _ _ _ h => h) rfl (Held.y_neI rfl rfl rfl (by simp)) c0_1 ?_
  simp only [Act.put, List.setIfInBounds_toArray, List.set_cons_zero, List.set_cons_succ]
  refine Held.take (v := .bool false) 13 (some 40) rfl rfl (by kernel_rfl) (by kernel_rfl) (by kernel_rfl) (fun _ _ _ h => h) rfl (Held.y_move rfl rfl) c0_1 ?_
  simp only [Act.put, List.setIfInBounds_toArray, List.set_cons_zero, List.set_cons_succ]
  refine Held.skip 14 (some 41) rfl rfl (by kernel_rfl) (by kernel_rfl) (by kernel_rfl) (fun _ _ _ h => h) rfl c0_1 ?_
  simp only [Act.put, List.setIfInBounds_toArray, List.set_cons_zero, List.set_cons_succ]
  refine Held.skip 15 (some 42) rfl rfl (by kernel_rfl) (by kernel_rfl) (by kernel_rfl) (fun _ _ _ h => h) rfl c0_1 ?_
  simp only [Act.put, List.setIfInBounds_toArray, List.set_cons_zero, List.set_cons_succ]
  refine Held.skip 16 (some 43) rfl rfl (by kernel_rfl) (by kernel_rfl) (by kernel_rfl) (fun _ _ _ h => h) rfl c0_1 ?_
  simp only [Act.put, List.setIfInBounds_toArray, List.set_cons_zero, List.set_cons_succ]
  refine Held.take (v := (.bool false)) 17 (some 44) rfl rfl (by kernel_rfl) (by kernel_rfl) (by kernel_rfl) (fun _ _ _ h => h) rfl (Held.y_pickF rfl rfl rfl) c0_1 ?_
  simp only [Act.put, List.setIfInBounds_toArray, List.set_cons_zero, List.set_cons_succ]
  refine Held.take (v := (.bool false)) 18 (some 45) rfl rfl (by kernel_rfl) (by kernel_rfl) (by kernel_rfl) (fun _ _ _ h => h) rfl (Held.y_move rfl rfl) c0_1 ?_
  simp only [Act.put, List.setIfInBounds_toArray, List.set_cons_zero, List.set_cons_succ]
  refine Held.take (v := .int .i64 0) 19 (some 46) rfl rfl (by kernel_rfl) (by kernel_rfl) (by kernel_rfl) (fun _ _ _ h => h) rfl (Held.y_move rfl rfl) c0_1 ?_
  simp only [Act.put, List.setIfInBounds_toArray, List.set_cons_zero, List.set_cons_succ]
  refine Held.take (v := .bool true) 20 (some 47) rfl rfl (by kernel_rfl) (by kernel_rfl) (by kernel_rfl) (fun _ _ _ h => h) rfl (Held.y_eqI rfl rfl rfl (by simp)) c0_1 ?_
  simp only [Act.put, List.setIfInBounds_toArray, List.set_cons_zero, List.set_cons_succ]
  refine Held.take (v := .bool true) 21 (some 48) rfl rfl (by kernel_rfl) (by kernel_rfl) (by kernel_rfl) (fun _ _ _ h => h) rfl (Held.y_move rfl rfl) c0_1 ?_
  simp only [Act.put, List.setIfInBounds_toArray, List.set_cons_zero, List.set_cons_succ]
  refine Held.take (v := .agg #[.bool xd, .int .i64 xk, .int .i64 xv, .int .i64 xs]) 22 (some 49) rfl rfl (by kernel_rfl) (by kernel_rfl) (by kernel_rfl) (fun _ _ _ h => h) rfl (Held.y_load_blk (n := 4) rfl rfl Try.underlying23 rfl (by kernel_rfl) rfl (fun W hW => qy.below hW qy.lt)) c0_1 ?_
  simp only [Act.put, List.setIfInBounds_toArray, List.set_cons_zero, List.set_cons_succ]
  refine Held.take (v := .agg (arr .u8 zb)) 24 (some 51) rfl rfl (by kernel_rfl) (by kernel_rfl) (by kernel_rfl) (fun _ _ _ h => h) rfl (Held.y_load_Row rfl rfl Try.underlying30 (by kernel_rfl) HZB.out (fun W hW => rb.below hW rb.lt)) c0_1 ?_
  simp only [Act.put, List.setIfInBounds_toArray, List.set_cons_zero, List.set_cons_succ]
  refine Held.one 23 (by kernel_rfl) ?_
  refine Held.op_call 23 (some 50) 12 #[.agg #[.bool xd, .int .i64 xk, .int .i64 xv, .int .i64 xs]] rfl rfl rfl rfl (enters_of Try.func12 (by kernel_rfl) rfl) (by simp [Act.eval])
    (pack_any xd xk xv xs hxk hxv hxs _) ?_
  rintro e w2 ⟨rfl, b2⟩
  have c0_2 := c0_1.trans (b2.mono c0_1.size)
  refine ⟨_, rfl, c0_2, ?_⟩
  simp only [Act.put, List.setIfInBounds_toArray, List.set_cons_zero, List.set_cons_succ]
  refine Held.take (v := .bool true) 25 (some 52) rfl rfl (by kernel_rfl) (by kernel_rfl) (by kernel_rfl) (fun _ _ _ h => h) rfl (y_eqa rfl rfl rfl (by simp [HPK.out]) (by kernel_rfl) Try.underlying30 Try.underlying5 (by kernel_rfl) (packed_length _ _ _ _) HZB.out) c0_2 ?_
  simp only [Act.put, List.setIfInBounds_toArray, List.set_cons_zero, List.set_cons_succ]
  refine Held.take (v := .bool true) 26 (some 53) rfl rfl (by kernel_rfl) (by kernel_rfl) (by kernel_rfl) (fun _ _ _ h => h) rfl (Held.y_pick rfl rfl rfl) c0_2 ?_
  simp only [Act.put, List.setIfInBounds_toArray, List.set_cons_zero, List.set_cons_succ]
  refine Held.take (v := .bool true) 27 (some 54) rfl rfl (by kernel_rfl) (by kernel_rfl) (by kernel_rfl) (fun _ _ _ h => h) rfl (Held.y_pickF rfl rfl rfl) c0_2 ?_
  simp only [Act.put, List.setIfInBounds_toArray, List.set_cons_zero, List.set_cons_succ]
  refine Held.take (v := .bool true) 28 (some 55) rfl rfl (by kernel_rfl) (by kernel_rfl) (by kernel_rfl) (fun _ _ _ h => h) rfl (Held.y_pick rfl rfl rfl) c0_2 ?_
  simp only [Act.put, List.setIfInBounds_toArray, List.set_cons_zero, List.set_cons_succ]
  refine Held.take (v := .bool true) 29 (some 4) rfl rfl (by kernel_rfl) (by kernel_rfl) (by kernel_rfl) (fun _ _ _ h => h) rfl (Held.y_assign rfl rfl) c0_2 ?_
  simp only [Act.put, List.setIfInBounds_toArray, List.set_cons_zero, List.set_cons_succ]
  refine wpAnyH_done (by kernel_rfl) ?_ _
  have dz := f9.trans (c0_2.mono f9.size)
  go_wp2_with fail
  go_ret
  exact ⟨rfl, dz⟩

set_option maxRecDepth 100000 in
set_option maxHeartbeats 16000000 in
theorem start_true_no (k v s : Int) (hk : (Lit.int .i64 k).wf = true) (hv : (Lit.int .i64 v).wf = true) (hs : (Lit.int .i64 s).wf = true) (zb : List Int) (hzl : zb.length = 32) (hzw : ∀ z ∈ zb, (Lit.int .u8 z).wf = true) (htc : takenC zb = #[.bool false, .int .i64 0, .int .i64 0, .int .i64 0]) (hte : takenE zb = 4) (u : World) :
    Calls Try.prog 4 #[.agg #[.bool true, .int .i64 k, .int .i64 v, .int .i64 s], .agg (arr .u8 zb)] u fun e u' => e = .returned (.bool true) ∧ Below u.heap.size u u' := by
  obtain ⟨tc, te⟩ := taken_packed true k v s hk hv hs
  have tc : takenC (packed true k v s) = #[.bool true, .int .i64 0, .int .i64 0, .int .i64 0] := tc
  have HTC := Lib.hid tc
  have HTE := Lib.hid te
  have HYC := Lib.hid htc
  have HYE := Lib.hid hte
  have HZB := Lib.hid hzl
  skip
  clear tc te htc hte hzl
  go_enter Try.func4, Try.ntmps4
  go_wp2_with (first
    | (refine wpList_box_blk (w := u) rfl 23 _ rfl #[.bool true, .int .i64 k, .int .i64 v, .int .i64 s] rfl ?_; intro u1 q1 g1 z1)
    | (refine wpList_box_Row (w := u1) rfl 30 _ rfl .u8 zb rfl hzw ?_; intro u2 rb g2 z2; have q1 := q1.grown g2 (by simp))
    | (refine wpList_load_blk (w := u2) rfl 23 _ rfl u.heap.size 4 rfl 23 _ q1 _ Try.underlying23 rfl (by kernel_rfl) rfl ?_))
  have f2 : Below u.heap.size u u2 := ((Below.refl _ u).grown g1 (Nat.le_refl _) (by simp)).grown g2 g1.size (by simp)
  clear g1 g2 z1 z2
  refine (pack_any true k v s hk hv hs u2).mono ?_
  rintro e u3 ⟨rfl, f3⟩
  have q1 := q1.after f3
  have rb := rb.below f3 rb.lt
  have f3 := f2.trans (f3.mono f2.size)
  clear f2
  have l1 := q1.lt
  have l2 := rb.lt
  have hsl : ∀ W, (Instr.sliceAt 30 (.pointer (some ⟨u3.heap.size, 0, none⟩)) none none none).run Try.prog W = .ok (.slice (some ⟨u3.heap.size, 0, none⟩) 32 32) W := fun W => run_slice_arr_all (P := Try.prog) 30 5 32 u3.heap.size W Try.underlying30 (by kernel_rfl) (by omega)
  go_wp2_with (first
    | (refine wpList_alloc_Row (w := u3) rfl 30 rfl .u8 32 zero_32 ?_; intro ua ra ga za)
    | (refine wpList_store_RowTo (w := ua) rfl 30 _ _ rfl u3.heap.size rfl 30 .u8 _ (packed true k v s) rfl ra 32 info_32 (packed_length _ _ _ _) (by simp) (packed_wf _ _ _ _) ?_; intro ub rp gb zb'))
  have q1 := (q1.grown ga (by simp)).grown gb (by intro e; injection e with e; omega)
  have rb := (rb.grown ga (by simp)).grown gb (by intro e; injection e with e; omega)
  have fb := (f3.grown ga f3.size (by simp)).grown gb (Nat.le_trans f3.size ga.size) (fun r e => by cases e; exact f3.size)
  clear ga gb za zb' ra f3 l1 l2
  have ip := rp.ints (n := 32) (by rw [packed_length]; omega)
  rw [List.take_of_length_le (by rw [packed_length]; omega)] at ip
  refine (take_any ub.heap.size (some ⟨u3.heap.size, 0, none⟩) 32 32 (packed true k v s) ub ip (Nat.le_refl _) (by omega) (by omega)).mono ?_
  rintro e u4 ⟨rfl, f4⟩
  rw [HTC.out, HTE.out]
  have q1 := q1.after f4
  have rb := rb.below f4 rb.lt
  have f4 := fb.trans (f4.mono fb.size)
  clear fb ip rp hsl
  have l1 := q1.lt
  have l2 := rb.lt
  have hsl : ∀ W, (Instr.sliceAt 30 (.pointer (some ⟨u1.heap.size, 0, none⟩)) none none none).run Try.prog W = .ok (.slice (some ⟨u1.heap.size, 0, none⟩) 32 32) W := fun W => run_slice_arr_all (P := Try.prog) 30 5 32 u1.heap.size W Try.underlying30 (by kernel_rfl) (by omega)
  go_wp2_with (first
    | (refine wpList_alloc_blk (w := u4) rfl 23 rfl _ zero_rec ?_; intro u5 qz gz zz)
    | (refine wpList_store_blk (w := u5) rfl 23 _ _ rfl u4.heap.size 4 rfl 23 _ #[.bool true, .int .i64 0, .int .i64 0, .int .i64 0] rfl qz info_rec rfl rfl (by kernel_rfl) ?_; intro u6 qx gx zx; have q1 := (q1.grown gz (by simp)).grown gx (by intro e; injection e with e; omega); have rb := (rb.grown gz (by simp)).grown gx (by intro e; injection e with e; omega); have f6 := (f4.grown gz f4.size (by simp)).grown gx (Nat.le_trans f4.size gz.size) (fun r e => by cases e; exact f4.size); clear gz gx zz zx qz f4 l1 l2; have l1 := q1.lt; have l2 := rb.lt; have l3 := qx.lt)
    | (refine wpList_load_blk (w := u6) rfl 23 _ rfl u.heap.size 4 rfl 23 _ q1 _ Try.underlying23 rfl (by kernel_rfl) rfl ?_)
    | (refine wpList_alloc_blk (w := u6) rfl 23 rfl _ zero_rec ?_; intro uc qz gz zz)
    | (refine wpList_store_blk (w := uc) rfl 23 _ _ rfl u6.heap.size 4 rfl 23 _ #[.bool true, .int .i64 k, .int .i64 v, .int .i64 s] rfl qz info_rec rfl rfl (by kernel_rfl) ?_; intro u7 qw gx zx; have q1 := (q1.grown gz (by simp)).grown gx (by intro e; injection e with e; omega); have rb := (rb.grown gz (by simp)).grown gx (by intro e; injection e with e; omega); have qx := (qx.grown gz (by simp)).grown gx (by intro e; injection e with e; omega); have f7 := (f6.grown gz f6.size (by simp)).grown gx (Nat.le_trans f6.size gz.size) (fun r e => by cases e; exact f6.size); have f6s := f6.size; have m2 := l2; have m3 := l3; clear gz gx zz zx qz l1 l2 l3; have l1 := q1.lt; have l2 := rb.lt; have l3 := qx.lt; have c0 := q1.cell (i := 0) rfl)
    | (refine wpList_run (w := u7) rfl (v := .pointer (some ⟨u.heap.size, 0, none⟩)) (Held.y_field (S := fun _ => True) (k := 0) (s := 0) rfl rfl Try.underlying23 rfl (by kernel_rfl) rfl _ trivial) ?_)
    | (refine wpList_build_blk rfl 23 _ rfl #[.bool true, .int .i64 0, .int .i64 0, .int .i64 0] (by kernel_rfl) ?_)
    | (refine wpList_store_blk (w := u7) rfl 23 _ _ rfl u6.heap.size 4 rfl 23 _ #[.bool true, .int .i64 0, .int .i64 0, .int .i64 0] rfl qw info_rec rfl rfl (by kernel_rfl) ?_; intro ux qw gx zx; have rb := rb.grown gx (by intro e; injection e with e; omega); have qx := qx.grown gx (by intro e; injection e with e; omega); have f7 := f7.grown gx f7.size (fun r e => by cases e; exact f6s); clear gx zx))
  have ib := rb.ints (n := 32) (by rw [HZB.out]; omega)
  rw [List.take_of_length_le (by rw [HZB.out]; omega)] at ib
  refine (take_any ux.heap.size (some ⟨u1.heap.size, 0, none⟩) 32 32 zb ux ib (Nat.le_refl _) (by omega) (by omega)).mono ?_
  rintro e u8 ⟨rfl, f8⟩
  rw [HYC.out, HYE.out]
  have rb := rb.below f8 rb.lt
  have qx := qx.after f8
  have qw := qw.after f8
  have f8 := f7.trans (f8.mono f7.size)
  clear f7 ib hsl l1 l2 l3 c0 m2 m3
  have l2 := rb.lt
  have l3 := qx.lt
  have l4 := qw.lt
  go_wp2_with (first
    | (refine wpList_alloc_blk (w := u8) rfl 23 rfl _ zero_rec ?_; intro ud qz gz zz)
    | (refine wpList_store_blk (w := ud) rfl 23 _ _ rfl u8.heap.size 4 rfl 23 _ #[.bool false, .int .i64 0, .int .i64 0, .int .i64 0] rfl qz info_rec rfl rfl (by kernel_rfl) ?_; intro u9 qy gx zx))
  have rb := (rb.grown gz (by simp)).grown gx (by intro e; injection e with e; omega)
  have qx := (qx.grown gz (by simp)).grown gx (by intro e; injection e with e; omega)
  have qw := (qw.grown gz (by simp)).grown gx (by intro e; injection e with e; omega)
  have f9 := (f8.grown gz f8.size (by simp)).grown gx (Nat.le_trans f8.size gz.size) (fun r e => by cases e; exact f8.size)
  clear gz gx zz zx qz f8 l2 l3 l4
  refine wp_region_held (S := fun W => Below u9.heap.size u9 W) (by kernel_rfl) ?_
  change wpAnyH _ _ _ _ _ _ _ _ u9.drew
  have c0_0 := (Below.refl u9.heap.size u9).drew
  refine Held.one 0 (by kernel_rfl) ?_
  refine Held.op_call 0 (some 27) 8 #[] rfl rfl rfl rfl (enters_of Try.func8 (by kernel_rfl) rfl) (by simp)
    (awake9_any _) ?_
  rintro e w1 ⟨rfl, b1⟩
  have c0_1 := c0_0.trans (b1.mono c0_0.size)
  refine ⟨_, rfl, c0_1, ?_⟩
  simp only [Act.put, List.setIfInBounds_toArray, List.set_cons_zero, List.set_cons_succ]
  refine Held.take (v := .bool true) 1 (some 28) rfl rfl (by kernel_rfl) (by kernel_rfl) (by kernel_rfl) (fun _ _ _ h => h) rfl (Held.y_move rfl rfl) c0_1 ?_
  simp only [Act.put, List.setIfInBounds_toArray, List.set_cons_zero, List.set_cons_succ]
  refine Held.take (v := .int .i64 0) 2 (some 29) rfl rfl (by kernel_rfl) (by kernel_rfl) (by kernel_rfl) (fun _ _ _ h => h) rfl (Held.y_move rfl rfl) c0_1 ?_
  simp only [Act.put, List.setIfInBounds_toArray, List.set_cons_zero, List.set_cons_succ]
  refine Held.take (v := .bool true) 3 (some 30) rfl rfl (by kernel_rfl) (by kernel_rfl) (by kernel_rfl) (fun _ _ _ h => h) rfl (Held.y_eqI rfl rfl rfl (by simp)) c0_1 ?_
  simp only [Act.put, List.setIfInBounds_toArray, List.set_cons_zero, List.set_cons_succ]
  refine Held.take (v := .bool true) 4 (some 31) rfl rfl (by kernel_rfl) (by kernel_rfl) (by kernel_rfl) (fun _ _ _ h => h) rfl (Held.y_pick rfl rfl rfl) c0_1 ?_
  simp only [Act.put, List.setIfInBounds_toArray, List.set_cons_zero, List.set_cons_succ]
  refine Held.take (v := .bool true) 5 (some 32) rfl rfl (by kernel_rfl) (by kernel_rfl) (by kernel_rfl) (fun _ _ _ h => h) rfl (Held.y_move rfl rfl) c0_1 ?_
  simp only [Act.put, List.setIfInBounds_toArray, List.set_cons_zero, List.set_cons_succ]
  refine Held.take (v := .agg #[.bool true, .int .i64 0, .int .i64 0, .int .i64 0]) 6 (some 33) rfl rfl (by kernel_rfl) (by kernel_rfl) (by kernel_rfl) (fun _ _ _ h => h) rfl (Held.y_load_blk (n := 4) rfl rfl Try.underlying23 rfl (by kernel_rfl) rfl (fun W hW => qx.below hW qx.lt)) c0_1 ?_
  simp only [Act.put, List.setIfInBounds_toArray, List.set_cons_zero, List.set_cons_succ]
  refine Held.take (v := .agg #[.bool true, .int .i64 0, .int .i64 0, .int .i64 0]) 7 (some 34) rfl rfl (by kernel_rfl) (by kernel_rfl) (by kernel_rfl) (fun _ _ _ h => h) rfl (Held.y_load_blk (n := 4) rfl rfl Try.underlying23 rfl (by kernel_rfl) rfl (fun W hW => qw.below hW qw.lt)) c0_1 ?_
  simp only [Act.put, List.setIfInBounds_toArray, List.set_cons_zero, List.set_cons_succ]
  refine Held.take (v := .bool true) 8 (some 35) rfl rfl (by kernel_rfl) (by kernel_rfl) (by kernel_rfl) (fun _ _ _ h => h) rfl (y_eqr rfl rfl rfl (by simp)) c0_1 ?_
  simp only [Act.put, List.setIfInBounds_toArray, List.set_cons_zero, List.set_cons_succ]
  refine Held.take (v := .bool true) 9 (some 36) rfl rfl (by kernel_rfl) (by kernel_rfl) (by kernel_rfl) (fun _ _ _ h => h) rfl (Held.y_pick rfl rfl rfl) c0_1 ?_
  simp only [Act.put, List.setIfInBounds_toArray, List.set_cons_zero, List.set_cons_succ]
  refine Held.take (v := .bool true) 10 (some 37) rfl rfl (by kernel_rfl) (by kernel_rfl) (by kernel_rfl) (fun _ _ _ h => h) rfl (Held.y_move rfl rfl) c0_1 ?_
  simp only [Act.put, List.setIfInBounds_toArray, List.set_cons_zero, List.set_cons_succ]
  refine Held.take (v := .int .i64 4) 11 (some 38) rfl rfl (by kernel_rfl) (by kernel_rfl) (by kernel_rfl) (fun _ _ _ h => h) rfl (Held.y_move rfl rfl) c0_1 ?_
  simp only [Act.put, List.setIfInBounds_toArray, List.set_cons_zero, List.set_cons_succ]
  refine Held.take (v := .bool true) 12 (some 39) rfl rfl (by kernel_rfl) (by kernel_rfl) (by kernel_rfl) (fun _ _ _ h => h) rfl (Held.y_neI rfl rfl rfl (by decide)) c0_1 ?_
  simp only [Act.put, List.setIfInBounds_toArray, List.set_cons_zero, List.set_cons_succ]
  refine Held.take (v := .bool true) 13 (some 40) rfl rfl (by kernel_rfl) (by kernel_rfl) (by kernel_rfl) (fun _ _ _ h => h) rfl (Held.y_move rfl rfl) c0_1 ?_
  simp only [Act.put, List.setIfInBounds_toArray, List.set_cons_zero, List.set_cons_succ]
  refine Held.take (v := .agg #[.bool false, .int .i64 0, .int .i64 0, .int .i64 0]) 14 (some 41) rfl rfl (by kernel_rfl) (by kernel_rfl) (by kernel_rfl) (fun _ _ _ h => h) rfl (Held.y_load_blk (n := 4) rfl rfl Try.underlying23 rfl (by kernel_rfl) rfl (fun W hW => qy.below hW qy.lt)) c0_1 ?_
  simp only [Act.put, List.setIfInBounds_toArray, List.set_cons_zero, List.set_cons_succ]
  refine Held.take (v := .agg #[.bool false, .int .i64 0, .int .i64 0, .int .i64 0]) 15 (some 42) rfl rfl (by kernel_rfl) (by kernel_rfl) (by kernel_rfl) (fun _ _ _ h => h) rfl (Held.y_build rfl (by kernel_rfl)) c0_1 ?_
  simp only [Act.put, List.setIfInBounds_toArray, List.set_cons_zero, List.set_cons_succ]
  refine Held.take (v := .bool true) 16 (some 43) rfl rfl (by kernel_rfl) (by kernel_rfl) (by kernel_rfl) (fun _ _ _ h => h) rfl (y_eqr rfl rfl rfl (by simp)) c0_1 ?_
  simp only [Act.put, List.setIfInBounds_toArray, List.set_cons_zero, List.set_cons_succ]
  refine Held.take (v := .bool true) 17 (some 44) rfl rfl (by kernel_rfl) (by kernel_rfl) (by kernel_rfl) (fun _ _ _ h => h) rfl (Held.y_pick rfl rfl rfl) c0_1 ?_
  simp only [Act.put, List.setIfInBounds_toArray, List.set_cons_zero, List.set_cons_succ]
  refine Held.take (v := .bool true) 18 (some 45) rfl rfl (by kernel_rfl) (by kernel_rfl) (by kernel_rfl) (fun _ _ _ h => h) rfl (Held.y_move rfl rfl) c0_1 ?_
  simp only [Act.put, List.setIfInBounds_toArray, List.set_cons_zero, List.set_cons_succ]
  refine Held.skip 19 (some 46) rfl rfl (by kernel_rfl) (by kernel_rfl) (by kernel_rfl) (fun _ _ _ h => h) rfl c0_1 ?_
  simp only [Act.put, List.setIfInBounds_toArray, List.set_cons_zero, List.set_cons_succ]
  refine Held.skip 20 (some 47) rfl rfl (by kernel_rfl) (by kernel_rfl) (by kernel_rfl) (fun _ _ _ h => h) rfl c0_1 ?_
  simp only [Act.put, List.setIfInBounds_toArray, List.set_cons_zero, List.set_cons_succ]
  refine Held.skip 21 (some 48) rfl rfl (by kernel_rfl) (by kernel_rfl) (by kernel_rfl) (fun _ _ _ h => h) rfl c0_1 ?_
  simp only [Act.put, List.setIfInBounds_toArray, List.set_cons_zero, List.set_cons_succ]
  refine Held.skip 22 (some 49) rfl rfl (by kernel_rfl) (by kernel_rfl) (by kernel_rfl) (fun _ _ _ h => h) rfl c0_1 ?_
  simp only [Act.put, List.setIfInBounds_toArray, List.set_cons_zero, List.set_cons_succ]
  refine Held.skip 23 (some 50) rfl rfl (by kernel_rfl) (by kernel_rfl) (by kernel_rfl) (fun _ _ _ h => h) rfl c0_1 ?_
  simp only [Act.put, List.setIfInBounds_toArray, List.set_cons_zero, List.set_cons_succ]
  refine Held.skip 24 (some 51) rfl rfl (by kernel_rfl) (by kernel_rfl) (by kernel_rfl) (fun _ _ _ h => h) rfl c0_1 ?_
  simp only [Act.put, List.setIfInBounds_toArray, List.set_cons_zero, List.set_cons_succ]
  refine Held.skip 25 (some 52) rfl rfl (by kernel_rfl) (by kernel_rfl) (by kernel_rfl) (fun _ _ _ h => h) rfl c0_1 ?_
  simp only [Act.put, List.setIfInBounds_toArray, List.set_cons_zero, List.set_cons_succ]
  refine Held.skip 26 (some 53) rfl rfl (by kernel_rfl) (by kernel_rfl) (by kernel_rfl) (fun _ _ _ h => h) rfl c0_1 ?_
  simp only [Act.put, List.setIfInBounds_toArray, List.set_cons_zero, List.set_cons_succ]
  refine Held.take (v := (.bool true)) 27 (some 54) rfl rfl (by kernel_rfl) (by kernel_rfl) (by kernel_rfl) (fun _ _ _ h => h) rfl (Held.y_pick rfl rfl rfl) c0_1 ?_
  simp only [Act.put, List.setIfInBounds_toArray, List.set_cons_zero, List.set_cons_succ]
  refine Held.take (v := (.bool true)) 28 (some 55) rfl rfl (by kernel_rfl) (by kernel_rfl) (by kernel_rfl) (fun _ _ _ h => h) rfl (Held.y_pick rfl rfl rfl) c0_1 ?_
  simp only [Act.put, List.setIfInBounds_toArray, List.set_cons_zero, List.set_cons_succ]
  refine Held.take (v := (.bool true)) 29 (some 4) rfl rfl (by kernel_rfl) (by kernel_rfl) (by kernel_rfl) (fun _ _ _ h => h) rfl (Held.y_assign rfl rfl) c0_1 ?_
  simp only [Act.put, List.setIfInBounds_toArray, List.set_cons_zero, List.set_cons_succ]
  refine wpAnyH_done (by kernel_rfl) ?_ _
  have dz := f9.trans (c0_1.mono f9.size)
  go_wp2_with fail
  go_ret
  exact ⟨rfl, dz⟩

set_option maxRecDepth 100000 in
set_option maxHeartbeats 16000000 in
theorem start_false_ok (k v s : Int) (hk : (Lit.int .i64 k).wf = true) (hv : (Lit.int .i64 v).wf = true) (hs : (Lit.int .i64 s).wf = true) (zb : List Int) (hzl : zb.length = 32) (hzw : ∀ z ∈ zb, (Lit.int .u8 z).wf = true) (xd : Bool) (xk xv xs : Int) (hxk : (Lit.int .i64 xk).wf = true) (hxv : (Lit.int .i64 xv).wf = true) (hxs : (Lit.int .i64 xs).wf = true) (hpk : packed xd xk xv xs = zb) (htc : takenC zb = #[.bool xd, .int .i64 xk, .int .i64 xv, .int .i64 xs]) (hte : takenE zb = 0) (u : World) :
    Calls Try.prog 4 #[.agg #[.bool false, .int .i64 k, .int .i64 v, .int .i64 s], .agg (arr .u8 zb)] u fun e u' => e = .returned (.bool true) ∧ Below u.heap.size u u' := by
  obtain ⟨tc, te⟩ := taken_packed false k v s hk hv hs
  have tc : takenC (packed false k v s) = #[.bool false, .int .i64 k, .int .i64 v, .int .i64 s] := tc
  have HTC := Lib.hid tc
  have HTE := Lib.hid te
  have HYC := Lib.hid htc
  have HYE := Lib.hid hte
  have HZB := Lib.hid hzl
  have HPK := Lib.hid hpk
  clear hpk
  clear tc te htc hte hzl
  go_enter Try.func4, Try.ntmps4
  go_wp2_with (first
    | (refine wpList_box_blk (w := u) rfl 23 _ rfl #[.bool false, .int .i64 k, .int .i64 v, .int .i64 s] rfl ?_; intro u1 q1 g1 z1)
    | (refine wpList_box_Row (w := u1) rfl 30 _ rfl .u8 zb rfl hzw ?_; intro u2 rb g2 z2; have q1 := q1.grown g2 (by simp))
    | (refine wpList_load_blk (w := u2) rfl 23 _ rfl u.heap.size 4 rfl 23 _ q1 _ Try.underlying23 rfl (by kernel_rfl) rfl ?_))
  have f2 : Below u.heap.size u u2 := ((Below.refl _ u).grown g1 (Nat.le_refl _) (by simp)).grown g2 g1.size (by simp)
  clear g1 g2 z1 z2
  refine (pack_any false k v s hk hv hs u2).mono ?_
  rintro e u3 ⟨rfl, f3⟩
  have q1 := q1.after f3
  have rb := rb.below f3 rb.lt
  have f3 := f2.trans (f3.mono f2.size)
  clear f2
  have l1 := q1.lt
  have l2 := rb.lt
  have hsl : ∀ W, (Instr.sliceAt 30 (.pointer (some ⟨u3.heap.size, 0, none⟩)) none none none).run Try.prog W = .ok (.slice (some ⟨u3.heap.size, 0, none⟩) 32 32) W := fun W => run_slice_arr_all (P := Try.prog) 30 5 32 u3.heap.size W Try.underlying30 (by kernel_rfl) (by omega)
  go_wp2_with (first
    | (refine wpList_alloc_Row (w := u3) rfl 30 rfl .u8 32 zero_32 ?_; intro ua ra ga za)
    | (refine wpList_store_RowTo (w := ua) rfl 30 _ _ rfl u3.heap.size rfl 30 .u8 _ (packed false k v s) rfl ra 32 info_32 (packed_length _ _ _ _) (by simp) (packed_wf _ _ _ _) ?_; intro ub rp gb zb'))
  have q1 := (q1.grown ga (by simp)).grown gb (by intro e; injection e with e; omega)
  have rb := (rb.grown ga (by simp)).grown gb (by intro e; injection e with e; omega)
  have fb := (f3.grown ga f3.size (by simp)).grown gb (Nat.le_trans f3.size ga.size) (fun r e => by cases e; exact f3.size)
  clear ga gb za zb' ra f3 l1 l2
  have ip := rp.ints (n := 32) (by rw [packed_length]; omega)
  rw [List.take_of_length_le (by rw [packed_length]; omega)] at ip
  refine (take_any ub.heap.size (some ⟨u3.heap.size, 0, none⟩) 32 32 (packed false k v s) ub ip (Nat.le_refl _) (by omega) (by omega)).mono ?_
  rintro e u4 ⟨rfl, f4⟩
  rw [HTC.out, HTE.out]
  have q1 := q1.after f4
  have rb := rb.below f4 rb.lt
  have f4 := fb.trans (f4.mono fb.size)
  clear fb ip rp hsl
  have l1 := q1.lt
  have l2 := rb.lt
  have hsl : ∀ W, (Instr.sliceAt 30 (.pointer (some ⟨u1.heap.size, 0, none⟩)) none none none).run Try.prog W = .ok (.slice (some ⟨u1.heap.size, 0, none⟩) 32 32) W := fun W => run_slice_arr_all (P := Try.prog) 30 5 32 u1.heap.size W Try.underlying30 (by kernel_rfl) (by omega)
  go_wp2_with (first
    | (refine wpList_alloc_blk (w := u4) rfl 23 rfl _ zero_rec ?_; intro u5 qz gz zz)
    | (refine wpList_store_blk (w := u5) rfl 23 _ _ rfl u4.heap.size 4 rfl 23 _ #[.bool false, .int .i64 k, .int .i64 v, .int .i64 s] rfl qz info_rec rfl rfl (by kernel_rfl) ?_; intro u6 qx gx zx; have q1 := (q1.grown gz (by simp)).grown gx (by intro e; injection e with e; omega); have rb := (rb.grown gz (by simp)).grown gx (by intro e; injection e with e; omega); have f6 := (f4.grown gz f4.size (by simp)).grown gx (Nat.le_trans f4.size gz.size) (fun r e => by cases e; exact f4.size); clear gz gx zz zx qz f4 l1 l2; have l1 := q1.lt; have l2 := rb.lt; have l3 := qx.lt)
    | (refine wpList_load_blk (w := u6) rfl 23 _ rfl u.heap.size 4 rfl 23 _ q1 _ Try.underlying23 rfl (by kernel_rfl) rfl ?_)
    | (refine wpList_alloc_blk (w := u6) rfl 23 rfl _ zero_rec ?_; intro uc qz gz zz)
    | (refine wpList_store_blk (w := uc) rfl 23 _ _ rfl u6.heap.size 4 rfl 23 _ #[.bool false, .int .i64 k, .int .i64 v, .int .i64 s] rfl qz info_rec rfl rfl (by kernel_rfl) ?_; intro u7 qw gx zx; have q1 := (q1.grown gz (by simp)).grown gx (by intro e; injection e with e; omega); have rb := (rb.grown gz (by simp)).grown gx (by intro e; injection e with e; omega); have qx := (qx.grown gz (by simp)).grown gx (by intro e; injection e with e; omega); have f7 := (f6.grown gz f6.size (by simp)).grown gx (Nat.le_trans f6.size gz.size) (fun r e => by cases e; exact f6.size); have f6s := f6.size; have m2 := l2; have m3 := l3; clear gz gx zz zx qz l1 l2 l3; have l1 := q1.lt; have l2 := rb.lt; have l3 := qx.lt; have c0 := q1.cell (i := 0) rfl)
    | (refine wpList_run (w := u7) rfl (v := .pointer (some ⟨u.heap.size, 0, none⟩)) (Held.y_field (S := fun _ => True) (k := 0) (s := 0) rfl rfl Try.underlying23 rfl (by kernel_rfl) rfl _ trivial) ?_)
    | (refine wpList_build_blk rfl 23 _ rfl #[.bool true, .int .i64 0, .int .i64 0, .int .i64 0] (by kernel_rfl) ?_)
    | (refine wpList_store_blk (w := u7) rfl 23 _ _ rfl u6.heap.size 4 rfl 23 _ #[.bool true, .int .i64 0, .int .i64 0, .int .i64 0] rfl qw info_rec rfl rfl (by kernel_rfl) ?_; intro ux qw gx zx; have rb := rb.grown gx (by intro e; injection e with e; omega); have qx := qx.grown gx (by intro e; injection e with e; omega); have f7 := f7.grown gx f7.size (fun r e => by cases e; exact f6s); clear gx zx))
  have ib := rb.ints (n := 32) (by rw [HZB.out]; omega)
  rw [List.take_of_length_le (by rw [HZB.out]; omega)] at ib
  refine (take_any u7.heap.size (some ⟨u1.heap.size, 0, none⟩) 32 32 zb u7 ib (Nat.le_refl _) (by omega) (by omega)).mono ?_
  rintro e u8 ⟨rfl, f8⟩
  rw [HYC.out, HYE.out]
  have rb := rb.below f8 rb.lt
  have qx := qx.after f8
  have qw := qw.after f8
  have f8 := f7.trans (f8.mono f7.size)
  clear f7 ib hsl l1 l2 l3 c0 m2 m3
  have l2 := rb.lt
  have l3 := qx.lt
  have l4 := qw.lt
  go_wp2_with (first
    | (refine wpList_alloc_blk (w := u8) rfl 23 rfl _ zero_rec ?_; intro ud qz gz zz)
    | (refine wpList_store_blk (w := ud) rfl 23 _ _ rfl u8.heap.size 4 rfl 23 _ #[.bool xd, .int .i64 xk, .int .i64 xv, .int .i64 xs] rfl qz info_rec rfl rfl (by kernel_rfl) ?_; intro u9 qy gx zx))
  have rb := (rb.grown gz (by simp)).grown gx (by intro e; injection e with e; omega)
  have qx := (qx.grown gz (by simp)).grown gx (by intro e; injection e with e; omega)
  have qw := (qw.grown gz (by simp)).grown gx (by intro e; injection e with e; omega)
  have f9 := (f8.grown gz f8.size (by simp)).grown gx (Nat.le_trans f8.size gz.size) (fun r e => by cases e; exact f8.size)
  clear gz gx zz zx qz f8 l2 l3 l4
  refine wp_region_held (S := fun W => Below u9.heap.size u9 W) (by kernel_rfl) ?_
  change wpAnyH _ _ _ _ _ _ _ _ u9.drew
  have c0_0 := (Below.refl u9.heap.size u9).drew
  refine Held.one 0 (by kernel_rfl) ?_
  refine Held.op_call 0 (some 27) 8 #[] rfl rfl rfl rfl (enters_of Try.func8 (by kernel_rfl) rfl) (by simp)
    (awake9_any _) ?_
  rintro e w1 ⟨rfl, b1⟩
  have c0_1 := c0_0.trans (b1.mono c0_0.size)
  refine ⟨_, rfl, c0_1, ?_⟩
  simp only [Act.put, List.setIfInBounds_toArray, List.set_cons_zero, List.set_cons_succ]
  refine Held.take (v := .bool true) 1 (some 28) rfl rfl (by kernel_rfl) (by kernel_rfl) (by kernel_rfl) (fun _ _ _ h => h) rfl (Held.y_move rfl rfl) c0_1 ?_
  simp only [Act.put, List.setIfInBounds_toArray, List.set_cons_zero, List.set_cons_succ]
  refine Held.take (v := .int .i64 0) 2 (some 29) rfl rfl (by kernel_rfl) (by kernel_rfl) (by kernel_rfl) (fun _ _ _ h => h) rfl (Held.y_move rfl rfl) c0_1 ?_
  simp only [Act.put, List.setIfInBounds_toArray, List.set_cons_zero, List.set_cons_succ]
  refine Held.take (v := .bool true) 3 (some 30) rfl rfl (by kernel_rfl) (by kernel_rfl) (by kernel_rfl) (fun _ _ _ h => h) rfl (Held.y_eqI rfl rfl rfl (by simp)) c0_1 ?_
  simp only [Act.put, List.setIfInBounds_toArray, List.set_cons_zero, List.set_cons_succ]
  refine Held.take (v := .bool true) 4 (some 31) rfl rfl (by kernel_rfl) (by kernel_rfl) (by kernel_rfl) (fun _ _ _ h => h) rfl (Held.y_pick rfl rfl rfl) c0_1 ?_
  simp only [Act.put, List.setIfInBounds_toArray, List.set_cons_zero, List.set_cons_succ]
  refine Held.take (v := .bool true) 5 (some 32) rfl rfl (by kernel_rfl) (by kernel_rfl) (by kernel_rfl) (fun _ _ _ h => h) rfl (Held.y_move rfl rfl) c0_1 ?_
  simp only [Act.put, List.setIfInBounds_toArray, List.set_cons_zero, List.set_cons_succ]
  refine Held.take (v := .agg #[.bool false, .int .i64 k, .int .i64 v, .int .i64 s]) 6 (some 33) rfl rfl (by kernel_rfl) (by kernel_rfl) (by kernel_rfl) (fun _ _ _ h => h) rfl (Held.y_load_blk (n := 4) rfl rfl Try.underlying23 rfl (by kernel_rfl) rfl (fun W hW => qx.below hW qx.lt)) c0_1 ?_
  simp only [Act.put, List.setIfInBounds_toArray, List.set_cons_zero, List.set_cons_succ]
  refine Held.take (v := .agg #[.bool false, .int .i64 k, .int .i64 v, .int .i64 s]) 7 (some 34) rfl rfl (by kernel_rfl) (by kernel_rfl) (by kernel_rfl) (fun _ _ _ h => h) rfl (Held.y_load_blk (n := 4) rfl rfl Try.underlying23 rfl (by kernel_rfl) rfl (fun W hW => qw.below hW qw.lt)) c0_1 ?_
  simp only [Act.put, List.setIfInBounds_toArray, List.set_cons_zero, List.set_cons_succ]
  refine Held.take (v := .bool true) 8 (some 35) rfl rfl (by kernel_rfl) (by kernel_rfl) (by kernel_rfl) (fun _ _ _ h => h) rfl (y_eqr rfl rfl rfl (by simp)) c0_1 ?_
  simp only [Act.put, List.setIfInBounds_toArray, List.set_cons_zero, List.set_cons_succ]
  refine Held.take (v := .bool true) 9 (some 36) rfl rfl (by kernel_rfl) (by kernel_rfl) (by kernel_rfl) (fun _ _ _ h => h) rfl (Held.y_pick rfl rfl rfl) c0_1 ?_
  simp only [Act.put, List.setIfInBounds_toArray, List.set_cons_zero, List.set_cons_succ]
  refine Held.take (v := .bool true) 10 (some 37) rfl rfl (by kernel_rfl) (by kernel_rfl) (by kernel_rfl) (fun _ _ _ h => h) rfl (Held.y_move rfl rfl) c0_1 ?_
  simp only [Act.put, List.setIfInBounds_toArray, List.set_cons_zero, List.set_cons_succ]
  refine Held.take (v := .int .i64 0) 11 (some 38) rfl rfl (by kernel_rfl) (by kernel_rfl) (by kernel_rfl) (fun _ _ _ h => h) rfl (Held.y_move rfl rfl) c0_1 ?_
  simp only [Act.put, List.setIfInBounds_toArray, List.set_cons_zero, List.set_cons_succ]
  refine Held.take (v := .bool false) 12 (some 39) rfl rfl (by kernel_rfl) (by kernel_rfl) (by kernel_rfl) (fun _ _ _ h => h) rfl (Held.y_neI rfl rfl rfl (by simp)) c0_1 ?_
  simp only [Act.put, List.setIfInBounds_toArray, List.set_cons_zero, List.set_cons_succ]
  refine Held.take (v := .bool false) 13 (some 40) rfl rfl (by kernel_rfl) (by kernel_rfl) (by kernel_rfl) (fun _ _ _ h => h) rfl (Held.y_move rfl rfl) c0_1 ?_
  simp only [Act.put, List.setIfInBounds_toArray, List.set_cons_zero, List.set_cons_succ]
  refine Held.skip 14 (some 41) rfl rfl (by kernel_rfl) (by kernel_rfl) (by kernel_rfl) (fun _ _ _ h => h) rfl c0_1 ?_
  simp only [Act.put, List.setIfInBounds_toArray, List.set_cons_zero, List.set_cons_succ]
  refine Held.skip 15 (some 42) rfl rfl (by kernel_rfl) (by kernel_rfl) (by kernel_rfl) (fun _ _ _ h => h) rfl c0_1 ?_
  simp only [Act.put, List.setIfInBounds_toArray, List.set_cons_zero, List.set_cons_succ]
  refine Held.skip 16 (some 43) rfl rfl (by kernel_rfl) (by kernel_rfl) (by kernel_rfl) (fun _ _ _ h => h) rfl c0_1 ?_
  simp only [Act.put, List.setIfInBounds_toArray, List.set_cons_zero, List.set_cons_succ]
  refine Held.take (v := (.bool false)) 17 (some 44) rfl rfl (by kernel_rfl) (by kernel_rfl) (by kernel_rfl) (fun _ _ _ h => h) rfl (Held.y_pickF rfl rfl rfl) c0_1 ?_
  simp only [Act.put, List.setIfInBounds_toArray, List.set_cons_zero, List.set_cons_succ]
  refine Held.take (v := (.bool false)) 18 (some 45) rfl rfl (by kernel_rfl) (by kernel_rfl) (by kernel_rfl) (fun _ _ _ h => h) rfl (Held.y_move rfl rfl) c0_1 ?_
  simp only [Act.put, List.setIfInBounds_toArray, List.set_cons_zero, List.set_cons_succ]
  refine Held.take (v := .int .i64 0) 19 (some 46) rfl rfl (by kernel_rfl) (by kernel_rfl) (by kernel_rfl) (fun _ _ _ h => h) rfl (Held.y_move rfl rfl) c0_1 ?_
  simp only [Act.put, List.setIfInBounds_toArray, List.set_cons_zero, List.set_cons_succ]
  refine Held.take (v := .bool true) 20 (some 47) rfl rfl (by kernel_rfl) (by kernel_rfl) (by kernel_rfl) (fun _ _ _ h => h) rfl (Held.y_eqI rfl rfl rfl (by simp)) c0_1 ?_
  simp only [Act.put, List.setIfInBounds_toArray, List.set_cons_zero, List.set_cons_succ]
  refine Held.take (v := .bool true) 21 (some 48) rfl rfl (by kernel_rfl) (by kernel_rfl) (by kernel_rfl) (fun _ _ _ h => h) rfl (Held.y_move rfl rfl) c0_1 ?_
  simp only [Act.put, List.setIfInBounds_toArray, List.set_cons_zero, List.set_cons_succ]
  refine Held.take (v := .agg #[.bool xd, .int .i64 xk, .int .i64 xv, .int .i64 xs]) 22 (some 49) rfl rfl (by kernel_rfl) (by kernel_rfl) (by kernel_rfl) (fun _ _ _ h => h) rfl (Held.y_load_blk (n := 4) rfl rfl Try.underlying23 rfl (by kernel_rfl) rfl (fun W hW => qy.below hW qy.lt)) c0_1 ?_
  simp only [Act.put, List.setIfInBounds_toArray, List.set_cons_zero, List.set_cons_succ]
  refine Held.take (v := .agg (arr .u8 zb)) 24 (some 51) rfl rfl (by kernel_rfl) (by kernel_rfl) (by kernel_rfl) (fun _ _ _ h => h) rfl (Held.y_load_Row rfl rfl Try.underlying30 (by kernel_rfl) HZB.out (fun W hW => rb.below hW rb.lt)) c0_1 ?_
  simp only [Act.put, List.setIfInBounds_toArray, List.set_cons_zero, List.set_cons_succ]
  refine Held.one 23 (by kernel_rfl) ?_
  refine Held.op_call 23 (some 50) 12 #[.agg #[.bool xd, .int .i64 xk, .int .i64 xv, .int .i64 xs]] rfl rfl rfl rfl (enters_of Try.func12 (by kernel_rfl) rfl) (by simp [Act.eval])
    (pack_any xd xk xv xs hxk hxv hxs _) ?_
  rintro e w2 ⟨rfl, b2⟩
  have c0_2 := c0_1.trans (b2.mono c0_1.size)
  refine ⟨_, rfl, c0_2, ?_⟩
  simp only [Act.put, List.setIfInBounds_toArray, List.set_cons_zero, List.set_cons_succ]
  refine Held.take (v := .bool true) 25 (some 52) rfl rfl (by kernel_rfl) (by kernel_rfl) (by kernel_rfl) (fun _ _ _ h => h) rfl (y_eqa rfl rfl rfl (by simp [HPK.out]) (by kernel_rfl) Try.underlying30 Try.underlying5 (by kernel_rfl) (packed_length _ _ _ _) HZB.out) c0_2 ?_
  simp only [Act.put, List.setIfInBounds_toArray, List.set_cons_zero, List.set_cons_succ]
  refine Held.take (v := .bool true) 26 (some 53) rfl rfl (by kernel_rfl) (by kernel_rfl) (by kernel_rfl) (fun _ _ _ h => h) rfl (Held.y_pick rfl rfl rfl) c0_2 ?_
  simp only [Act.put, List.setIfInBounds_toArray, List.set_cons_zero, List.set_cons_succ]
  refine Held.take (v := .bool true) 27 (some 54) rfl rfl (by kernel_rfl) (by kernel_rfl) (by kernel_rfl) (fun _ _ _ h => h) rfl (Held.y_pickF rfl rfl rfl) c0_2 ?_
  simp only [Act.put, List.setIfInBounds_toArray, List.set_cons_zero, List.set_cons_succ]
  refine Held.take (v := .bool true) 28 (some 55) rfl rfl (by kernel_rfl) (by kernel_rfl) (by kernel_rfl) (fun _ _ _ h => h) rfl (Held.y_pick rfl rfl rfl) c0_2 ?_
  simp only [Act.put, List.setIfInBounds_toArray, List.set_cons_zero, List.set_cons_succ]
  refine Held.take (v := .bool true) 29 (some 4) rfl rfl (by kernel_rfl) (by kernel_rfl) (by kernel_rfl) (fun _ _ _ h => h) rfl (Held.y_assign rfl rfl) c0_2 ?_
  simp only [Act.put, List.setIfInBounds_toArray, List.set_cons_zero, List.set_cons_succ]
  refine wpAnyH_done (by kernel_rfl) ?_ _
  have dz := f9.trans (c0_2.mono f9.size)
  go_wp2_with fail
  go_ret
  exact ⟨rfl, dz⟩

set_option maxRecDepth 100000 in
set_option maxHeartbeats 16000000 in
theorem start_false_no (k v s : Int) (hk : (Lit.int .i64 k).wf = true) (hv : (Lit.int .i64 v).wf = true) (hs : (Lit.int .i64 s).wf = true) (zb : List Int) (hzl : zb.length = 32) (hzw : ∀ z ∈ zb, (Lit.int .u8 z).wf = true) (htc : takenC zb = #[.bool false, .int .i64 0, .int .i64 0, .int .i64 0]) (hte : takenE zb = 4) (u : World) :
    Calls Try.prog 4 #[.agg #[.bool false, .int .i64 k, .int .i64 v, .int .i64 s], .agg (arr .u8 zb)] u fun e u' => e = .returned (.bool true) ∧ Below u.heap.size u u' := by
  obtain ⟨tc, te⟩ := taken_packed false k v s hk hv hs
  have tc : takenC (packed false k v s) = #[.bool false, .int .i64 k, .int .i64 v, .int .i64 s] := tc
  have HTC := Lib.hid tc
  have HTE := Lib.hid te
  have HYC := Lib.hid htc
  have HYE := Lib.hid hte
  have HZB := Lib.hid hzl
  skip
  clear tc te htc hte hzl
  go_enter Try.func4, Try.ntmps4
  go_wp2_with (first
    | (refine wpList_box_blk (w := u) rfl 23 _ rfl #[.bool false, .int .i64 k, .int .i64 v, .int .i64 s] rfl ?_; intro u1 q1 g1 z1)
    | (refine wpList_box_Row (w := u1) rfl 30 _ rfl .u8 zb rfl hzw ?_; intro u2 rb g2 z2; have q1 := q1.grown g2 (by simp))
    | (refine wpList_load_blk (w := u2) rfl 23 _ rfl u.heap.size 4 rfl 23 _ q1 _ Try.underlying23 rfl (by kernel_rfl) rfl ?_))
  have f2 : Below u.heap.size u u2 := ((Below.refl _ u).grown g1 (Nat.le_refl _) (by simp)).grown g2 g1.size (by simp)
  clear g1 g2 z1 z2
  refine (pack_any false k v s hk hv hs u2).mono ?_
  rintro e u3 ⟨rfl, f3⟩
  have q1 := q1.after f3
  have rb := rb.below f3 rb.lt
  have f3 := f2.trans (f3.mono f2.size)
  clear f2
  have l1 := q1.lt
  have l2 := rb.lt
  have hsl : ∀ W, (Instr.sliceAt 30 (.pointer (some ⟨u3.heap.size, 0, none⟩)) none none none).run Try.prog W = .ok (.slice (some ⟨u3.heap.size, 0, none⟩) 32 32) W := fun W => run_slice_arr_all (P := Try.prog) 30 5 32 u3.heap.size W Try.underlying30 (by kernel_rfl) (by omega)
  go_wp2_with (first
    | (refine wpList_alloc_Row (w := u3) rfl 30 rfl .u8 32 zero_32 ?_; intro ua ra ga za)
    | (refine wpList_store_RowTo (w := ua) rfl 30 _ _ rfl u3.heap.size rfl 30 .u8 _ (packed false k v s) rfl ra 32 info_32 (packed_length _ _ _ _) (by simp) (packed_wf _ _ _ _) ?_; intro ub rp gb zb'))
  have q1 := (q1.grown ga (by simp)).grown gb (by intro e; injection e with e; omega)
  have rb := (rb.grown ga (by simp)).grown gb (by intro e; injection e with e; omega)
  have fb := (f3.grown ga f3.size (by simp)).grown gb (Nat.le_trans f3.size ga.size) (fun r e => by cases e; exact f3.size)
  clear ga gb za zb' ra f3 l1 l2
  have ip := rp.ints (n := 32) (by rw [packed_length]; omega)
  rw [List.take_of_length_le (by rw [packed_length]; omega)] at ip
  refine (take_any ub.heap.size (some ⟨u3.heap.size, 0, none⟩) 32 32 (packed false k v s) ub ip (Nat.le_refl _) (by omega) (by omega)).mono ?_
  rintro e u4 ⟨rfl, f4⟩
  rw [HTC.out, HTE.out]
  have q1 := q1.after f4
  have rb := rb.below f4 rb.lt
  have f4 := fb.trans (f4.mono fb.size)
  clear fb ip rp hsl
  have l1 := q1.lt
  have l2 := rb.lt
  have hsl : ∀ W, (Instr.sliceAt 30 (.pointer (some ⟨u1.heap.size, 0, none⟩)) none none none).run Try.prog W = .ok (.slice (some ⟨u1.heap.size, 0, none⟩) 32 32) W := fun W => run_slice_arr_all (P := Try.prog) 30 5 32 u1.heap.size W Try.underlying30 (by kernel_rfl) (by omega)
  go_wp2_with (first
    | (refine wpList_alloc_blk (w := u4) rfl 23 rfl _ zero_rec ?_; intro u5 qz gz zz)
    | (refine wpList_store_blk (w := u5) rfl 23 _ _ rfl u4.heap.size 4 rfl 23 _ #[.bool false, .int .i64 k, .int .i64 v, .int .i64 s] rfl qz info_rec rfl rfl (by kernel_rfl) ?_; intro u6 qx gx zx; have q1 := (q1.grown gz (by simp)).grown gx (by intro e; injection e with e; omega); have rb := (rb.grown gz (by simp)).grown gx (by intro e; injection e with e; omega); have f6 := (f4.grown gz f4.size (by simp)).grown gx (Nat.le_trans f4.size gz.size) (fun r e => by cases e; exact f4.size); clear gz gx zz zx qz f4 l1 l2; have l1 := q1.lt; have l2 := rb.lt; have l3 := qx.lt)
    | (refine wpList_load_blk (w := u6) rfl 23 _ rfl u.heap.size 4 rfl 23 _ q1 _ Try.underlying23 rfl (by kernel_rfl) rfl ?_)
    | (refine wpList_alloc_blk (w := u6) rfl 23 rfl _ zero_rec ?_; intro uc qz gz zz)
    | (refine wpList_store_blk (w := uc) rfl 23 _ _ rfl u6.heap.size 4 rfl 23 _ #[.bool false, .int .i64 k, .int .i64 v, .int .i64 s] rfl qz info_rec rfl rfl (by kernel_rfl) ?_; intro u7 qw gx zx; have q1 := (q1.grown gz (by simp)).grown gx (by intro e; injection e with e; omega); have rb := (rb.grown gz (by simp)).grown gx (by intro e; injection e with e; omega); have qx := (qx.grown gz (by simp)).grown gx (by intro e; injection e with e; omega); have f7 := (f6.grown gz f6.size (by simp)).grown gx (Nat.le_trans f6.size gz.size) (fun r e => by cases e; exact f6.size); have f6s := f6.size; have m2 := l2; have m3 := l3; clear gz gx zz zx qz l1 l2 l3; have l1 := q1.lt; have l2 := rb.lt; have l3 := qx.lt; have c0 := q1.cell (i := 0) rfl)
    | (refine wpList_run (w := u7) rfl (v := .pointer (some ⟨u.heap.size, 0, none⟩)) (Held.y_field (S := fun _ => True) (k := 0) (s := 0) rfl rfl Try.underlying23 rfl (by kernel_rfl) rfl _ trivial) ?_)
    | (refine wpList_build_blk rfl 23 _ rfl #[.bool true, .int .i64 0, .int .i64 0, .int .i64 0] (by kernel_rfl) ?_)
    | (refine wpList_store_blk (w := u7) rfl 23 _ _ rfl u6.heap.size 4 rfl 23 _ #[.bool true, .int .i64 0, .int .i64 0, .int .i64 0] rfl qw info_rec rfl rfl (by kernel_rfl) ?_; intro ux qw gx zx; have rb := rb.grown gx (by intro e; injection e with e; omega); have qx := qx.grown gx (by intro e; injection e with e; omega); have f7 := f7.grown gx f7.size (fun r e => by cases e; exact f6s); clear gx zx))
  have ib := rb.ints (n := 32) (by rw [HZB.out]; omega)
  rw [List.take_of_length_le (by rw [HZB.out]; omega)] at ib
  refine (take_any u7.heap.size (some ⟨u1.heap.size, 0, none⟩) 32 32 zb u7 ib (Nat.le_refl _) (by omega) (by omega)).mono ?_
  rintro e u8 ⟨rfl, f8⟩
  rw [HYC.out, HYE.out]
  have rb := rb.below f8 rb.lt
  have qx := qx.after f8
  have qw := qw.after f8
  have f8 := f7.trans (f8.mono f7.size)
  clear f7 ib hsl l1 l2 l3 c0 m2 m3
  have l2 := rb.lt
  have l3 := qx.lt
  have l4 := qw.lt
  go_wp2_with (first
    | (refine wpList_alloc_blk (w := u8) rfl 23 rfl _ zero_rec ?_; intro ud qz gz zz)
    | (refine wpList_store_blk (w := ud) rfl 23 _ _ rfl u8.heap.size 4 rfl 23 _ #[.bool false, .int .i64 0, .int .i64 0, .int .i64 0] rfl qz info_rec rfl rfl (by kernel_rfl) ?_; intro u9 qy gx zx))
  have rb := (rb.grown gz (by simp)).grown gx (by intro e; injection e with e; omega)
  have qx := (qx.grown gz (by simp)).grown gx (by intro e; injection e with e; omega)
  have qw := (qw.grown gz (by simp)).grown gx (by intro e; injection e with e; omega)
  have f9 := (f8.grown gz f8.size (by simp)).grown gx (Nat.le_trans f8.size gz.size) (fun r e => by cases e; exact f8.size)
  clear gz gx zz zx qz f8 l2 l3 l4
  refine wp_region_held (S := fun W => Below u9.heap.size u9 W) (by kernel_rfl) ?_
  change wpAnyH _ _ _ _ _ _ _ _ u9.drew
  have c0_0 := (Below.refl u9.heap.size u9).drew
  refine Held.one 0 (by kernel_rfl) ?_
  refine Held.op_call 0 (some 27) 8 #[] rfl rfl rfl rfl (enters_of Try.func8 (by kernel_rfl) rfl) (by simp)
    (awake9_any _) ?_
  rintro e w1 ⟨rfl, b1⟩
  have c0_1 := c0_0.trans (b1.mono c0_0.size)
  refine ⟨_, rfl, c0_1, ?_⟩
  simp only [Act.put, List.setIfInBounds_toArray, List.set_cons_zero, List.set_cons_succ]
  refine Held.take (v := .bool true) 1 (some 28) rfl rfl (by kernel_rfl) (by kernel_rfl) (by kernel_rfl) (fun _ _ _ h => h) rfl (Held.y_move rfl rfl) c0_1 ?_
  simp only [Act.put, List.setIfInBounds_toArray, List.set_cons_zero, List.set_cons_succ]
  refine Held.take (v := .int .i64 0) 2 (some 29) rfl rfl (by kernel_rfl) (by kernel_rfl) (by kernel_rfl) (fun _ _ _ h => h) rfl (Held.y_move rfl rfl) c0_1 ?_
  simp only [Act.put, List.setIfInBounds_toArray, List.set_cons_zero, List.set_cons_succ]
  refine Held.take (v := .bool true) 3 (some 30) rfl rfl (by kernel_rfl) (by kernel_rfl) (by kernel_rfl) (fun _ _ _ h => h) rfl (Held.y_eqI rfl rfl rfl (by simp)) c0_1 ?_
  simp only [Act.put, List.setIfInBounds_toArray, List.set_cons_zero, List.set_cons_succ]
  refine Held.take (v := .bool true) 4 (some 31) rfl rfl (by kernel_rfl) (by kernel_rfl) (by kernel_rfl) (fun _ _ _ h => h) rfl (Held.y_pick rfl rfl rfl) c0_1 ?_
  simp only [Act.put, List.setIfInBounds_toArray, List.set_cons_zero, List.set_cons_succ]
  refine Held.take (v := .bool true) 5 (some 32) rfl rfl (by kernel_rfl) (by kernel_rfl) (by kernel_rfl) (fun _ _ _ h => h) rfl (Held.y_move rfl rfl) c0_1 ?_
  simp only [Act.put, List.setIfInBounds_toArray, List.set_cons_zero, List.set_cons_succ]
  refine Held.take (v := .agg #[.bool false, .int .i64 k, .int .i64 v, .int .i64 s]) 6 (some 33) rfl rfl (by kernel_rfl) (by kernel_rfl) (by kernel_rfl) (fun _ _ _ h => h) rfl (Held.y_load_blk (n := 4) rfl rfl Try.underlying23 rfl (by kernel_rfl) rfl (fun W hW => qx.below hW qx.lt)) c0_1 ?_
  simp only [Act.put, List.setIfInBounds_toArray, List.set_cons_zero, List.set_cons_succ]
  refine Held.take (v := .agg #[.bool false, .int .i64 k, .int .i64 v, .int .i64 s]) 7 (some 34) rfl rfl (by kernel_rfl) (by kernel_rfl) (by kernel_rfl) (fun _ _ _ h => h) rfl (Held.y_load_blk (n := 4) rfl rfl Try.underlying23 rfl (by kernel_rfl) rfl (fun W hW => qw.below hW qw.lt)) c0_1 ?_
  simp only [Act.put, List.setIfInBounds_toArray, List.set_cons_zero, List.set_cons_succ]
  refine Held.take (v := .bool true) 8 (some 35) rfl rfl (by kernel_rfl) (by kernel_rfl) (by kernel_rfl) (fun _ _ _ h => h) rfl (y_eqr rfl rfl rfl (by simp)) c0_1 ?_
  simp only [Act.put, List.setIfInBounds_toArray, List.set_cons_zero, List.set_cons_succ]
  refine Held.take (v := .bool true) 9 (some 36) rfl rfl (by kernel_rfl) (by kernel_rfl) (by kernel_rfl) (fun _ _ _ h => h) rfl (Held.y_pick rfl rfl rfl) c0_1 ?_
  simp only [Act.put, List.setIfInBounds_toArray, List.set_cons_zero, List.set_cons_succ]
  refine Held.take (v := .bool true) 10 (some 37) rfl rfl (by kernel_rfl) (by kernel_rfl) (by kernel_rfl) (fun _ _ _ h => h) rfl (Held.y_move rfl rfl) c0_1 ?_
  simp only [Act.put, List.setIfInBounds_toArray, List.set_cons_zero, List.set_cons_succ]
  refine Held.take (v := .int .i64 4) 11 (some 38) rfl rfl (by kernel_rfl) (by kernel_rfl) (by kernel_rfl) (fun _ _ _ h => h) rfl (Held.y_move rfl rfl) c0_1 ?_
  simp only [Act.put, List.setIfInBounds_toArray, List.set_cons_zero, List.set_cons_succ]
  refine Held.take (v := .bool true) 12 (some 39) rfl rfl (by kernel_rfl) (by kernel_rfl) (by kernel_rfl) (fun _ _ _ h => h) rfl (Held.y_neI rfl rfl rfl (by decide)) c0_1 ?_
  simp only [Act.put, List.setIfInBounds_toArray, List.set_cons_zero, List.set_cons_succ]
  refine Held.take (v := .bool true) 13 (some 40) rfl rfl (by kernel_rfl) (by kernel_rfl) (by kernel_rfl) (fun _ _ _ h => h) rfl (Held.y_move rfl rfl) c0_1 ?_
  simp only [Act.put, List.setIfInBounds_toArray, List.set_cons_zero, List.set_cons_succ]
  refine Held.take (v := .agg #[.bool false, .int .i64 0, .int .i64 0, .int .i64 0]) 14 (some 41) rfl rfl (by kernel_rfl) (by kernel_rfl) (by kernel_rfl) (fun _ _ _ h => h) rfl (Held.y_load_blk (n := 4) rfl rfl Try.underlying23 rfl (by kernel_rfl) rfl (fun W hW => qy.below hW qy.lt)) c0_1 ?_
  simp only [Act.put, List.setIfInBounds_toArray, List.set_cons_zero, List.set_cons_succ]
  refine Held.take (v := .agg #[.bool false, .int .i64 0, .int .i64 0, .int .i64 0]) 15 (some 42) rfl rfl (by kernel_rfl) (by kernel_rfl) (by kernel_rfl) (fun _ _ _ h => h) rfl (Held.y_build rfl (by kernel_rfl)) c0_1 ?_
  simp only [Act.put, List.setIfInBounds_toArray, List.set_cons_zero, List.set_cons_succ]
  refine Held.take (v := .bool true) 16 (some 43) rfl rfl (by kernel_rfl) (by kernel_rfl) (by kernel_rfl) (fun _ _ _ h => h) rfl (y_eqr rfl rfl rfl (by simp)) c0_1 ?_
  simp only [Act.put, List.setIfInBounds_toArray, List.set_cons_zero, List.set_cons_succ]
  refine Held.take (v := .bool true) 17 (some 44) rfl rfl (by kernel_rfl) (by kernel_rfl) (by kernel_rfl) (fun _ _ _ h => h) rfl (Held.y_pick rfl rfl rfl) c0_1 ?_
  simp only [Act.put, List.setIfInBounds_toArray, List.set_cons_zero, List.set_cons_succ]
  refine Held.take (v := .bool true) 18 (some 45) rfl rfl (by kernel_rfl) (by kernel_rfl) (by kernel_rfl) (fun _ _ _ h => h) rfl (Held.y_move rfl rfl) c0_1 ?_
  simp only [Act.put, List.setIfInBounds_toArray, List.set_cons_zero, List.set_cons_succ]
  refine Held.skip 19 (some 46) rfl rfl (by kernel_rfl) (by kernel_rfl) (by kernel_rfl) (fun _ _ _ h => h) rfl c0_1 ?_
  simp only [Act.put, List.setIfInBounds_toArray, List.set_cons_zero, List.set_cons_succ]
  refine Held.skip 20 (some 47) rfl rfl (by kernel_rfl) (by kernel_rfl) (by kernel_rfl) (fun _ _ _ h => h) rfl c0_1 ?_
  simp only [Act.put, List.setIfInBounds_toArray, List.set_cons_zero, List.set_cons_succ]
  refine Held.skip 21 (some 48) rfl rfl (by kernel_rfl) (by kernel_rfl) (by kernel_rfl) (fun _ _ _ h => h) rfl c0_1 ?_
  simp only [Act.put, List.setIfInBounds_toArray, List.set_cons_zero, List.set_cons_succ]
  refine Held.skip 22 (some 49) rfl rfl (by kernel_rfl) (by kernel_rfl) (by kernel_rfl) (fun _ _ _ h => h) rfl c0_1 ?_
  simp only [Act.put, List.setIfInBounds_toArray, List.set_cons_zero, List.set_cons_succ]
  refine Held.skip 23 (some 50) rfl rfl (by kernel_rfl) (by kernel_rfl) (by kernel_rfl) (fun _ _ _ h => h) rfl c0_1 ?_
  simp only [Act.put, List.setIfInBounds_toArray, List.set_cons_zero, List.set_cons_succ]
  refine Held.skip 24 (some 51) rfl rfl (by kernel_rfl) (by kernel_rfl) (by kernel_rfl) (fun _ _ _ h => h) rfl c0_1 ?_
  simp only [Act.put, List.setIfInBounds_toArray, List.set_cons_zero, List.set_cons_succ]
  refine Held.skip 25 (some 52) rfl rfl (by kernel_rfl) (by kernel_rfl) (by kernel_rfl) (fun _ _ _ h => h) rfl c0_1 ?_
  simp only [Act.put, List.setIfInBounds_toArray, List.set_cons_zero, List.set_cons_succ]
  refine Held.skip 26 (some 53) rfl rfl (by kernel_rfl) (by kernel_rfl) (by kernel_rfl) (fun _ _ _ h => h) rfl c0_1 ?_
  simp only [Act.put, List.setIfInBounds_toArray, List.set_cons_zero, List.set_cons_succ]
  refine Held.take (v := (.bool true)) 27 (some 54) rfl rfl (by kernel_rfl) (by kernel_rfl) (by kernel_rfl) (fun _ _ _ h => h) rfl (Held.y_pick rfl rfl rfl) c0_1 ?_
  simp only [Act.put, List.setIfInBounds_toArray, List.set_cons_zero, List.set_cons_succ]
  refine Held.take (v := (.bool true)) 28 (some 55) rfl rfl (by kernel_rfl) (by kernel_rfl) (by kernel_rfl) (fun _ _ _ h => h) rfl (Held.y_pick rfl rfl rfl) c0_1 ?_
  simp only [Act.put, List.setIfInBounds_toArray, List.set_cons_zero, List.set_cons_succ]
  refine Held.take (v := (.bool true)) 29 (some 4) rfl rfl (by kernel_rfl) (by kernel_rfl) (by kernel_rfl) (fun _ _ _ h => h) rfl (Held.y_assign rfl rfl) c0_1 ?_
  simp only [Act.put, List.setIfInBounds_toArray, List.set_cons_zero, List.set_cons_succ]
  refine wpAnyH_done (by kernel_rfl) ?_ _
  have dz := f9.trans (c0_1.mono f9.size)
  go_wp2_with fail
  go_ret
  exact ⟨rfl, dz⟩

theorem start (d : Bool) (k v s : Int) (hk : (Lit.int .i64 k).wf = true) (hv : (Lit.int .i64 v).wf = true) (hs : (Lit.int .i64 s).wf = true) (zb : List Int) (hzl : zb.length = 32) (hzw : ∀ z ∈ zb, (Lit.int .u8 z).wf = true) (u : World) :
    Calls Try.prog 4 #[.agg #[.bool d, .int .i64 k, .int .i64 v, .int .i64 s], .agg (arr .u8 zb)] u fun e u' => e = .returned (.bool true) ∧ Below u.heap.size u u' := by
  have hb := bs_of hzw
  by_cases hm : mayB zb = true
  · have htc : takenC zb = recC (fld zb 0) (fld zb 1) (fld zb 2) (fld zb 3) := by unfold takenC; rw [if_pos ⟨hzl, hm⟩]
    have hte : takenE zb = 0 := by unfold takenE; rw [if_neg (by omega), if_pos ⟨hzl, hm⟩]
    have hpk := packed_taken hb hzl hm
    cases d
    · exact start_false_ok k v s hk hv hs zb hzl hzw _ _ _ _ (wrap64_wf _) (wrap64_wf _) (wrap64_wf _) hpk htc hte u
    · exact start_true_ok k v s hk hv hs zb hzl hzw _ _ _ _ (wrap64_wf _) (wrap64_wf _) (wrap64_wf _) hpk htc hte u
  · have htc : takenC zb = noneC := by unfold takenC; rw [if_neg (fun h => hm h.2)]
    have hte : takenE zb = 4 := by unfold takenE; rw [if_neg (by omega), if_neg (fun h => hm h.2)]
    cases d
    · exact start_false_no k v s hk hv hs zb hzl hzw htc hte u
    · exact start_true_no k v s hk hv hs zb hzl hzw htc hte u

theorem walk (rd0 : Bool) (rk0 rv0 rs0 : Int) (z1 : List Int) (w : World) (wk0 : (Lit.int .i64 rk0).wf = true) (wv0 : (Lit.int .i64 rv0).wf = true) (ws0 : (Lit.int .i64 rs0).wf = true) (zl1 : z1.length = 32) (zw1 : ∀ z ∈ z1, (Lit.int .u8 z).wf = true) :
    Calls Try.prog 4 #[.agg #[.bool rd0, .int .i64 rk0, .int .i64 rv0, .int .i64 rs0], .agg (Mem.arr .u8 z1)] w fun e w' => e = .returned (.bool true) ∧ Below w.heap.size w w' := by
  exact start rd0 rk0 rv0 rs0 wk0 wv0 ws0 z1 zl1 zw1 w

set_option maxRecDepth 100000 in
theorem lifted (os : Os) (started : os.Started) (H : Type) (enc : TypeId × Value → H) :
    ReturnsInHanded {} Try.checked os 4 .any (Rows.recordBackSpec.pre6 enc Try.prog Try.f4 Rows.recordBackRow.domain false) (Rows.recordBackSpec.post enc Try.prog Try.f4 false true false false) := by
  refine returnsInHanded_of_change (C := Try.checked) own started (by kernel_rfl) Try.func4
    (ChangeSpec.witness6 (enc := enc) (C := Try.checked) false ⟨#[], #[.agg #[.bool false, .int .i64 0, .int .i64 0, .int .i64 0], .agg (Array.replicate 32 (.int .u8 0))], []⟩ 8 (by kernel_rfl) (by kernel_rfl) (by kernel_rfl) (by kernel_rfl)) ?_
  intro W base args ds gs before hval0 hW hcnd _
  have hval : ∀ (j : Nat) t v, Try.f4.params[j]? = some t → args[j]? = some v → Value.okWide Try.prog W .any base t v := hval0
  have hW' := hW
  obtain ⟨p, q, hA0, hV, rfl, hfz, hnd⟩ := hW
  have hA : DataW.TrodAll enc Try.prog W 0 (fun _ => true) true Try.f4.params.toList args.toList ds p := hA0
  rw [Try.params4] at hA hval
  obtain ⟨v0, vs0, d0, ds0, p0, q0, hargs, rfl, rfl, h0, r0⟩ := trodAll_cons hA
  obtain ⟨v1, vs1, d1, ds1, p1, q1, rfl, rfl, rfl, h1, r1⟩ := trodAll_cons r0
  obtain ⟨rfl, rfl, rfl⟩ := trodAll_nil r1
  obtain rfl : args = #[v0, v1] := by cases args; simp_all
  obtain ⟨rfl, rfl⟩ := trodVars_none hV
  have kk0 := h0
  have lt0 : ∀ x ∈ p0, x.block < W.heap.size := by obtain ⟨m, hm⟩ := kk0; exact DataW.trod_lt m _ _ _ hm
  obtain ⟨rd0, rk0, rv0, rs0, rfl, wk0, wv0, ws0⟩ := Rc.open_rec (hval 0 23 v0 rfl rfl) h0
  have k1 := h1
  have lt1 : ∀ x ∈ p1, x.block < W.heap.size := by obtain ⟨m, hm⟩ := k1; exact DataW.trod_lt m _ _ _ hm
  obtain ⟨z1, rfl, zl1, zw1⟩ := Mem.open_arr Try.underlying30 Try.underlying5 (by kernel_rfl) (by kernel_rfl) (hval 1 30 v1 rfl rfl) h1
  clear hA0 hval0
  refine (walk rd0 rk0 rv0 rs0 z1 W wk0 wv0 ws0 zl1 zw1).mono fun e W' ⟨he, bel⟩ => ?_
  subst he
  exact ⟨_, rfl, _, _, _, [], _, [], hW', trodAll_mk1 (shut_bool Try.underlying4 _), (trodAll_cons_mk (Below.trod laidOut (by kernel_rfl) (of_decide_eq_true (by kernel_rfl)) kk0 bel lt0) (trodAll_cons_mk (Below.trod laidOut (by kernel_rfl) (of_decide_eq_true (by kernel_rfl)) k1 bel lt1) trodAll_mk0)), rfl, bel.frame _, fun h => by cases h⟩

theorem over : Rows.recordBackRow.holds Try.pinned (OpenSpec.ofChange Rows.recordBackSpec) :=
  OpenClaim.holds_of_wide 4 Try.f4 rfl rfl rfl rfl rfl rfl rfl ⟨rfl, rfl, rfl, rfl, rfl⟩ rfl rfl rfl rfl rfl (by kernel_rfl) Try.func4 (by kernel_rfl)
    (of_decide_eq_true (by kernel_rfl)) (by unfold Func.isWrapper; first | (rw [if_pos (by decide +kernel)]; kernel_rfl) | (rw [if_neg (by decide +kernel)]; exact ⟨rfl, rfl⟩))
    (fun os started H enc _ => lifted os started H enc)

/-- the statement -/
theorem proved : Rows.RecordBackSaid :=
  over
#print axioms proved
end Go.Proofs.Ytdfnacnklmmjhaa.recordBack
