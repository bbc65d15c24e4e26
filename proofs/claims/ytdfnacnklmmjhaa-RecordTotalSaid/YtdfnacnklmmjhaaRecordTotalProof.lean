/-
  The law RecordTotal of package dominolaw09 returns true for every two records: of two that are not dead one stands ahead of the other, or both have one Key, and one Seq.
-/
import Derived.Test.YtdfnacnklmmjhaaRows
import Derived.WalkKit
import Derived.ProofKit
import Derived.OpenShut
import Derived.ShutString
import Derived.ChangeOld
import Derived.Below
import Derived.Test.YtdfnacnklmmjhaaRr9
import Derived.Test.YtdfnacnklmmjhaaRcP
import Derived.Test.YtdfnacnklmmjhaaArrP
import Derived.Test.YtdfnacnklmmjhaaKept
namespace Go.Proofs.Ytdfnacnklmmjhaa.recordTotal
open Go.ChangeShapes Go.WideShapes Go.ChangeAt Go.RowKit
open Go.ChangeMaps (open_string shut_string)
open Go.Shelf Go.Proofs.Ytdfnacnklmmjhaa.Mem Go.Proofs.Ytdfnacnklmmjhaa.Help Go.Proofs.Ytdfnacnklmmjhaa.Sum Go.Proofs.Ytdfnacnklmmjhaa.Po Go.Proofs.Ytdfnacnklmmjhaa.Ky Go.Proofs.Ytdfnacnklmmjhaa.Ct Go.Proofs.Ytdfnacnklmmjhaa.Bit Go.Proofs.Ytdfnacnklmmjhaa.Held Go.Proofs.Ytdfnacnklmmjhaa.Rc Go.Proofs.Ytdfnacnklmmjhaa
set_option linter.unusedVariables false

theorem own : ownKnob Try.prog.godebug = none := by kernel_rfl
theorem laidOut : laidOutB Try.prog = true := by kernel_rfl

/-- what a slice that came in leads to -/
def IsRow (k : IntKind) (w : World) (a : Option Addr) (len cap : Nat) (zs : List Int) : Prop :=
  (a = none ∧ len = 0 ∧ cap = 0 ∧ zs = []) ∨
  ∃ x, a = some x ∧ len ≤ cap ∧ cap ≤ maxLen ∧ zs.length = cap ∧ (∀ i, i < zs.length → w.cell? (x.add i) = some (.int k (zs.getD i 0))) ∧ ∀ n ∈ zs, (Lit.int k n).wf = true

attribute [local irreducible] wpList Calls

set_option maxRecDepth 100000 in
set_option maxHeartbeats 16000000 in
theorem start (da : Bool) (ka va sa : Int) (db : Bool) (kb vb sb : Int) (u : World) (hka : (Lit.int .i64 ka).wf = true) (hva : (Lit.int .i64 va).wf = true) (hsa : (Lit.int .i64 sa).wf = true) (hkb : (Lit.int .i64 kb).wf = true) (hvb : (Lit.int .i64 vb).wf = true) (hsb : (Lit.int .i64 sb).wf = true) :
    Calls Try.prog 7 #[.agg #[.bool da, .int .i64 ka, .int .i64 va, .int .i64 sa], .agg #[.bool db, .int .i64 kb, .int .i64 vb, .int .i64 sb]] u fun e u' => e = .returned (.bool true) ∧ Below u.heap.size u u' := by
  have H : ∀ (x1 x2 y1 y2 : Int) (kn sn : Bool), oneI (bef false ka sa false kb sb) = x1 → oneI (bef false kb sb false ka sa) = x2 → oneI (ahd false ka false kb) = y1 → oneI (ahd false kb false ka) = y2 → (ka != kb) = kn → (sa != sb) = sn →
      (x1 = 1 ∧ x2 = 0 ∧ y1 = 1 ∧ y2 = 0 ∧ kn = true) ∨ (x1 = 0 ∧ x2 = 1 ∧ y1 = 0 ∧ y2 = 1 ∧ kn = true) ∨ (x1 = 1 ∧ x2 = 0 ∧ y1 = 0 ∧ y2 = 0 ∧ kn = false ∧ sn = true) ∨ (x1 = 0 ∧ x2 = 1 ∧ y1 = 0 ∧ y2 = 0 ∧ kn = false ∧ sn = true) ∨ (x1 = 0 ∧ x2 = 0 ∧ y1 = 0 ∧ y2 = 0 ∧ kn = false ∧ sn = false) := by
    intro x1 x2 y1 y2 kn sn e1 e2 e3 e4 e5 e6
    subst e1 e2 e3 e4 e5 e6
    unfold bef ahd
    rcases Int.lt_trichotomy ka kb with h | h | h
    · simp [h, show ¬ kb < ka by omega, show ¬ kb = ka by omega, show ¬ ka = kb by omega, oneI]
    · subst h
      rcases Int.lt_trichotomy sa sb with h | h | h
      · simp [h, show ¬ sb < sa by omega, show ¬ sa = sb by omega, oneI]
      · subst h
        simp [oneI]
      · simp [h, show ¬ sa < sb by omega, show ¬ sa = sb by omega, oneI]
    · simp [h, show ¬ ka < kb by omega, show ¬ ka = kb by omega, show ¬ kb = ka by omega, oneI]
  have H := H _ _ _ _ _ _ rfl rfl rfl rfl rfl rfl
  rcases H with ⟨h1, h2, h3, h4, h5⟩ | ⟨h1, h2, h3, h4, h5⟩ | ⟨h1, h2, h3, h4, h5, h6⟩ | ⟨h1, h2, h3, h4, h5, h6⟩ | ⟨h1, h2, h3, h4, h5, h6⟩
  all_goals
    go_enter Try.func7, Try.ntmps7
    go_wp2_with (first
      | (refine wpList_box_blk (w := u) rfl 23 _ rfl #[.bool da, .int .i64 ka, .int .i64 va, .int .i64 sa] rfl ?_; intro u1 q1 g1 z1)
      | (refine wpList_box_blk (w := u1) rfl 23 _ rfl #[.bool db, .int .i64 kb, .int .i64 vb, .int .i64 sb] rfl ?_; intro u2 q2 g2 z2; have l1 := q1.lt; have q1 := q1.grown g2 (by simp))
      | (refine wpList_run (w := u2) rfl (v := .pointer (some ⟨u.heap.size, 0, none⟩)) (Held.y_field (S := fun _ => True) (k := 0) (s := 0) rfl rfl Try.underlying23 rfl (by kernel_rfl) rfl _ trivial) ?_)
      | (refine wpList_store_field (w := u2) rfl 4 _ _ rfl u.heap.size 0 rfl 23 _ (.bool false) rfl q1 (by simp) (by kernel_rfl) rfl rfl ?_; intro u3 q3 g3 z3; have q2 := q2.grown g3 (by intro e; injection e with e; omega))
      | (refine wpList_run (w := u3) rfl (v := .pointer (some ⟨u1.heap.size, 0, none⟩)) (Held.y_field (S := fun _ => True) (k := 0) (s := 0) rfl rfl Try.underlying23 rfl (by kernel_rfl) rfl _ trivial) ?_)
      | (refine wpList_store_field (w := u3) rfl 4 _ _ rfl u1.heap.size 0 rfl 23 _ (.bool false) rfl q2 (by simp) (by kernel_rfl) rfl rfl ?_; intro u4 q4 g4 z4))
    have qa : Blk u4 u.heap.size 23 #[.bool false, .int .i64 ka, .int .i64 va, .int .i64 sa] := q3.grown g4 (by intro e; injection e with e; omega)
    have qb : Blk u4 u1.heap.size 23 #[.bool false, .int .i64 kb, .int .i64 vb, .int .i64 sb] := q4
    have b4 : Below u.heap.size u u4 := ((((Below.refl _ u).grown g1 (Nat.le_refl _) (by simp)).grown g2 g1.size (by simp)).grown g3 (Nat.le_trans g1.size g2.size) (fun r e => by cases e; exact Nat.le_refl _)).grown g4 (Nat.le_trans (Nat.le_trans g1.size g2.size) g3.size) (fun r e => by cases e; exact g1.size)
    clear g1 g2 g3 g4 z1 z2 z3 z4 q1 q2 q3 q4 l1
    refine wp_region_held (S := fun W => Below u4.heap.size u4 W) (by kernel_rfl) ?_
    change wpAnyH _ _ _ _ _ _ _ _ u4.drew
    have c0_0 := (Below.refl u4.heap.size u4).drew
    refine Held.take (v := .agg #[.bool false, .int .i64 ka, .int .i64 va, .int .i64 sa]) 0 (some 9) rfl rfl (by kernel_rfl) (by kernel_rfl) (by kernel_rfl) (fun _ _ _ h => h) rfl (Held.y_load_blk (n := 4) rfl rfl Try.underlying23 rfl (by kernel_rfl) rfl (fun W hW => qa.below hW qa.lt)) c0_0 ?_
    simp only [Act.put, List.setIfInBounds_toArray, List.set_cons_zero, List.set_cons_succ]
    refine Held.take (v := .agg #[.bool false, .int .i64 kb, .int .i64 vb, .int .i64 sb]) 1 (some 10) rfl rfl (by kernel_rfl) (by kernel_rfl) (by kernel_rfl) (fun _ _ _ h => h) rfl (Held.y_load_blk (n := 4) rfl rfl Try.underlying23 rfl (by kernel_rfl) rfl (fun W hW => qb.below hW qb.lt)) c0_0 ?_
    simp only [Act.put, List.setIfInBounds_toArray, List.set_cons_zero, List.set_cons_succ]
    refine Held.take (v := .agg #[.bool false, .int .i64 kb, .int .i64 vb, .int .i64 sb]) 3 (some 12) rfl rfl (by kernel_rfl) (by kernel_rfl) (by kernel_rfl) (fun _ _ _ h => h) rfl (Held.y_load_blk (n := 4) rfl rfl Try.underlying23 rfl (by kernel_rfl) rfl (fun W hW => qb.below hW qb.lt)) c0_0 ?_
    simp only [Act.put, List.setIfInBounds_toArray, List.set_cons_zero, List.set_cons_succ]
    refine Held.take (v := .agg #[.bool false, .int .i64 ka, .int .i64 va, .int .i64 sa]) 4 (some 13) rfl rfl (by kernel_rfl) (by kernel_rfl) (by kernel_rfl) (fun _ _ _ h => h) rfl (Held.y_load_blk (n := 4) rfl rfl Try.underlying23 rfl (by kernel_rfl) rfl (fun W hW => qa.below hW qa.lt)) c0_0 ?_
    simp only [Act.put, List.setIfInBounds_toArray, List.set_cons_zero, List.set_cons_succ]
    refine Held.one 2 (by kernel_rfl) ?_
    refine Held.op_call 2 (some 11) 15 #[.agg #[.bool false, .int .i64 ka, .int .i64 va, .int .i64 sa], .agg #[.bool false, .int .i64 kb, .int .i64 vb, .int .i64 sb]] rfl rfl rfl rfl (enters_of Try.func15 (by kernel_rfl) rfl) (by simp [Act.eval])
      (before_any false ka va sa false kb vb sb hka hsa hkb hsb _) ?_
    rintro e w1 ⟨rfl, b1⟩
    have c0_1 := c0_0.trans (b1.mono c0_0.size)
    refine ⟨_, rfl, c0_1, ?_⟩
    simp only [Act.put, List.setIfInBounds_toArray, List.set_cons_zero, List.set_cons_succ]
    refine Held.one 5 (by kernel_rfl) ?_
    refine Held.op_call 5 (some 14) 15 #[.agg #[.bool false, .int .i64 kb, .int .i64 vb, .int .i64 sb], .agg #[.bool false, .int .i64 ka, .int .i64 va, .int .i64 sa]] rfl rfl rfl rfl (enters_of Try.func15 (by kernel_rfl) rfl) (by simp [Act.eval])
      (before_any false kb vb sb false ka va sa hkb hsb hka hsa _) ?_
    rintro e w2 ⟨rfl, b2⟩
    have c0_2 := c0_1.trans (b2.mono c0_1.size)
    refine ⟨_, rfl, c0_2, ?_⟩
    simp only [Act.put, List.setIfInBounds_toArray, List.set_cons_zero, List.set_cons_succ]
    refine Held.take (v := .int .u64 (IntKind.u64.wrap ((oneI (bef false ka sa false kb sb)) + (oneI (bef false kb sb false ka sa))))) 6 (some 15) rfl rfl (by kernel_rfl) (by kernel_rfl) (by kernel_rfl) (fun _ _ _ h => h) rfl (Held.y_int rfl rfl rfl (Held.run_add 35 .u64 (rfl))) c0_2 ?_
    simp only [Act.put, List.setIfInBounds_toArray, List.set_cons_zero, List.set_cons_succ]
    refine Held.take (v := .int .u64 (IntKind.u64.wrap ((oneI (bef false ka sa false kb sb)) + (oneI (bef false kb sb false ka sa))))) 7 (some 5) rfl rfl (by kernel_rfl) (by kernel_rfl) (by kernel_rfl) (fun _ _ _ h => h) rfl (Held.y_assign rfl rfl) c0_2 ?_
    simp only [Act.put, List.setIfInBounds_toArray, List.set_cons_zero, List.set_cons_succ]
    refine wpAnyH_done (by kernel_rfl) ?_ _
    have b5 := b4.trans (c0_2.mono b4.size)
    have qax := qa.after c0_2
    have qbx := qb.after c0_2
    generalize w2 = v1 at b5 qax qbx ⊢
    rw [h1, h2]
    clear h1 h2 qa qb
    go_wp2_with fail
    refine wp_region_held (S := fun W => Below v1.heap.size v1 W) (by kernel_rfl) ?_
    change wpAnyH _ _ _ _ _ _ _ _ v1.drew
    have c0_0 := (Below.refl v1.heap.size v1).drew
    refine Held.take (v := .agg #[.bool false, .int .i64 ka, .int .i64 va, .int .i64 sa]) 0 (some 16) rfl rfl (by kernel_rfl) (by kernel_rfl) (by kernel_rfl) (fun _ _ _ h => h) rfl (Held.y_load_blk (n := 4) rfl rfl Try.underlying23 rfl (by kernel_rfl) rfl (fun W hW => qax.below hW qax.lt)) c0_0 ?_
    simp only [Act.put, List.setIfInBounds_toArray, List.set_cons_zero, List.set_cons_succ]
    refine Held.take (v := .agg #[.bool false, .int .i64 kb, .int .i64 vb, .int .i64 sb]) 1 (some 17) rfl rfl (by kernel_rfl) (by kernel_rfl) (by kernel_rfl) (fun _ _ _ h => h) rfl (Held.y_load_blk (n := 4) rfl rfl Try.underlying23 rfl (by kernel_rfl) rfl (fun W hW => qbx.below hW qbx.lt)) c0_0 ?_
    simp only [Act.put, List.setIfInBounds_toArray, List.set_cons_zero, List.set_cons_succ]
    refine Held.take (v := .agg #[.bool false, .int .i64 kb, .int .i64 vb, .int .i64 sb]) 3 (some 19) rfl rfl (by kernel_rfl) (by kernel_rfl) (by kernel_rfl) (fun _ _ _ h => h) rfl (Held.y_load_blk (n := 4) rfl rfl Try.underlying23 rfl (by kernel_rfl) rfl (fun W hW => qbx.below hW qbx.lt)) c0_0 ?_
    simp only [Act.put, List.setIfInBounds_toArray, List.set_cons_zero, List.set_cons_succ]
    refine Held.take (v := .agg #[.bool false, .int .i64 ka, .int .i64 va, .int .i64 sa]) 4 (some 20) rfl rfl (by kernel_rfl) (by kernel_rfl) (by kernel_rfl) (fun _ _ _ h => h) rfl (Held.y_load_blk (n := 4) rfl rfl Try.underlying23 rfl (by kernel_rfl) rfl (fun W hW => qax.below hW qax.lt)) c0_0 ?_
    simp only [Act.put, List.setIfInBounds_toArray, List.set_cons_zero, List.set_cons_succ]
    refine Held.one 2 (by kernel_rfl) ?_
    refine Held.op_call 2 (some 18) 17 #[.agg #[.bool false, .int .i64 ka, .int .i64 va, .int .i64 sa], .agg #[.bool false, .int .i64 kb, .int .i64 vb, .int .i64 sb]] rfl rfl rfl rfl (enters_of Try.func17 (by kernel_rfl) rfl) (by simp [Act.eval])
      (ahead_any false ka va sa false kb vb sb hka hsa hkb hsb _) ?_
    rintro e w1 ⟨rfl, b1⟩
    have c0_1 := c0_0.trans (b1.mono c0_0.size)
    refine ⟨_, rfl, c0_1, ?_⟩
    simp only [Act.put, List.setIfInBounds_toArray, List.set_cons_zero, List.set_cons_succ]
    refine Held.one 5 (by kernel_rfl) ?_
    refine Held.op_call 5 (some 21) 17 #[.agg #[.bool false, .int .i64 kb, .int .i64 vb, .int .i64 sb], .agg #[.bool false, .int .i64 ka, .int .i64 va, .int .i64 sa]] rfl rfl rfl rfl (enters_of Try.func17 (by kernel_rfl) rfl) (by simp [Act.eval])
      (ahead_any false kb vb sb false ka va sa hkb hsb hka hsa _) ?_
    rintro e w2 ⟨rfl, b2⟩
    have c0_2 := c0_1.trans (b2.mono c0_1.size)
    refine ⟨_, rfl, c0_2, ?_⟩
    simp only [Act.put, List.setIfInBounds_toArray, List.set_cons_zero, List.set_cons_succ]
    refine Held.take (v := .int .u64 (IntKind.u64.wrap ((oneI (ahd false ka false kb)) + (oneI (ahd false kb false ka))))) 6 (some 22) rfl rfl (by kernel_rfl) (by kernel_rfl) (by kernel_rfl) (fun _ _ _ h => h) rfl (Held.y_int rfl rfl rfl (Held.run_add 35 .u64 (rfl))) c0_2 ?_
    simp only [Act.put, List.setIfInBounds_toArray, List.set_cons_zero, List.set_cons_succ]
    refine Held.take (v := .int .u64 (IntKind.u64.wrap ((oneI (ahd false ka false kb)) + (oneI (ahd false kb false ka))))) 7 (some 6) rfl rfl (by kernel_rfl) (by kernel_rfl) (by kernel_rfl) (fun _ _ _ h => h) rfl (Held.y_assign rfl rfl) c0_2 ?_
    simp only [Act.put, List.setIfInBounds_toArray, List.set_cons_zero, List.set_cons_succ]
    refine wpAnyH_done (by kernel_rfl) ?_ _
    have b6 := b5.trans (c0_2.mono b5.size)
    have qay := qax.after c0_2
    have qby := qbx.after c0_2
    generalize w2 = v2 at b6 qay qby ⊢
    rw [h3, h4]
    clear h3 h4 qax qbx b5
    have a1 := qay.cell (i := 1) rfl
    have a3 := qay.cell (i := 3) rfl
    have c1 := qby.cell (i := 1) rfl
    have c3 := qby.cell (i := 3) rfl
    go_wp2_with fail
    refine (awake9_any v2).mono ?_
    rintro e v3 ⟨rfl, b7⟩
    have a1 := (qay.after b7).cell (i := 1) rfl
    have a3 := (qay.after b7).cell (i := 3) rfl
    have c1 := (qby.after b7).cell (i := 1) rfl
    have c3 := (qby.after b7).cell (i := 3) rfl
    have b8 := b6.trans (b7.mono b6.size)
    clear b6 b7 qay qby
    go_wp2_with fail
    go_ret
    exact ⟨rfl, b8⟩

theorem walk (rd0 : Bool) (rk0 rv0 rs0 : Int) (rd1 : Bool) (rk1 rv1 rs1 : Int) (w : World) (wk0 : (Lit.int .i64 rk0).wf = true) (wv0 : (Lit.int .i64 rv0).wf = true) (ws0 : (Lit.int .i64 rs0).wf = true) (wk1 : (Lit.int .i64 rk1).wf = true) (wv1 : (Lit.int .i64 rv1).wf = true) (ws1 : (Lit.int .i64 rs1).wf = true) :
    Calls Try.prog 7 #[.agg #[.bool rd0, .int .i64 rk0, .int .i64 rv0, .int .i64 rs0], .agg #[.bool rd1, .int .i64 rk1, .int .i64 rv1, .int .i64 rs1]] w fun e w' => e = .returned (.bool true) ∧ Below w.heap.size w w' := by
  exact start rd0 rk0 rv0 rs0 rd1 rk1 rv1 rs1 w wk0 wv0 ws0 wk1 wv1 ws1

set_option maxRecDepth 100000 in
theorem lifted (os : Os) (started : os.Started) (H : Type) (enc : TypeId × Value → H) :
    ReturnsInHanded {} Try.checked os 7 .any (Rows.recordTotalSpec.pre6 enc Try.prog Try.f7 Rows.recordTotalRow.domain false) (Rows.recordTotalSpec.post enc Try.prog Try.f7 false true false false) := by
  refine returnsInHanded_of_change (C := Try.checked) own started (by kernel_rfl) Try.func7
    (ChangeSpec.witness6 (enc := enc) (C := Try.checked) false ⟨#[], #[.agg #[.bool false, .int .i64 0, .int .i64 0, .int .i64 0], .agg #[.bool false, .int .i64 0, .int .i64 0, .int .i64 0]], []⟩ 8 (by kernel_rfl) (by kernel_rfl) (by kernel_rfl) (by kernel_rfl)) ?_
  intro W base args ds gs before hval0 hW hcnd _
  have hval : ∀ (j : Nat) t v, Try.f7.params[j]? = some t → args[j]? = some v → Value.okWide Try.prog W .any base t v := hval0
  have hW' := hW
  obtain ⟨p, q, hA0, hV, rfl, hfz, hnd⟩ := hW
  have hA : DataW.TrodAll enc Try.prog W 0 (fun _ => true) true Try.f7.params.toList args.toList ds p := hA0
  rw [Try.params7] at hA hval
  obtain ⟨v0, vs0, d0, ds0, p0, q0, hargs, rfl, rfl, h0, r0⟩ := trodAll_cons hA
  obtain ⟨v1, vs1, d1, ds1, p1, q1, rfl, rfl, rfl, h1, r1⟩ := trodAll_cons r0
  obtain ⟨rfl, rfl, rfl⟩ := trodAll_nil r1
  obtain rfl : args = #[v0, v1] := by cases args; simp_all
  obtain ⟨rfl, rfl⟩ := trodVars_none hV
  have kk0 := h0
  have lt0 : ∀ x ∈ p0, x.block < W.heap.size := by obtain ⟨m, hm⟩ := kk0; exact DataW.trod_lt m _ _ _ hm
  obtain ⟨rd0, rk0, rv0, rs0, rfl, wk0, wv0, ws0⟩ := Rc.open_rec (hval 0 23 v0 rfl rfl) h0
  have kk1 := h1
  have lt1 : ∀ x ∈ p1, x.block < W.heap.size := by obtain ⟨m, hm⟩ := kk1; exact DataW.trod_lt m _ _ _ hm
  obtain ⟨rd1, rk1, rv1, rs1, rfl, wk1, wv1, ws1⟩ := Rc.open_rec (hval 1 23 v1 rfl rfl) h1
  clear hA0 hval0
  refine (walk rd0 rk0 rv0 rs0 rd1 rk1 rv1 rs1 W wk0 wv0 ws0 wk1 wv1 ws1).mono fun e W' ⟨he, bel⟩ => ?_
  subst he
  exact ⟨_, rfl, _, _, _, [], _, [], hW', trodAll_mk1 (shut_bool Try.underlying4 _), (trodAll_cons_mk (Below.trod laidOut (by kernel_rfl) (of_decide_eq_true (by kernel_rfl)) kk0 bel lt0) (trodAll_cons_mk (Below.trod laidOut (by kernel_rfl) (of_decide_eq_true (by kernel_rfl)) kk1 bel lt1) trodAll_mk0)), rfl, bel.frame _, fun h => by cases h⟩

theorem over : Rows.recordTotalRow.holds Try.pinned (OpenSpec.ofChange Rows.recordTotalSpec) :=
  OpenClaim.holds_of_wide 7 Try.f7 rfl rfl rfl rfl rfl rfl rfl ⟨rfl, rfl, rfl, rfl, rfl⟩ rfl rfl rfl rfl rfl (by kernel_rfl) Try.func7 (by kernel_rfl)
    (of_decide_eq_true (by kernel_rfl)) (by unfold Func.isWrapper; first | (rw [if_pos (by decide +kernel)]; kernel_rfl) | (rw [if_neg (by decide +kernel)]; exact ⟨rfl, rfl⟩))
    (fun os started H enc _ => lifted os started H enc)

/-- the statement -/
theorem proved : Rows.RecordTotalSaid :=
  over
#print axioms proved
end Go.Proofs.Ytdfnacnklmmjhaa.recordTotal
