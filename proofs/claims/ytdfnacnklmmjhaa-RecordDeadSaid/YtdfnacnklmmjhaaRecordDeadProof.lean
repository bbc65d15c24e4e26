/-
  The law RecordDead of package dominolaw09 returns true for every record: a dead one is packed as one, whatever else it says; it stands ahead of none, and behind all that are not.
-/
import Derived.Test.YtdfnacnklmmjhaaRows
import Derived.WalkKit
import Derived.ProofKit
import Derived.OpenShut
import Derived.ShutString
import Derived.ChangeOld
import Derived.Below
import Derived.Test.YtdfnacnklmmjhaaRr9
import Derived.Test.YtdfnacnklmmjhaaRcP
import Derived.Test.YtdfnacnklmmjhaaArrP
import Derived.Test.YtdfnacnklmmjhaaKept
namespace Go.Proofs.Ytdfnacnklmmjhaa.recordDead
open Go.ChangeShapes Go.WideShapes Go.ChangeAt Go.RowKit
open Go.ChangeMaps (open_string shut_string)
open Go.Shelf Go.Proofs.Ytdfnacnklmmjhaa.Mem Go.Proofs.Ytdfnacnklmmjhaa.Help Go.Proofs.Ytdfnacnklmmjhaa.Sum Go.Proofs.Ytdfnacnklmmjhaa.Po Go.Proofs.Ytdfnacnklmmjhaa.Ky Go.Proofs.Ytdfnacnklmmjhaa.Ct Go.Proofs.Ytdfnacnklmmjhaa.Bit Go.Proofs.Ytdfnacnklmmjhaa.Held Go.Proofs.Ytdfnacnklmmjhaa.Rc Go.Proofs.Ytdfnacnklmmjhaa
set_option linter.unusedVariables false

theorem own : ownKnob Try.prog.godebug = none := by kernel_rfl
theorem laidOut : laidOutB Try.prog = true := by kernel_rfl

/-- what a slice that came in leads to -/
def IsRow (k : IntKind) (w : World) (a : Option Addr) (len cap : Nat) (zs : List Int) : Prop :=
  (a = none ∧ len = 0 ∧ cap = 0 ∧ zs = []) ∨
  ∃ x, a = some x ∧ len ≤ cap ∧ cap ≤ maxLen ∧ zs.length = cap ∧ (∀ i, i < zs.length → w.cell? (x.add i) = some (.int k (zs.getD i 0))) ∧ ∀ n ∈ zs, (Lit.int k n).wf = true

attribute [local irreducible] wpList Calls

set_option maxRecDepth 100000 in
set_option maxHeartbeats 16000000 in
theorem start (da : Bool) (ka va sa : Int) (u : World) (hka : (Lit.int .i64 ka).wf = true) (hva : (Lit.int .i64 va).wf = true) (hsa : (Lit.int .i64 sa).wf = true) :
    Calls Try.prog 6 #[.agg #[.bool da, .int .i64 ka, .int .i64 va, .int .i64 sa]] u fun e u' => e = .returned (.bool true) ∧ Below u.heap.size u u' := by
  have hb0 : bef false ka sa false ka sa = false := by simp [bef]
  go_enter Try.func6, Try.ntmps6
  go_wp2_with (first
    | (refine wpList_box_blk (w := u) rfl 23 _ rfl #[.bool da, .int .i64 ka, .int .i64 va, .int .i64 sa] rfl ?_; intro u1 q1 g1 z1)
    | (refine wpList_load_blk (w := u1) rfl 23 _ rfl u.heap.size 4 rfl 23 _ q1 _ Try.underlying23 rfl (by kernel_rfl) rfl ?_)
    | (refine wpList_alloc_blk (w := u1) rfl 23 rfl _ zero_rec ?_; intro u2 q2 g2 z2)
    | (refine wpList_store_blk (w := u2) rfl 23 _ _ rfl u1.heap.size 4 rfl 23 _ #[.bool da, .int .i64 ka, .int .i64 va, .int .i64 sa] rfl q2 info_rec rfl rfl (by kernel_rfl) ?_; intro u3 q3 g3 z3)
    | (refine wpList_run (w := u3) rfl (v := .pointer (some ⟨u1.heap.size, 0, none⟩)) (Held.y_field (S := fun _ => True) (k := 0) (s := 0) rfl rfl Try.underlying23 rfl (by kernel_rfl) rfl _ trivial) ?_)
    | (refine wpList_store_field (w := u3) rfl 4 _ _ rfl u1.heap.size 0 rfl 23 _ (.bool true) rfl q3 (by simp) (by kernel_rfl) rfl rfl ?_; intro u4 qd g4 z4; have l1 := q1.lt; have q1 := ((q1.grown g2 (by simp)).grown g3 (by intro e; injection e with e; omega)).grown g4 (by intro e; injection e with e; omega); have qd : Blk u4 u1.heap.size 23 #[.bool true, .int .i64 ka, .int .i64 va, .int .i64 sa] := qd; have b4 : Below u.heap.size u u4 := ((((Below.refl _ u).grown g1 (Nat.le_refl _) (by simp)).grown g2 g1.size (by simp)).grown g3 (Nat.le_trans g1.size g2.size) (fun r e => by cases e; exact g1.size)).grown g4 (Nat.le_trans (Nat.le_trans g1.size g2.size) g3.size) (fun r e => by cases e; exact g1.size); clear g1 g2 g3 g4 z1 z2 z3 z4 q2 q3)
    | (refine wpList_load_blk (w := u4) rfl 23 _ rfl u.heap.size 4 rfl 23 _ q1 _ Try.underlying23 rfl (by kernel_rfl) rfl ?_)
    | (refine wpList_alloc_blk (w := u4) rfl 23 rfl _ zero_rec ?_; intro u5 q5 g5 z5)
    | (refine wpList_store_blk (w := u5) rfl 23 _ _ rfl u4.heap.size 4 rfl 23 _ #[.bool da, .int .i64 ka, .int .i64 va, .int .i64 sa] rfl q5 info_rec rfl rfl (by kernel_rfl) ?_; intro u6 q6 g6 z6)
    | (refine wpList_run (w := u6) rfl (v := .pointer (some ⟨u4.heap.size, 0, none⟩)) (Held.y_field (S := fun _ => True) (k := 0) (s := 0) rfl rfl Try.underlying23 rfl (by kernel_rfl) rfl _ trivial) ?_)
    | (refine wpList_store_field (w := u6) rfl 4 _ _ rfl u4.heap.size 0 rfl 23 _ (.bool false) rfl q6 (by simp) (by kernel_rfl) rfl rfl ?_; intro u7 qa g7 z7))
  have l4 := qd.lt
  have qd := ((qd.grown g5 (by simp)).grown g6 (by intro e; injection e with e; omega)).grown g7 (by intro e; injection e with e; omega)
  have qa : Blk u7 u4.heap.size 23 #[.bool false, .int .i64 ka, .int .i64 va, .int .i64 sa] := qa
  have b7 : Below u.heap.size u u7 := ((b4.grown g5 b4.size (by simp)).grown g6 (Nat.le_trans b4.size g5.size) (fun r e => by cases e; exact b4.size)).grown g7 (Nat.le_trans (Nat.le_trans b4.size g5.size) g6.size) (fun r e => by cases e; exact b4.size)
  clear g5 g6 g7 z5 z6 z7 q5 q6 q1 b4 l1 l4
  refine (awake9_any u7).mono ?_
  rintro e w0 ⟨rfl, b0⟩
  have qa := qa.after b0
  have qd := qd.after b0
  have b0 := b7.trans (b0.mono b7.size)
  clear b7
  go_wp2_with (first
    | (refine wpList_load_blk (w := w0) rfl 23 _ rfl u1.heap.size 4 rfl 23 _ qd _ Try.underlying23 rfl (by kernel_rfl) rfl ?_)
    | (refine wpList_load_blk (w := w0) rfl 23 _ rfl u4.heap.size 4 rfl 23 _ qa _ Try.underlying23 rfl (by kernel_rfl) rfl ?_)
    | (refine wpList_run rfl (v := .bool true) (y_eqa (S := fun _ => True) rfl rfl rfl (by simp [packed, zd]) (by kernel_rfl) Try.underlying30 Try.underlying5 (by kernel_rfl) (packed_length _ _ _ _) (packed_length _ _ _ _) _ trivial) ?_))
  refine (pack_any true ka va sa hka hva hsa _).mono ?_
  rintro e w1 ⟨rfl, b1⟩
  have qa := qa.after b1
  have qd := qd.after b1
  have b1 := b0.trans (b1.mono b0.size)
  clear b0
  go_wp2_with (first
    | (refine wpList_load_blk (w := w1) rfl 23 _ rfl u1.heap.size 4 rfl 23 _ qd _ Try.underlying23 rfl (by kernel_rfl) rfl ?_)
    | (refine wpList_load_blk (w := w1) rfl 23 _ rfl u4.heap.size 4 rfl 23 _ qa _ Try.underlying23 rfl (by kernel_rfl) rfl ?_)
    | (refine wpList_run rfl (v := .bool true) (y_eqa (S := fun _ => True) rfl rfl rfl (by simp [packed, zd]) (by kernel_rfl) Try.underlying30 Try.underlying5 (by kernel_rfl) (packed_length _ _ _ _) (packed_length _ _ _ _) _ trivial) ?_))
  refine (dead_any _).mono ?_
  rintro e w2 ⟨rfl, b2⟩
  have qa := qa.after b2
  have qd := qd.after b2
  have b2 := b1.trans (b2.mono b1.size)
  clear b1
  go_wp2_with (first
    | (refine wpList_load_blk (w := w2) rfl 23 _ rfl u1.heap.size 4 rfl 23 _ qd _ Try.underlying23 rfl (by kernel_rfl) rfl ?_)
    | (refine wpList_load_blk (w := w2) rfl 23 _ rfl u4.heap.size 4 rfl 23 _ qa _ Try.underlying23 rfl (by kernel_rfl) rfl ?_)
    | (refine wpList_run rfl (v := .bool true) (y_eqa (S := fun _ => True) rfl rfl rfl (by simp [packed, zd]) (by kernel_rfl) Try.underlying30 Try.underlying5 (by kernel_rfl) (packed_length _ _ _ _) (packed_length _ _ _ _) _ trivial) ?_))
  refine (pack_any true 0 0 0 rfl rfl rfl _).mono ?_
  rintro e w3 ⟨rfl, b3⟩
  have qa := qa.after b3
  have qd := qd.after b3
  have b3 := b2.trans (b3.mono b2.size)
  clear b2
  go_wp2_with (first
    | (refine wpList_load_blk (w := w3) rfl 23 _ rfl u1.heap.size 4 rfl 23 _ qd _ Try.underlying23 rfl (by kernel_rfl) rfl ?_)
    | (refine wpList_load_blk (w := w3) rfl 23 _ rfl u4.heap.size 4 rfl 23 _ qa _ Try.underlying23 rfl (by kernel_rfl) rfl ?_)
    | (refine wpList_run rfl (v := .bool true) (y_eqa (S := fun _ => True) rfl rfl rfl (by simp [packed, zd]) (by kernel_rfl) Try.underlying30 Try.underlying5 (by kernel_rfl) (packed_length _ _ _ _) (packed_length _ _ _ _) _ trivial) ?_))
  refine (before_any true ka va sa false ka va sa hka hsa hka hsa _).mono ?_
  rintro e w4 ⟨rfl, b4⟩
  have qa := qa.after b4
  have qd := qd.after b4
  have b4 := b3.trans (b4.mono b3.size)
  clear b3
  rw [show oneI (bef true ka sa false ka sa) = 0 by first | rfl | (rw [hb0]; rfl)]
  go_wp2_with (first
    | (refine wpList_load_blk (w := w4) rfl 23 _ rfl u1.heap.size 4 rfl 23 _ qd _ Try.underlying23 rfl (by kernel_rfl) rfl ?_)
    | (refine wpList_load_blk (w := w4) rfl 23 _ rfl u4.heap.size 4 rfl 23 _ qa _ Try.underlying23 rfl (by kernel_rfl) rfl ?_)
    | (refine wpList_run rfl (v := .bool true) (y_eqa (S := fun _ => True) rfl rfl rfl (by simp [packed, zd]) (by kernel_rfl) Try.underlying30 Try.underlying5 (by kernel_rfl) (packed_length _ _ _ _) (packed_length _ _ _ _) _ trivial) ?_))
  refine (before_any false ka va sa true ka va sa hka hsa hka hsa _).mono ?_
  rintro e w5 ⟨rfl, b5⟩
  have qa := qa.after b5
  have qd := qd.after b5
  have b5 := b4.trans (b5.mono b4.size)
  clear b4
  rw [show oneI (bef false ka sa true ka sa) = 1 by first | rfl | (rw [hb0]; rfl)]
  go_wp2_with (first
    | (refine wpList_load_blk (w := w5) rfl 23 _ rfl u1.heap.size 4 rfl 23 _ qd _ Try.underlying23 rfl (by kernel_rfl) rfl ?_)
    | (refine wpList_load_blk (w := w5) rfl 23 _ rfl u4.heap.size 4 rfl 23 _ qa _ Try.underlying23 rfl (by kernel_rfl) rfl ?_)
    | (refine wpList_run rfl (v := .bool true) (y_eqa (S := fun _ => True) rfl rfl rfl (by simp [packed, zd]) (by kernel_rfl) Try.underlying30 Try.underlying5 (by kernel_rfl) (packed_length _ _ _ _) (packed_length _ _ _ _) _ trivial) ?_))
  refine (ahead_any false ka va sa true ka va sa hka hsa hka hsa _).mono ?_
  rintro e w6 ⟨rfl, b6⟩
  have qa := qa.after b6
  have qd := qd.after b6
  have b6 := b5.trans (b6.mono b5.size)
  clear b5
  rw [show oneI (ahd false ka true ka) = 1 by first | rfl | (rw [hb0]; rfl)]
  go_wp2_with (first
    | (refine wpList_load_blk (w := w6) rfl 23 _ rfl u1.heap.size 4 rfl 23 _ qd _ Try.underlying23 rfl (by kernel_rfl) rfl ?_)
    | (refine wpList_load_blk (w := w6) rfl 23 _ rfl u4.heap.size 4 rfl 23 _ qa _ Try.underlying23 rfl (by kernel_rfl) rfl ?_)
    | (refine wpList_run rfl (v := .bool true) (y_eqa (S := fun _ => True) rfl rfl rfl (by simp [packed, zd]) (by kernel_rfl) Try.underlying30 Try.underlying5 (by kernel_rfl) (packed_length _ _ _ _) (packed_length _ _ _ _) _ trivial) ?_))
  refine (ahead_any true ka va sa true ka va sa hka hsa hka hsa _).mono ?_
  rintro e w7 ⟨rfl, b7⟩
  have qa := qa.after b7
  have qd := qd.after b7
  have b7 := b6.trans (b7.mono b6.size)
  clear b6
  rw [show oneI (ahd true ka true ka) = 0 by first | rfl | (rw [hb0]; rfl)]
  go_wp2_with (first
    | (refine wpList_load_blk (w := w7) rfl 23 _ rfl u1.heap.size 4 rfl 23 _ qd _ Try.underlying23 rfl (by kernel_rfl) rfl ?_)
    | (refine wpList_load_blk (w := w7) rfl 23 _ rfl u4.heap.size 4 rfl 23 _ qa _ Try.underlying23 rfl (by kernel_rfl) rfl ?_)
    | (refine wpList_run rfl (v := .bool true) (y_eqa (S := fun _ => True) rfl rfl rfl (by simp [packed, zd]) (by kernel_rfl) Try.underlying30 Try.underlying5 (by kernel_rfl) (packed_length _ _ _ _) (packed_length _ _ _ _) _ trivial) ?_))
  refine (before_any false ka va sa false ka va sa hka hsa hka hsa _).mono ?_
  rintro e w8 ⟨rfl, b8⟩
  have qa := qa.after b8
  have qd := qd.after b8
  have b8 := b7.trans (b8.mono b7.size)
  clear b7
  rw [show oneI (bef false ka sa false ka sa) = 0 by first | rfl | (rw [hb0]; rfl)]
  go_wp2_with fail
  go_ret
  exact ⟨rfl, b8⟩

theorem walk (rd0 : Bool) (rk0 rv0 rs0 : Int) (w : World) (wk0 : (Lit.int .i64 rk0).wf = true) (wv0 : (Lit.int .i64 rv0).wf = true) (ws0 : (Lit.int .i64 rs0).wf = true) :
    Calls Try.prog 6 #[.agg #[.bool rd0, .int .i64 rk0, .int .i64 rv0, .int .i64 rs0]] w fun e w' => e = .returned (.bool true) ∧ Below w.heap.size w w' := by
  exact start rd0 rk0 rv0 rs0 w wk0 wv0 ws0

set_option maxRecDepth 100000 in
theorem lifted (os : Os) (started : os.Started) (H : Type) (enc : TypeId × Value → H) :
    ReturnsInHanded {} Try.checked os 6 .any (Rows.recordDeadSpec.pre6 enc Try.prog Try.f6 Rows.recordDeadRow.domain false) (Rows.recordDeadSpec.post enc Try.prog Try.f6 false true false false) := by
  refine returnsInHanded_of_change (C := Try.checked) own started (by kernel_rfl) Try.func6
    (ChangeSpec.witness6 (enc := enc) (C := Try.checked) false ⟨#[], #[.agg #[.bool false, .int .i64 0, .int .i64 0, .int .i64 0]], []⟩ 8 (by kernel_rfl) (by kernel_rfl) (by kernel_rfl) (by kernel_rfl)) ?_
  intro W base args ds gs before hval0 hW hcnd _
  have hval : ∀ (j : Nat) t v, Try.f6.params[j]? = some t → args[j]? = some v → Value.okWide Try.prog W .any base t v := hval0
  have hW' := hW
  obtain ⟨p, q, hA0, hV, rfl, hfz, hnd⟩ := hW
  have hA : DataW.TrodAll enc Try.prog W 0 (fun _ => true) true Try.f6.params.toList args.toList ds p := hA0
  rw [Try.params6] at hA hval
  obtain ⟨v0, vs0, d0, ds0, p0, q0, hargs, rfl, rfl, h0, r0⟩ := trodAll_cons hA
  obtain ⟨rfl, rfl, rfl⟩ := trodAll_nil r0
  obtain rfl : args = #[v0] := by cases args; simp_all
  obtain ⟨rfl, rfl⟩ := trodVars_none hV
  have kk0 := h0
  have lt0 : ∀ x ∈ p0, x.block < W.heap.size := by obtain ⟨m, hm⟩ := kk0; exact DataW.trod_lt m _ _ _ hm
  obtain ⟨rd0, rk0, rv0, rs0, rfl, wk0, wv0, ws0⟩ := Rc.open_rec (hval 0 23 v0 rfl rfl) h0
  clear hA0 hval0
  refine (walk rd0 rk0 rv0 rs0 W wk0 wv0 ws0).mono fun e W' ⟨he, bel⟩ => ?_
  subst he
  exact ⟨_, rfl, _, _, _, [], _, [], hW', trodAll_mk1 (shut_bool Try.underlying4 _), (trodAll_cons_mk (Below.trod laidOut (by kernel_rfl) (of_decide_eq_true (by kernel_rfl)) kk0 bel lt0) trodAll_mk0), rfl, bel.frame _, fun h => by cases h⟩

theorem over : Rows.recordDeadRow.holds Try.pinned (OpenSpec.ofChange Rows.recordDeadSpec) :=
  OpenClaim.holds_of_wide 6 Try.f6 rfl rfl rfl rfl rfl rfl rfl ⟨rfl, rfl, rfl, rfl, rfl⟩ rfl rfl rfl rfl rfl (by kernel_rfl) Try.func6 (by kernel_rfl)
    (of_decide_eq_true (by kernel_rfl)) (by unfold Func.isWrapper; first | (rw [if_pos (by decide +kernel)]; kernel_rfl) | (rw [if_neg (by decide +kernel)]; exact ⟨rfl, rfl⟩))
    (fun os started H enc _ => lifted os started H enc)

/-- the statement -/
theorem proved : Rows.RecordDeadSaid :=
  over
#print axioms proved
end Go.Proofs.Ytdfnacnklmmjhaa.recordDead
