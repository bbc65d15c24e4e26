/-
  The law ShapeTasks of package dominolaw17 returns true for all public numbers and every number: all tasks of them, in order; told to stop it stops; as often as one likes.
-/
import Derived.Test.YtipmfficjomcoaaDoorRows
import Derived.Test.YtipmfficjomcoaaDoorCards
import Derived.Test.YtipmfficjomcoaaDoorTie
import Derived.SevenTiedAt
import Derived.WalkKit
import Derived.ProofKit
import Derived.OpenShut
import Derived.ShutString
import Derived.ChangeOld
import Derived.Below
import Derived.LaidMore
import Derived.Stop.Joined
import Derived.Test.YtipmfficjomcoaaDoorB11
import Derived.Test.YtipmfficjomcoaaDoorB12
import Derived.Test.YtipmfficjomcoaaDoorB13
import Derived.Test.YtipmfficjomcoaaDoorB5
namespace Go.Proofs.YtipmfficjomcoaaDoor.shapeTasks
open Go.ChangeShapes Go.WideShapes Go.ChangeAt Go.RowKit
open Go.ChangeMaps (open_string shut_string)
open Go.Shelf Go.Proofs.YtipmfficjomcoaaDoor Mem Held Go.Proofs.YtipmfficjomcoaaDoor.Range Rs Sl Sh
theorem own : ownKnob Tryd.prog.godebug = none := by kernel_rfl
theorem laidOut : laidOutB Tryd.prog = true := by kernel_rfl
def laidList : List (String × DataW Unit) := [("math/bits.deBruijn32tab", Rows.laid_math_bits_deBruijn32tab), ("math/bits.deBruijn64tab", Rows.laid_math_bits_deBruijn64tab)]
attribute [local irreducible] wpList wpListIn Calls
attribute [local go_sem] Oper.semAt_some
theorem wf_says {z : Int} (h : (Lit.int .i64 z).wf = true) : -9223372036854775808 ≤ z ∧ z ≤ 9223372036854775807 := by
  simp [Lit.wf, IntKind.min, IntKind.max, IntKind.signed, IntKind.bits] at h
  omega
theorem y_add {P : Program} {S : World → Prop} {ρ : Operand → Value} {o : Oper} {t ty : TypeId} {x y : Operand} {k : IntKind} {r : Int} (a b : Int) (ho : o.op = .binOp .add t x y ty) (hx : ρ x = .int k a) (hy : ρ y = .int k b) (hr : k.wrap (a + b) = r) : ∀ w, S w → (execOp ρ o).run P w = .ok (.value (.int k r)) w := Held.y_int ho hx hy (Held.run_add t k hr)
theorem stop_at (x : Int) (L : Nat) (hL : L ≤ 1000) : ∃ (N : Int) (a : Nat), IntKind.u64.wrap x = N ∧ IntKind.i64.wrap ((L : Int) + 1) = (L : Int) + 1 ∧ IntKind.u64.wrap ((L : Int) + 1) = (L : Int) + 1 ∧ N.tmod ((L : Int) + 1) = (a : Int) ∧ IntKind.i64.wrap (a : Int) = (a : Int) ∧ IntKind.i64.wrap (1 + (a : Int)) = ((a + 1 : Nat) : Int) ∧ a ≤ 1000 := by
  obtain ⟨N, hN⟩ : ∃ N : Int, IntKind.u64.wrap x = N := ⟨_, rfl⟩
  have hN0 : 0 ≤ N := by rw [← hN, IntKind.wrap_u64]; omega
  have h0 := Int.emod_nonneg N (show ((L : Int) + 1) ≠ 0 by omega)
  have h1 := Int.emod_lt_of_pos N (show (0 : Int) < (L : Int) + 1 by omega)
  refine ⟨N, (N % ((L : Int) + 1)).toNat, hN, ?_, ?_, ?_, ?_, ?_, by omega⟩
  · rw [IntKind.wrap_i64]; omega
  · rw [IntKind.wrap_u64]; omega
  · rw [Int.tmod_eq_emod_of_nonneg hN0]; omega
  · rw [IntKind.wrap_i64]; omega
  · rw [IntKind.wrap_i64]; omega
set_option maxRecDepth 100000 in
set_option maxHeartbeats 16000000 in
theorem start (r k b wk num : Int) (w : World) (hk0 : -9223372036854775808 ≤ k) (hk1 : k ≤ 9223372036854775807) (hT : Bi.TzT w) :
    Calls Tryd.prog 3 #[.agg #[.int .i64 r, .int .i64 k, .int .i64 b, .int .i64 wk], .int .i64 num] w fun e w' => e = .returned (.bool true) ∧ Below w.heap.size w w' := by
  have hTw := hT.lt
  go_enter Tryd.func3, Tryd.ntmps3
  go_wp2_with (first
    | (refine wpList_box_blk (w := w) rfl 23 _ rfl _ rfl ?_; intro u1 qu1 gu1 zu1; have bo1 : Below w.heap.size w u1 := (Below.refl _ w).grown gu1 (Nat.le_refl _) (by simp))
    | (refine wpList_load_blk (w := u1) rfl 23 _ rfl (w.heap.size) 4 rfl 23 _ qu1 _ Tryd.underlying23 rfl (by kernel_rfl) rfl ?_))
  refine (few_any r k b wk u1).mono ?_
  rintro e w2 ⟨x, rfl, hF, b2⟩
  have q2 := qu1.after b2
  have bo2 := bo1.trans (b2.mono bo1.size)
  have hs2 := bo2.size
  clear hF b2 qu1 gu1 zu1 bo1
  go_wp2_with (first
    | (refine wpList_store_blk (w := w2) rfl 23 _ _ rfl (w.heap.size) 4 rfl 23 _ #[.int .i64 x, .int .i64 k, .int .i64 b, .int .i64 wk] rfl q2 (by kernel_rfl) rfl rfl (by kernel_rfl) ?_; intro u3 qu3 gu3 zu3; have bo3 := bo2.grown gu3 hs2 (fun r e => by cases e; exact Nat.le_refl _))
    | (refine wpList_load_blk (w := u3) rfl 23 _ rfl (w.heap.size) 4 rfl 23 _ qu3 _ Tryd.underlying23 rfl (by kernel_rfl) rfl ?_))
  have hj := job_of (r := x) (b := b) (wk := wk) hk0 hk1
  have HCN := Lib.hid (fun W hT => count_any x k b wk hk0 hk1 W hT)
  have HRT := fun W => rtasks_any x k b wk hk0 hk1 W
  have HSQ := Lib.hid (fun bp most W Q hT hm hm2 => seq2t_own bp most x k b wk hk0 hk1 W Q hT hm hm2)
  have HST := Lib.hid (fun bp K W Q hT hK hK2 => stopst_any bp K x k b wk hk0 hk1 W Q hT hK hK2)
  have hlen : (tasksT (inN x k b wk) (mpN x k b wk) (mN x k b wk) (tN x k b wk)).length ≤ 1000 := by rw [tasks_length hj]; exact cn_le hj (by omega)
  have HWF := Lib.hid (show ∀ t ∈ tasksT (inN x k b wk) (mpN x k b wk) (mN x k b wk) (tN x k b wk), kT.wf t from fun t ht => (tasks_b hj ht).wf)
  refine (taskss_any x k b wk u3).mono ?_
  generalize tasksT (inN x k b wk) (mpN x k b wk) (mN x k b wk) (tN x k b wk) = l at *
  rintro e w4 ⟨bp, rfl, qb, hbp, b4⟩
  have q4 := qu3.after b4
  have bo4 := bo3.trans (b4.mono bo3.size)
  have hs4 := bo4.size
  clear hj b4 qu3 gu3 zu3 bo3 q2 bo2
  go_wp2_with (first
    | (refine wpList_load_blk (w := w4) rfl 23 _ rfl (w.heap.size) 4 rfl 23 _ q4 _ Tryd.underlying23 rfl (by kernel_rfl) rfl ?_))
  refine (HRT w4).mono ?_
  rintro e w7 ⟨A0, L, c0, rfl, hL, o7, b7⟩
  have hL := hL.out
  obtain ⟨N, a, e1, e2, e3, e4, e5, e6, ha⟩ := stop_at num L (by omega)
  have q7 := q4.after b7
  have qb7 := qb.after b7
  have bo7 := bo4.trans (b7.mono hs4)
  have hs7 := bo7.size
  have L0 : Lst kT w7 w7.heap.size A0 L l := OwnL.lst o7 HWF.out
  have hbw : bp < w7.heap.size := qb7.lt
  rw [hL] at hlen
  have HLN := Lib.hid hL
  clear o7 b7 bo4 q4 qb HRT hL
  go_wp2_with fail
  go_loopw [7] (fun i wr => ∃ n : Nat, n ≤ 2 ∧ i = .int .i64 n ∧ Below w7.heap.size w7 wr) (fun i _ => 2 - (intOf i).toNat)
  case atStart => exact ⟨0, by omega, rfl, Below.refl _ _⟩
  case round =>
    obtain ⟨n, hn, rfl, bR⟩ := hrel
    have q7 := q7.after bR
    have qb7 := qb7.after bR
    have bw := bo7.trans (bR.mono hs7)
    have hsz := bR.size
    have hwz := bw.size
    by_cases hlt : n < 2
    · have hlt' : (n : Int) < 2 := by omega
      have hn0 : (0 : Int) ≤ (n : Int) := by omega
      have haddn : IntKind.i64.wrap ((n : Int) + 1) = (n : Int) + 1 := by rw [IntKind.wrap_i64]; omega
      have LR := L0.below bR
      clear e1 e2 e3 e4 e5 e6
      go_wp2_with fail
      refine (HSQ.out bp L wr qb7 (hT.below bw hTw) (Nat.le_of_eq HLN.out) (by omega)).mono ?_
      rw [HLN.out]
      rintro e w8 ⟨A1, c1, A2, c2, rfl, o1, o2, b8⟩
      have hz8 := b8.size
      have LR := LR.below (b8.mono hsz)
      have bw8 := bw.trans (b8.mono hwz)
      have b78 := bR.trans (b8.mono hsz)
      have hs8 := bw8.size
      have L2 : Lst kT w8 w8.heap.size A2 L l := OwnL.lst o2 HWF.out
      have I1 : Ints w8 .i64 w8.heap.size A1 L (numsI L) := o1.ints (numsI_length L)
      clear o1 o2 b8 bR
      go_wp2_with fail
      refine (awake17_any _ (hT.below bw8 hTw)).mono ?_
      rintro e w9 ⟨rfl, b9⟩
      have hz9 := b9.size
      have LR := LR.below (b9.mono (Nat.le_trans hsz hz8))
      have L2 := L2.below b9
      have I1 := I1.below b9
      have bw9 := bw8.trans (b9.mono hs8)
      have b79 := b78.trans (b9.mono (Nat.le_trans hsz hz8))
      clear b9 bw8 b78
      go_wp2_with fail
      refine (plainT_any w8.heap.size w7.heap.size A2 A0 L L c2 c0 l l w9 L2 LR (by omega) (by omega) (by omega) (by omega)).mono ?_
      rintro e w10 ⟨rfl, b10⟩
      rw [decide_eq_true (rfl : l = l)]
      have hz10 := b10.size
      have I1 := I1.below (b10.mono hz9)
      have bw10 := bw9.trans (b10.mono bw9.size)
      have b710 := b79.trans (b10.mono (by omega))
      clear b10 bw9 b79 L2 LR
      go_wp2_with fail
      go_loopw [11] (fun i wx => ∃ m : Nat, m ≤ L ∧ i = .int .i64 m ∧ w10 = wx) (fun i _ => L - (intOf i).toNat)
      case atStart => exact ⟨0, by omega, rfl, rfl⟩
      case round =>
        obtain ⟨m, hm, rfl, rfl⟩ := hrel
        by_cases hlm : m < L
        · have hlm' : (m : Int) < (L : Int) := by omega
          have hm0 : (0 : Int) ≤ (m : Int) := by omega
          have haddm : IntKind.i64.wrap ((m : Int) + 1) = (m : Int) + 1 := by rw [IntKind.wrap_i64]; omega
          obtain ⟨ba, offa, rfl, hba, hca⟩ := I1.at_ hlm
          rw [show (numsI L).getD m 0 = (m : Int) by simp [numsI, List.getD_eq_getElem?_getD, hlm]] at hca
          go_wp2_with fail
          go_roundw
          case rel => exact ⟨m + 1, by omega, by go_num, by trivial⟩
          case measure => simp [intOf]; omega
        · go_wp2_with fail
          go_roundw
          case rel => exact ⟨n + 1, by omega, by go_num, b710⟩
          case measure => simp [intOf]; omega
    · have hL1 : ((L : Int) + 1) ≠ 0 := by omega
      have hnx : ¬ ((n : Int) < 2) := by omega
      go_wp2_with (first
        | (refine Held.wpList_run (w := wr) rfl (v := .int .u64 N) (Held.y_convert (S := fun _ => True) (k := .i64) (a := num) rfl rfl (by kernel_rfl) Tryd.underlying37 e1 _ trivial) ?_)
        | (refine Held.wpList_run (w := wr) rfl (v := .int .u64 ((L : Int) + 1)) (Held.y_convert (S := fun _ => True) (k := .i64) (a := (L : Int) + 1) rfl rfl (by kernel_rfl) Tryd.underlying37 e3 _ trivial) ?_)
        | (refine Held.wpList_run (w := wr) rfl (v := .int .u64 (a : Int)) (Bi.y_rem (S := fun _ => True) N ((L : Int) + 1) rfl rfl rfl (Held.run_rem 37 .u64 (by omega) e4) _ trivial) ?_)
        | (refine Held.wpList_run (w := wr) rfl (v := .int .i64 (a : Int)) (Held.y_convert (S := fun _ => True) (k := .u64) (a := (a : Int)) rfl rfl (by kernel_rfl) Tryd.underlying3 e5 _ trivial) ?_)
        | (refine Held.wpList_run (w := wr) rfl (v := .int .i64 ((a + 1 : Nat) : Int)) (y_add (S := fun _ => True) 1 (a : Int) rfl rfl rfl e6 _ trivial) ?_)
        | (refine wpList_load_blk (w := wr) rfl 23 _ rfl (w.heap.size) 4 rfl 23 _ q7 _ Tryd.underlying23 rfl (by kernel_rfl) rfl ?_))
      refine (HCN.out wr (hT.below bw hTw)).mono ?_
      rw [HLN.out]
      rintro e w8 ⟨rfl, b8⟩
      have qb8 := qb7.after b8
      have bw8 := bw.trans (b8.mono hwz)
      have hs8 := bw8.size
      go_wp2_with fail
      refine (HST.out bp (a + 1) w8 qb8 (hT.below bw8 hTw) (by omega) (by omega)).mono ?_
      rw [HLN.out]
      rintro e w9 ⟨rfl, b9⟩
      have bw9 := bw8.trans (b9.mono hs8)
      obtain ⟨Z, hZ⟩ : ∃ Z : Nat, min (a + 1) L = Z := ⟨_, rfl⟩
      have hmin : (if (L : Int) < ((a + 1 : Nat) : Int) then (L : Int) else ((a + 1 : Nat) : Int)) = (Z : Int) := by split <;> omega
      rw [hZ]
      clear e1 e2 e3 e4 e5 e6 hZ
      go_wp2_with (refine Held.wpList_run (w := w9) rfl (v := .int .i64 (Z : Int)) (Held.y_min (S := fun _ => True) rfl rfl rfl hmin _ trivial) ?_)
      go_ret
      exact ⟨rfl, bw9⟩
theorem walk (pr0 pk0 pb0 pw0 : Int) (a1 : Int) (w : World) (wr0 : (Lit.int .i64 pr0).wf = true) (wk0 : (Lit.int .i64 pk0).wf = true) (wb0 : (Lit.int .i64 pb0).wf = true) (ww0 : (Lit.int .i64 pw0).wf = true) (w1 : (Lit.int .i64 a1).wf = true) (hL : laidMetH Tryd.prog laidList w) :
    Calls Tryd.prog 3 #[.agg #[.int .i64 pr0, .int .i64 pk0, .int .i64 pb0, .int .i64 pw0], .int .i64 a1] w fun e w' => e = .returned (.bool true) ∧ Below w.heap.size w w' := by
  exact (fun _ _ _ _ => start pr0 pk0 pb0 pw0 a1 w (wf_says wk0).1 (wf_says wk0).2 (Bi.bits_of_laid hL)) wr0 wb0 ww0 w1
set_option maxRecDepth 100000 in
theorem door_met (os : Os) (args : Array Value) : laidMetH Tryd.prog laidList ((World.doorLaid Tryd.prog 400 os).forCall (fun _ _ => 0) ⟨#[], args, []⟩).memory :=
  laidMetH_of_parts3 (fuel := 8) (laidMet_of_run' 8 (by kernel_rfl) (by kernel_rfl)) (by kernel_rfl) (by kernel_rfl)
set_option maxRecDepth 100000 in
theorem lifted (os : Os) (started : os.Started) (H : Type) (enc : TypeId × Value → H) :
    ReturnsInHanded {} Tryd.checked os 3 .any (fun w args => (Rows.shapeTasksSpec.pre enc Tryd.prog Tryd.f3 [] false w args ∧ laidMetH Tryd.prog laidList w) ∧ sizedMet enc Tryd.prog Tryd.f3 (OpenSpec.ofChange Rows.shapeTasksSpec) false w args)
      (Rows.shapeTasksSpec.post enc Tryd.prog Tryd.f3 false true false false) := by
  refine returnsInHanded_of_change_and (C := Tryd.checked) (X := fun w _ => laidMetH Tryd.prog laidList w) (fun _ _ _ hh h => h.of_heap hh) own started (by kernel_rfl) Tryd.func3
    (ChangeSpec.witness_shaped (enc := enc) (C := Tryd.checked) (os := os) (X := fun w _ => laidMetH Tryd.prog laidList w) false (World.doorLaid Tryd.prog 400 os) #[.agg #[.int .i64 0, .int .i64 0, .int .i64 0, .int .i64 0], .int .i64 0] 8 rfl (World.shaped_of_RefB (by kernel_rfl) (by kernel_rfl)) (by kernel_rfl) (by kernel_rfl) (by kernel_rfl) (door_met os _)) ?_
  intro W base args ds gs before hval0 hW _ _ hL _
  have hval : ∀ (j : Nat) t v, Tryd.f3.params[j]? = some t → args[j]? = some v → Value.okWide Tryd.prog W .any base t v := hval0
  have hW' := hW
  obtain ⟨p, q, hA0, hV, rfl, hfz, hnd⟩ := hW
  have hA : DataW.TrodAll enc Tryd.prog W 0 (fun _ => true) true Tryd.f3.params.toList args.toList ds p := hA0
  rw [Tryd.params3] at hA hval
  obtain ⟨v0, vs0, d0, ds0, p0, q0, hargs, rfl, rfl, h0, r0⟩ := trodAll_cons hA
  obtain ⟨v1, vs1, d1, ds1, p1, q1, rfl, rfl, rfl, h1, r1⟩ := trodAll_cons r0
  obtain ⟨rfl, rfl, rfl⟩ := trodAll_nil r1
  obtain rfl : args = #[v0, v1] := by cases args; simp_all
  obtain ⟨rfl, rfl⟩ := trodVars_none hV
  have kk0 := h0
  have lt0 : ∀ x ∈ p0, x.block < W.heap.size := by obtain ⟨m, hm⟩ := kk0; exact DataW.trod_lt m _ _ _ hm
  obtain ⟨pr0, pk0, pb0, pw0, rfl, wr0, wk0, wb0, ww0⟩ := Sp.open_params (hval 0 23 v0 rfl rfl) h0
  obtain ⟨a1, rfl, rfl, rfl, w1⟩ := open_int Tryd.underlying3 (hval 1 3 v1 rfl rfl) h1
  clear hA0 hval0
  refine (walk pr0 pk0 pb0 pw0 a1 W wr0 wk0 wb0 ww0 w1 hL).mono fun e W' ⟨he, bel⟩ => ?_
  subst he
  exact ⟨_, rfl, _, _, _, [], _, [], hW', trodAll_mk1 (shut_bool Tryd.underlying4 _), (trodAll_cons_mk (Below.trod laidOut (by kernel_rfl) (of_decide_eq_true (by kernel_rfl)) kk0 bel lt0) (trodAll_cons_mk (shut_int Tryd.underlying3 w1) trodAll_mk0)), rfl, bel.frame _, fun h => by cases h⟩
theorem over : Rows.shapeTasksRow.holds Tryd.pinned (OpenSpec.ofChange Rows.shapeTasksSpec) :=
  OpenClaim.holds_of_wide 3 Tryd.f3 rfl rfl rfl rfl rfl rfl rfl ⟨rfl, rfl, rfl, rfl, rfl⟩ rfl rfl rfl rfl rfl (by kernel_rfl) Tryd.func3 (by kernel_rfl)
    (of_decide_eq_true (by kernel_rfl)) (by unfold Func.isWrapper; first | (rw [if_pos (by decide +kernel)]; kernel_rfl) | (rw [if_neg (by decide +kernel)]; exact ⟨rfl, rfl⟩))
    (fun os started H enc _ => lifted os started H enc)
theorem proved : Rows.ShapeTasksCardSaid :=
  Claim7.holds_tied_plain_at .later [] [.data, .data] true (true, "b51c9af04704eea82f655a5f45461bda46be16b68d0798ec6033d81cff00a01d") false
    over (fun _ h => by cases h) (by kernel_rfl) (fun _ h => by cases h) shapeTasks_row_tie rfl ⟨rfl, rfl⟩ (by kernel_rfl) rfl
    (fun f fn hf hfn => by
      obtain rfl : f = 3 := Option.some.inj ((show Tryd.prog.funcNamed "domino/dominolaw17.ShapeTasks" = some 3 by kernel_rfl).symm.trans hf) |>.symm
      obtain rfl : fn = Tryd.f3 := (Option.some.inj (Tryd.func3.symm.trans hfn)).symm
      exact ⟨by kernel_rfl, fun j t ht => by
        rw [Tryd.params3] at ht
        have hm : t ∈ [23, 3] := by simpa using Array.mem_of_getElem? ht
        have hall : ([23, 3].all fun u => !Tryd.prog.wantsStandIn u) = true := by kernel_rfl
        exact (show Tryd.prog.wantsStandIn t = false by simpa using List.all_eq_true.1 hall t hm)⟩)
    (by kernel_rfl)
#print axioms proved
end Go.Proofs.YtipmfficjomcoaaDoor.shapeTasks
