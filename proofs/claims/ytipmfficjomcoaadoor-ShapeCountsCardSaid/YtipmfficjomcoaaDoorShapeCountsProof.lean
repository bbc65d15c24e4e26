/-
  The law ShapeCounts of package dominolaw17 returns true for all public numbers: how many tasks there are hangs on how many blocks there are.
-/
import Derived.Test.YtipmfficjomcoaaDoorRows
import Derived.Test.YtipmfficjomcoaaDoorCards
import Derived.Test.YtipmfficjomcoaaDoorTie
import Derived.SevenTiedAt
import Derived.WalkKit
import Derived.ProofKit
import Derived.OpenShut
import Derived.ShutString
import Derived.ChangeOld
import Derived.Below
import Derived.LaidMore
import Derived.Stop.Joined
import Derived.Test.YtipmfficjomcoaaDoorB7
import Derived.Test.YtipmfficjomcoaaDoorB4
namespace Go.Proofs.YtipmfficjomcoaaDoor.shapeCounts
open Go.ChangeShapes Go.WideShapes Go.ChangeAt Go.RowKit
open Go.ChangeMaps (open_string shut_string)
open Go.Shelf Go.Proofs.YtipmfficjomcoaaDoor Mem Held Go.Proofs.YtipmfficjomcoaaDoor.Range Sl Sh
theorem own : ownKnob Tryd.prog.godebug = none := by kernel_rfl
theorem laidOut : laidOutB Tryd.prog = true := by kernel_rfl
def laidList : List (String × DataW Unit) := [("math/bits.deBruijn32tab", Rows.laid_math_bits_deBruijn32tab), ("math/bits.deBruijn64tab", Rows.laid_math_bits_deBruijn64tab)]
attribute [local irreducible] wpList wpListIn Calls
attribute [local go_sem] Oper.semAt_some
theorem wf_says {z : Int} (h : (Lit.int .i64 z).wf = true) : -9223372036854775808 ≤ z ∧ z ≤ 9223372036854775807 := by
  simp [Lit.wf, IntKind.min, IntKind.max, IntKind.signed, IntKind.bits] at h
  omega
set_option maxRecDepth 100000 in
set_option maxHeartbeats 8000000 in
theorem start (r k b wk : Int) (w : World) (hk0 : -9223372036854775808 ≤ k) (hk1 : k ≤ 9223372036854775807) (hT : Bi.TzT w) :
    Calls Tryd.prog 6 #[.agg #[.int .i64 r, .int .i64 k, .int .i64 b, .int .i64 wk]] w fun e w' => e = .returned (.bool true) ∧ Below w.heap.size w w' := by
  have hTw := hT.lt
  go_enter Tryd.func6, Tryd.ntmps6
  go_wp2_with (first
    | (refine wpList_box_blk (w := w) rfl 23 _ rfl _ rfl ?_; intro u1 qu1 gu1 zu1; have bo1 : Below w.heap.size w u1 := (Below.refl _ w).grown gu1 (Nat.le_refl _) (by simp))
    | (refine wpList_load_blk (w := u1) rfl 23 _ rfl (w.heap.size) 4 rfl 23 _ qu1 _ Tryd.underlying23 rfl (by kernel_rfl) rfl ?_))
  refine (few_any r k b wk u1).mono ?_
  rintro e w2 ⟨x, rfl, hF, b2⟩
  have q2 := qu1.after b2
  have bo2 := bo1.trans (b2.mono bo1.size)
  have hs2 := bo2.size
  clear hF b2 qu1 gu1 zu1 bo1
  go_wp2_with (first
    | (refine wpList_store_blk (w := w2) rfl 23 _ _ rfl (w.heap.size) 4 rfl 23 _ #[.int .i64 x, .int .i64 k, .int .i64 b, .int .i64 wk] rfl q2 (by kernel_rfl) rfl rfl (by kernel_rfl) ?_; intro u3 qu3 gu3 zu3; have bo3 := bo2.grown gu3 hs2 (fun r e => by cases e; exact Nat.le_refl _))
    | (refine wpList_load_blk (w := u3) rfl 23 _ rfl (w.heap.size) 4 rfl 23 _ qu3 _ Tryd.underlying23 rfl (by kernel_rfl) rfl ?_))
  have h := job_of (r := x) (b := b) (wk := wk) hk0 hk1
  have HN := fun W hT => count_any x k b wk hk0 hk1 W hT
  have HL := fun W hT => last_of x k b wk hk0 hk1 W hT
  have hlen := tasks_length h
  refine (rblocks_any x k b wk u3).mono ?_
  generalize inN x k b wk = I at *
  generalize mpN x k b wk = mp at *
  generalize mN x k b wk = M at *
  generalize tN x k b wk = T at *
  generalize tasksT I mp M T = l at *
  rintro e w4 ⟨rfl, b4⟩
  have q4 := qu3.after b4
  have bo4 := bo3.trans (b4.mono bo3.size)
  have h32 := h.m32
  have hi := h.i32
  have hle := h.le
  have ht15 := h.t15
  have HR := fun (W : World) => Bi.rrounds_any (M : Int) W (by omega) (by omega)
  rw [h.T] at HR
  have HR := fun (W : World) => (HR W).mono (R' := fun e W' => e = .returned (.int .i64 (T : Int)) ∧ Below W.heap.size W W') (fun e W' h => ⟨h.1, h.2 ▸ Below.refl _ _⟩)
  obtain ⟨y, hy⟩ : ∃ y : Nat, T * (M / 2) = y := ⟨_, rfl⟩
  have hyb : T * (M / 2) ≤ 15 * 16 := Nat.mul_le_mul ht15 (by omega)
  rw [hy] at hyb
  obtain ⟨M2, hM2⟩ : ∃ M2 : Nat, M / 2 = M2 := ⟨_, rfl⟩
  obtain ⟨C, hC⟩ : ∃ C : Nat, l.length = C := ⟨_, rfl⟩
  have hCe : C = I + (M - mp) + y + M + y := by
    rw [← hC, hlen]
    simp only [cnK, nrK, szK, Nat.reduceEqDiff, if_true, if_false, or_true, or_false, Nat.one_mul, Nat.zero_add, hy]
  have hyZ : 2 * (T : Int) * (M2 : Int) = 2 * (y : Int) := by rw [← hy, hM2, Int.natCast_mul, Int.mul_assoc]
  have hkI : (I : Int) * k = mp := by rw [Int.mul_comm]; exact h.e
  have E1 := Lib.hid (show IntKind.i64.wrap ((I : Int) + (M : Int)) = (I : Int) + (M : Int) by rw [IntKind.wrap_i64]; omega)
  have E2 := Lib.hid (show IntKind.i64.wrap ((I : Int) * k) = (mp : Int) by rw [hkI, IntKind.wrap_i64]; omega)
  have E3 := Lib.hid (show IntKind.i64.wrap ((I : Int) + (M : Int) - (mp : Int)) = (I : Int) + (M : Int) - (mp : Int) by rw [IntKind.wrap_i64]; omega)
  have E4 := Lib.hid (show IntKind.i64.wrap (2 * (T : Int)) = 2 * (T : Int) by rw [IntKind.wrap_i64]; omega)
  have E5 := Lib.hid (show IntKind.i64.wrap ((M : Int).tdiv 2) = (M2 : Int) by rw [Int.tdiv_eq_ediv_of_nonneg (by omega), IntKind.wrap_i64]; omega)
  have E6 := Lib.hid (show IntKind.i64.wrap (2 * (T : Int) * (M2 : Int)) = 2 * (y : Int) by rw [hyZ, IntKind.wrap_i64]; omega)
  have E7 := Lib.hid (show IntKind.i64.wrap ((I : Int) + (M : Int) - (mp : Int) + 2 * (y : Int)) = (I : Int) + (M : Int) - (mp : Int) + 2 * (y : Int) by rw [IntKind.wrap_i64]; omega)
  have E8 := Lib.hid (show IntKind.i64.wrap ((I : Int) + (M : Int) - (mp : Int) + 2 * (y : Int) + (M : Int)) = (C : Int) by rw [hCe, IntKind.wrap_i64]; omega)
  have hC0 : M = 0 → C = 0 := fun e => by
    subst e
    have : y = 0 := by rw [← hy]; rfl
    omega
  have hlL : (lastT M (T : Int)).length = M := by simp [lastT]
  have HL := Lib.hid HL
  have HN := Lib.hid HN
  have HLL := Lib.hid hlL
  have HC0 := Lib.hid hC0
  clear hC0 hlL hkI hyZ hCe hlen h hy hyb hM2 h32 hi hle ht15
  go_wp2_with fail
  refine wp_region_held (S := fun W => Below w4.heap.size w4 W) (by kernel_rfl) ?_
  change wpAnyH _ _ _ _ _ _ _ _ w4.drew
  have c0_0 := (Below.refl w4.heap.size w4).drew
  refine Held.tk (v := .int .i64 (I : Int)) 0 (some 13) rfl (Held.y_move rfl rfl) c0_0 ?_
  simp only [Act.put, Z1, Z2, Z3]
  refine Held.tk (v := .int .i64 (M : Int)) 1 (some 14) rfl (Held.y_move rfl rfl) c0_0 ?_
  simp only [Act.put, Z1, Z2, Z3]
  refine Held.tk (v := .int .i64 (((I : Int) + (M : Int)))) 2 (some 15) rfl (Held.y_int rfl rfl rfl (Held.run_add 3 .i64 (E1.out))) c0_0 ?_
  simp only [Act.put, Z1, Z2, Z3]
  refine Held.tk (v := .int .i64 (I : Int)) 3 (some 16) rfl (Held.y_move rfl rfl) c0_0 ?_
  simp only [Act.put, Z1, Z2, Z3]
  refine Held.tk (v := .pointer (some ⟨w.heap.size, 1, none⟩)) 4 (some 17) rfl (Held.y_field (k := 1) (s := 0) rfl rfl Tryd.underlying23 rfl (by kernel_rfl) rfl) c0_0 ?_
  simp only [Act.put, Z1, Z2, Z3]
  refine Held.tk (v := .int .i64 k) 5 (some 18) rfl (Held.y_load rfl rfl (by kernel_rfl) (fun W hW => (q4.after hW).cell rfl)) c0_0 ?_
  simp only [Act.put, Z1, Z2, Z3]
  refine Held.tk (v := .int .i64 ((mp : Int))) 6 (some 19) rfl (Held.y_int rfl rfl rfl (Held.run_mul 3 .i64 (E2.out))) c0_0 ?_
  simp only [Act.put, Z1, Z2, Z3]
  refine Held.tk (v := .int .i64 (((I : Int) + (M : Int) - (mp : Int)))) 7 (some 20) rfl (Held.y_int rfl rfl rfl (Held.run_sub 3 .i64 (E3.out))) c0_0 ?_
  simp only [Act.put, Z1, Z2, Z3]
  refine Held.tk (v := .int .i64 (M : Int)) 8 (some 21) rfl (Held.y_move rfl rfl) c0_0 ?_
  simp only [Act.put, Z1, Z2, Z3]
  refine Held.tk (v := .int .i64 (M : Int)) 11 (some 24) rfl (Held.y_move rfl rfl) c0_0 ?_
  simp only [Act.put, Z1, Z2, Z3]
  refine Held.tk (v := .int .i64 (M2 : Int)) 12 (some 25) rfl (Bi.y_quo (M : Int) 2 rfl rfl rfl (Held.run_quo 3 .i64 (by decide) E5.out)) c0_0 ?_
  simp only [Act.put, Z1, Z2, Z3]
  refine Held.tk (v := .int .i64 (M : Int)) 15 (some 28) rfl (Held.y_move rfl rfl) c0_0 ?_
  simp only [Act.put, Z1, Z2, Z3]
  refine Held.one 9 (by kernel_rfl) ?_
  refine Held.op_call 9 (some 22) 30 #[.int .i64 (M : Int)] rfl rfl rfl rfl (enters_of Tryd.func30 (by kernel_rfl) rfl) (by simp [Act.eval])
    (HR _) ?_
  rintro e w1 ⟨rfl, b1⟩
  have c0_1 := c0_0.trans (b1.mono c0_0.size)
  refine ⟨_, rfl, c0_1, ?_⟩
  simp only [Act.put, Z1, Z2, Z3]
  refine Held.tk (v := .int .i64 ((2 * (T : Int)))) 10 (some 23) rfl (Held.y_int rfl rfl rfl (Held.run_mul 3 .i64 (E4.out))) c0_1 ?_
  simp only [Act.put, Z1, Z2, Z3]
  refine Held.tk (v := .int .i64 ((2 * (y : Int)))) 13 (some 26) rfl (Held.y_int rfl rfl rfl (Held.run_mul 3 .i64 (E6.out))) c0_1 ?_
  simp only [Act.put, Z1, Z2, Z3]
  refine Held.tk (v := .int .i64 (((I : Int) + (M : Int) - (mp : Int) + 2 * (y : Int)))) 14 (some 27) rfl (Held.y_int rfl rfl rfl (Held.run_add 3 .i64 (E7.out))) c0_1 ?_
  simp only [Act.put, Z1, Z2, Z3]
  refine Held.tk (v := .int .i64 ((C : Int))) 16 (some 29) rfl (Held.y_int rfl rfl rfl (Held.run_add 3 .i64 (E8.out))) c0_1 ?_
  simp only [Act.put, Z1, Z2, Z3]
  refine Held.tk (v := .int .i64 ((C : Int))) 17 (some 5) rfl (Held.y_assign rfl rfl) c0_1 ?_
  simp only [Act.put, Z1, Z2, Z3]
  refine wpAnyH_done (by kernel_rfl) ?_ _
  have bz := bo4.trans (c0_1.mono bo4.size)
  have qz := q4.after c0_1
  clear E1 E2 E3 E4 E5 E6 E7 E8 q4 bo4 b4 qu3 bo3 gu3 zu3
  have hsz := bz.size
  by_cases hM : (M : Int) = 0
  · obtain rfl : M = 0 := by omega
    obtain rfl : C = 0 := HC0.out rfl
    go_wp2_with fail
    have hTz := hT.below bz hTw
    refine (awake17_any _ hTz).mono ?_
    rintro e w5 ⟨rfl, b5⟩
    have qz := qz.after b5
    have bz := bz.trans (b5.mono hsz)
    have hTz := hT.below bz hTw
    have hsz := bz.size
    go_wp2_with (first
      | (refine wpList_load_blk (w := w5) rfl 23 _ rfl (w.heap.size) 4 rfl 23 _ qz _ Tryd.underlying23 rfl (by kernel_rfl) rfl ?_))
    refine (HN.out w5 hTz).mono ?_
    rw [hC]
    rintro e w6 ⟨rfl, b6⟩
    have qz := qz.after b6
    have bz := bz.trans (b6.mono hsz)
    have hTz := hT.below bz hTw
    have hsz := bz.size
    go_wp2_with (first
      | (refine wpList_load_blk (w := w6) rfl 23 _ rfl (w.heap.size) 4 rfl 23 _ qz _ Tryd.underlying23 rfl (by kernel_rfl) rfl ?_))
    refine (HL.out w6 hTz).mono ?_
    rintro e w7 ⟨A, m, c, rfl, hm, o7, b7⟩
    have hm' := hm.out
    rw [HLL.out] at hm'
    subst hm'
    have bz := bz.trans (b7.mono hsz)
    go_wp2_with fail
    go_ret
    exact ⟨rfl, bz⟩
  · clear HC0
    go_wp2_with fail
    have hTz := hT.below bz hTw
    refine (awake17_any _ hTz).mono ?_
    rintro e w5 ⟨rfl, b5⟩
    have qz := qz.after b5
    have bz := bz.trans (b5.mono hsz)
    have hTz := hT.below bz hTw
    have hsz := bz.size
    go_wp2_with (first
      | (refine wpList_load_blk (w := w5) rfl 23 _ rfl (w.heap.size) 4 rfl 23 _ qz _ Tryd.underlying23 rfl (by kernel_rfl) rfl ?_))
    refine (HN.out w5 hTz).mono ?_
    rw [hC]
    rintro e w6 ⟨rfl, b6⟩
    have qz := qz.after b6
    have bz := bz.trans (b6.mono hsz)
    have hTz := hT.below bz hTw
    have hsz := bz.size
    go_wp2_with (first
      | (refine wpList_load_blk (w := w6) rfl 23 _ rfl (w.heap.size) 4 rfl 23 _ qz _ Tryd.underlying23 rfl (by kernel_rfl) rfl ?_))
    refine (HL.out w6 hTz).mono ?_
    rintro e w7 ⟨A, m, c, rfl, hm, o7, b7⟩
    have hm' := hm.out
    rw [HLL.out] at hm'
    subst hm'
    have bz := bz.trans (b7.mono hsz)
    go_wp2_with fail
    go_ret
    exact ⟨rfl, bz⟩
theorem walk (pr0 pk0 pb0 pw0 : Int) (w : World) (wr0 : (Lit.int .i64 pr0).wf = true) (wk0 : (Lit.int .i64 pk0).wf = true) (wb0 : (Lit.int .i64 pb0).wf = true) (ww0 : (Lit.int .i64 pw0).wf = true) (hL : laidMetH Tryd.prog laidList w) :
    Calls Tryd.prog 6 #[.agg #[.int .i64 pr0, .int .i64 pk0, .int .i64 pb0, .int .i64 pw0]] w fun e w' => e = .returned (.bool true) ∧ Below w.heap.size w w' := by
  exact start pr0 pk0 pb0 pw0 w (wf_says wk0).1 (wf_says wk0).2 (Bi.bits_of_laid hL)
set_option maxRecDepth 100000 in
theorem door_met (os : Os) (args : Array Value) : laidMetH Tryd.prog laidList ((World.doorLaid Tryd.prog 400 os).forCall (fun _ _ => 0) ⟨#[], args, []⟩).memory :=
  laidMetH_of_parts3 (fuel := 8) (laidMet_of_run' 8 (by kernel_rfl) (by kernel_rfl)) (by kernel_rfl) (by kernel_rfl)
set_option maxRecDepth 100000 in
theorem lifted (os : Os) (started : os.Started) (H : Type) (enc : TypeId × Value → H) :
    ReturnsInHanded {} Tryd.checked os 6 .any (fun w args => (Rows.shapeCountsSpec.pre enc Tryd.prog Tryd.f6 [] false w args ∧ laidMetH Tryd.prog laidList w) ∧ sizedMet enc Tryd.prog Tryd.f6 (OpenSpec.ofChange Rows.shapeCountsSpec) false w args)
      (Rows.shapeCountsSpec.post enc Tryd.prog Tryd.f6 false true false false) := by
  refine returnsInHanded_of_change_and (C := Tryd.checked) (X := fun w _ => laidMetH Tryd.prog laidList w) (fun _ _ _ hh h => h.of_heap hh) own started (by kernel_rfl) Tryd.func6
    (ChangeSpec.witness_shaped (enc := enc) (C := Tryd.checked) (os := os) (X := fun w _ => laidMetH Tryd.prog laidList w) false (World.doorLaid Tryd.prog 400 os) #[.agg #[.int .i64 0, .int .i64 0, .int .i64 0, .int .i64 0]] 8 rfl (World.shaped_of_RefB (by kernel_rfl) (by kernel_rfl)) (by kernel_rfl) (by kernel_rfl) (by kernel_rfl) (door_met os _)) ?_
  intro W base args ds gs before hval0 hW _ _ hL _
  have hval : ∀ (j : Nat) t v, Tryd.f6.params[j]? = some t → args[j]? = some v → Value.okWide Tryd.prog W .any base t v := hval0
  have hW' := hW
  obtain ⟨p, q, hA0, hV, rfl, hfz, hnd⟩ := hW
  have hA : DataW.TrodAll enc Tryd.prog W 0 (fun _ => true) true Tryd.f6.params.toList args.toList ds p := hA0
  rw [Tryd.params6] at hA hval
  obtain ⟨v0, vs0, d0, ds0, p0, q0, hargs, rfl, rfl, h0, r0⟩ := trodAll_cons hA
  obtain ⟨rfl, rfl, rfl⟩ := trodAll_nil r0
  obtain rfl : args = #[v0] := by cases args; simp_all
  obtain ⟨rfl, rfl⟩ := trodVars_none hV
  have kk0 := h0
  have lt0 : ∀ x ∈ p0, x.block < W.heap.size := by obtain ⟨m, hm⟩ := kk0; exact DataW.trod_lt m _ _ _ hm
  obtain ⟨pr0, pk0, pb0, pw0, rfl, wr0, wk0, wb0, ww0⟩ := Sp.open_params (hval 0 23 v0 rfl rfl) h0
  clear hA0 hval0
  refine (walk pr0 pk0 pb0 pw0 W wr0 wk0 wb0 ww0 hL).mono fun e W' ⟨he, bel⟩ => ?_
  subst he
  exact ⟨_, rfl, _, _, _, [], _, [], hW', trodAll_mk1 (shut_bool Tryd.underlying4 _), (trodAll_cons_mk (Below.trod laidOut (by kernel_rfl) (of_decide_eq_true (by kernel_rfl)) kk0 bel lt0) trodAll_mk0), rfl, bel.frame _, fun h => by cases h⟩
theorem over : Rows.shapeCountsRow.holds Tryd.pinned (OpenSpec.ofChange Rows.shapeCountsSpec) :=
  OpenClaim.holds_of_wide 6 Tryd.f6 rfl rfl rfl rfl rfl rfl rfl ⟨rfl, rfl, rfl, rfl, rfl⟩ rfl rfl rfl rfl rfl (by kernel_rfl) Tryd.func6 (by kernel_rfl)
    (of_decide_eq_true (by kernel_rfl)) (by unfold Func.isWrapper; first | (rw [if_pos (by decide +kernel)]; kernel_rfl) | (rw [if_neg (by decide +kernel)]; exact ⟨rfl, rfl⟩))
    (fun os started H enc _ => lifted os started H enc)
theorem proved : Rows.ShapeCountsCardSaid :=
  Claim7.holds_tied_plain_at .later [] [.data, .data] true (true, "b51c9af04704eea82f655a5f45461bda46be16b68d0798ec6033d81cff00a01d") false
    over (fun _ h => by cases h) (by kernel_rfl) (fun _ h => by cases h) shapeCounts_row_tie rfl ⟨rfl, rfl⟩ (by kernel_rfl) rfl
    (fun f fn hf hfn => by
      obtain rfl : f = 6 := Option.some.inj ((show Tryd.prog.funcNamed "domino/dominolaw17.ShapeCounts" = some 6 by kernel_rfl).symm.trans hf) |>.symm
      obtain rfl : fn = Tryd.f6 := (Option.some.inj (Tryd.func6.symm.trans hfn)).symm
      exact ⟨by kernel_rfl, fun j t ht => by
        rw [Tryd.params6] at ht
        have hm : t ∈ [23] := by simpa using Array.mem_of_getElem? ht
        have hall : ([23].all fun u => !Tryd.prog.wantsStandIn u) = true := by kernel_rfl
        exact (show Tryd.prog.wantsStandIn t = false by simpa using List.all_eq_true.1 hall t hm)⟩)
    (by kernel_rfl)
#print axioms proved
end Go.Proofs.YtipmfficjomcoaaDoor.shapeCounts
