/-
  The document's own check of programs, by its contract, of any program.
  Package chain's alive, goesOn, bare, folded, finished, by their contracts.
  Package chain's iterator over the carry and the records behind it, by its contract: it hands out each with its place.
  What stands between two rounds of package chain's Step: the variables' blocks, the list of the call's own; what the rounds come to.
-/
import Derived.Test.YtlinmcgmkpkpaaaDoorB14
import Derived.Test.YtlinmcgmkpkpaaaDoorB11
import Derived.Test.YtlinmcgmkpkpaaaDoorB13
import Derived.Test.YtlinmcgmkpkpaaaDoorB4
import Derived.Test.YtlinmcgmkpkpaaaDoorB9
import Derived.Test.YtlinmcgmkpkpaaaDoorB5
import Derived.Test.YtlinmcgmkpkpaaaDoorB10
set_option linter.unusedVariables false
namespace Go.Proofs.YtlinmcgmkpkpaaaDoor.Cn
open Go.RowKit Go.Shelf Go.Proofs.YtlinmcgmkpkpaaaDoor Mem Held Rc Rs Sl Vm
attribute [local irreducible] wpList wpListIn Calls
set_option maxRecDepth 100000 in
set_option maxHeartbeats 16000000 in
theorem rcheck_any (B : Nat) (K : Int) (A1 A2 A3 : Option Addr) (n1 c1 n2 c2 n3 c3 : Nat) (m f fi : List O) (w : World) (h1 : Lst kO w B A1 n1 m) (h2 : Lst kO w B A2 n2 f) (h3 : Lst kO w B A3 n3 fi) (hB : B ≤ w.heap.size) (l1 : n1 ≤ 9223372036854775807) (l2 : n2 ≤ 9223372036854775807) (l3 : n3 ≤ 9223372036854775807) :
    Calls Tryd.prog 19 #[.agg #[.int .i64 K, .slice A1 n1 c1, .slice A2 n2 c2, .slice A3 n3 c3]] w fun e w' => e = .returned (.int .i64 (checkE K m f fi)) ∧ Below w.heap.size w w' := by
  go_enter Tryd.func19, Tryd.ntmps19
  have P1 := Lib.hid (fun u (bu : Below w.heap.size w u) => rpart_any B A1 n1 c1 m K u (h1.below (bu.mono hB)) (Nat.le_trans hB bu.size) l1)
  have P2 := Lib.hid (fun u (bu : Below w.heap.size w u) => rpart_any B A2 n2 c2 f 0 u (h2.below (bu.mono hB)) (Nat.le_trans hB bu.size) l2)
  have P3 := Lib.hid (fun u (bu : Below w.heap.size w u) => rpart_any B A3 n3 c3 fi 0 u (h3.below (bu.mono hB)) (Nat.le_trans hB bu.size) l3)
  have HE := Lib.hid (show checkE K m f fi = if (decide (1 ≤ K) && decide (K ≤ 4) && mayP m K && mayP f 0 && mayP fi 0) = true then 0 else 8 from rfl)
  clear h1 h2 h3
  by_cases k1 : K < 1
  · have HR := Lib.hid (HE.out.trans (if_neg (by simp; omega)))
    go_wp2_with (first
      | (refine wpList_box_blk (w := w) rfl 26 _ rfl #[.int .i64 K, .slice A1 n1 c1, .slice A2 n2 c2, .slice A3 n3 c3] rfl ?_; intro u1 q1 g1 z1; have b1 : Below w.heap.size w u1 := (Below.refl _ w).grown g1 (Nat.le_refl _) (by simp); have e0 := q1.cell (i := 0) rfl; have e1 := q1.cell (i := 1) rfl; clear g1 z1)
      | (refine wpList_run (w := u1) rfl (v := .pointer (some ⟨w.heap.size, 0, none⟩)) (Held.y_field (S := fun _ => True) (k := 0) (s := 0) rfl rfl Tryd.underlying26 rfl (by kernel_rfl) rfl _ trivial) ?_))
    go_ret
    exact ⟨Mem.ret_int HR.out.symm, b1⟩
  by_cases k4 : K > 4
  · have HR := Lib.hid (HE.out.trans (if_neg (by simp; omega)))
    go_wp2_with (first
      | (refine wpList_box_blk (w := w) rfl 26 _ rfl #[.int .i64 K, .slice A1 n1 c1, .slice A2 n2 c2, .slice A3 n3 c3] rfl ?_; intro u1 q1 g1 z1; have b1 : Below w.heap.size w u1 := (Below.refl _ w).grown g1 (Nat.le_refl _) (by simp); have e0 := q1.cell (i := 0) rfl; have e1 := q1.cell (i := 1) rfl; clear g1 z1)
      | (refine wpList_run (w := u1) rfl (v := .pointer (some ⟨w.heap.size, 0, none⟩)) (Held.y_field (S := fun _ => True) (k := 0) (s := 0) rfl rfl Tryd.underlying26 rfl (by kernel_rfl) rfl _ trivial) ?_))
    go_ret
    exact ⟨Mem.ret_int HR.out.symm, b1⟩
  have HE := Lib.hid (HE.out.trans (by rw [decide_eq_true (show 1 ≤ K by omega), decide_eq_true (show K ≤ 4 by omega)]))
  go_wp2_with (first
    | (refine wpList_box_blk (w := w) rfl 26 _ rfl #[.int .i64 K, .slice A1 n1 c1, .slice A2 n2 c2, .slice A3 n3 c3] rfl ?_; intro u1 q1 g1 z1; have b1 : Below w.heap.size w u1 := (Below.refl _ w).grown g1 (Nat.le_refl _) (by simp); have e0 := q1.cell (i := 0) rfl; have e1 := q1.cell (i := 1) rfl; clear g1 z1)
    | (refine wpList_run (w := u1) rfl (v := .pointer (some ⟨w.heap.size, 0, none⟩)) (Held.y_field (S := fun _ => True) (k := 0) (s := 0) rfl rfl Tryd.underlying26 rfl (by kernel_rfl) rfl _ trivial) ?_)
    | (refine wpList_run (w := u1) rfl (v := .pointer (some ⟨w.heap.size, 1, none⟩)) (Held.y_field (S := fun _ => True) (k := 1) (s := 0) rfl rfl Tryd.underlying26 rfl (by kernel_rfl) rfl _ trivial) ?_))
  refine (P1.out u1 b1).mono ?_
  rintro e u2 ⟨rfl, b2⟩
  have q2 := q1.after b2
  have b2 := b1.trans (b2.mono b1.size)
  have e2 := q2.cell (i := 2) rfl
  clear e0 e1 b1 q1
  cases hm : mayP m K with
  | false =>
    go_wp2_with fail
    go_ret
    exact ⟨Mem.ret_int (HE.out.trans (by simp [hm])).symm, b2⟩
  | true =>
  have HM := Lib.hid hm
  clear hm
  go_wp2_with (refine wpList_run (w := u2) rfl (v := .pointer (some ⟨w.heap.size, 2, none⟩)) (Held.y_field (S := fun _ => True) (k := 2) (s := 0) rfl rfl Tryd.underlying26 rfl (by kernel_rfl) rfl _ trivial) ?_)
  refine (P2.out u2 b2).mono ?_
  rintro e u3 ⟨rfl, b3⟩
  have q3 := q2.after b3
  have b3 := b2.trans (b3.mono b2.size)
  have e3 := q3.cell (i := 3) rfl
  clear e2 b2 q2
  cases hf : mayP f 0 with
  | false =>
    go_wp2_with fail
    go_ret
    exact ⟨Mem.ret_int (HE.out.trans (by simp [HM.out, hf])).symm, b3⟩
  | true =>
  have HF := Lib.hid hf
  clear hf
  go_wp2_with (refine wpList_run (w := u3) rfl (v := .pointer (some ⟨w.heap.size, 3, none⟩)) (Held.y_field (S := fun _ => True) (k := 3) (s := 0) rfl rfl Tryd.underlying26 rfl (by kernel_rfl) rfl _ trivial) ?_)
  refine (P3.out u3 b3).mono ?_
  rintro e u4 ⟨rfl, b4⟩
  have b4 := b3.trans (b4.mono b3.size)
  clear e3 b3 q3
  cases he : mayP fi 0 with
  | false =>
    go_wp2_with fail
    go_ret
    exact ⟨Mem.ret_int (HE.out.trans (by simp [HM.out, HF.out, he])).symm, b4⟩
  | true =>
  go_wp2_with fail
  go_ret
  exact ⟨Mem.ret_int (HE.out.trans (by simp [HM.out, HF.out, he])).symm, b4⟩
end Go.Proofs.YtlinmcgmkpkpaaaDoor.Cn
namespace Go.Proofs.YtlinmcgmkpkpaaaDoor.Cn
open Go.RowKit Go.Shelf Go.Proofs.YtlinmcgmkpkpaaaDoor Mem Held Ct Rc Rs Sl Vm
attribute [local irreducible] wpList wpListIn Calls
theorem run_andNot_one {P : Program} (t : TypeId) (a b : Bool) (w : World) : (binOp .andNot t (.int .u64 (oneI a)) (.int .u64 (oneI b))).run P w = .ok (.int .u64 (oneI (a && !b))) w := by
  have : bits .andNot .u64 (oneI a) (oneI b) = oneI (a && !b) := by cases a <;> cases b <;> decide
  rw [← this]
  simp [binOp, Op.intBits, bits]
theorem run_or_one {P : Program} (t : TypeId) (a b : Bool) (w : World) : (binOp .or t (.int .u64 (oneI a)) (.int .u64 (oneI b))).run P w = .ok (.int .u64 (oneI (a || b))) w := by
  rw [← or_one a b]
  exact Held.run_bitop (by simp) t .u64 rfl w
theorem goes_eq (so r : R) : (!r.d && !(ahd r.d r.k so.d so.k || ahd so.d so.k r.d r.k)) = goesB so r := by
  unfold goesB ahd
  cases r.d <;> cases so.d <;> simp
  rw [Bool.eq_iff_iff]
  simp
  omega
theorem pick_cells (b : Bool) (x y : R) : pickV (oneI b) #[.bool x.d, .int .i64 x.k, .int .i64 x.v, .int .i64 x.s] #[.bool y.d, .int .i64 y.k, .int .i64 y.v, .int .i64 y.s] = #[.bool (if b = true then x else y).d, .int .i64 (if b = true then x else y).k, .int .i64 (if b = true then x else y).v, .int .i64 (if b = true then x else y).s] := by
  cases b <;> rfl
theorem bare_pick (r : R) : (if (!r.d) = true then (⟨false, r.k, r.v, 0⟩ : R) else RD) = bareR r := by
  unfold bareR
  cases r.d <;> rfl
theorem fin_pick (G : Int → Int → Int) (r : R) : (if (!r.d) = true then (⟨false, r.k, G r.k r.v, 0⟩ : R) else RD) = finR G r := by
  unfold finR
  cases r.d <;> rfl
theorem pick_rec (b : Bool) (x y z : R) (hz : (if b = true then x else y) = z) (hx : x.wf) (hy : y.wf) (w : World) : Calls Tryd.prog 76 #[.int .u64 (oneI b), .agg #[.bool x.d, .int .i64 x.k, .int .i64 x.v, .int .i64 x.s], .agg #[.bool y.d, .int .i64 y.k, .int .i64 y.v, .int .i64 y.s]] w fun e w' => e = .returned (.agg #[.bool z.d, .int .i64 z.k, .int .i64 z.v, .int .i64 z.s]) ∧ Below w.heap.size w w' := by
  subst hz
  have h := pick_any (oneI b) x.d x.k x.v x.s y.d y.k y.v y.s (one_wf b) hx.1 hx.2.1 hx.2.2 hy.1 hy.2.1 hy.2.2 w
  rw [pick_cells] at h
  exact h
set_option maxRecDepth 100000 in
set_option maxHeartbeats 4000000 in
theorem alive_any (ra : R) (hra : ra.wf) (w : World) :
    Calls Tryd.prog 93 #[.agg #[.bool ra.d, .int .i64 ra.k, .int .i64 ra.v, .int .i64 ra.s]] w fun e w' => e = .returned (.int .u64 (oneI (!ra.d))) ∧ Below w.heap.size w w' := by
  go_enter Tryd.func93, Tryd.ntmps93
  go_wp2_with (refine wpList_box_blk (w := w) rfl 51 _ rfl #[.bool ra.d, .int .i64 ra.k, .int .i64 ra.v, .int .i64 ra.s] rfl ?_; intro wra qra gra zra)
  have bz : Below w.heap.size w wra := (Below.refl _ w).grown gra (Nat.le_refl _) (by simp)
  have lra := qra.lt
  clear gra zra
  refine wp_region_held (S := fun W => Below wra.heap.size wra W) (by kernel_rfl) ?_
  change wpAnyH _ _ _ _ _ _ _ _ wra.drew
  have c0_0 := (Below.refl wra.heap.size wra).drew
  refine Held.tk (v := .agg #[.bool ra.d, .int .i64 ra.k, .int .i64 ra.v, .int .i64 ra.s]) 0 (some 3) rfl (Held.y_load_blk (n := 4) rfl rfl Tryd.underlying51 rfl (by kernel_rfl) rfl (fun W hW => qra.below hW qra.lt)) c0_0 ?_
  simp only [Act.put, Z1, Z2, Z3]
  refine Held.one 1 (by kernel_rfl) ?_
  refine Held.op_call 1 (some 4) 56 #[] rfl rfl rfl rfl (enters_of Tryd.func56 (by kernel_rfl) rfl) (by simp)
    (dead_any _) ?_
  rintro e w1 ⟨rfl, b1⟩
  have c0_1 := c0_0.trans (b1.mono c0_0.size)
  refine ⟨_, rfl, c0_1, ?_⟩
  simp only [Act.put, Z1, Z2, Z3]
  refine Held.one 2 (by kernel_rfl) ?_
  refine Held.op_call 2 (some 5) 94 #[.agg #[.bool ra.d, .int .i64 ra.k, .int .i64 ra.v, .int .i64 ra.s], .agg #[.bool true, .int .i64 0, .int .i64 0, .int .i64 0]] rfl rfl rfl rfl (enters_of Tryd.func94 (by kernel_rfl) rfl) (by simp [Act.eval])
    (ahead_any ra.d ra.k ra.v ra.s true 0 0 0 hra.1 hra.2.2 wf_dead.1 wf_dead.2.2 _) ?_
  rintro e w2 ⟨rfl, b2⟩
  have c0_2 := c0_1.trans (b2.mono c0_1.size)
  refine ⟨_, rfl, c0_2, ?_⟩
  simp only [Act.put, Z1, Z2, Z3]
  refine Held.tk (v := .int .u64 (oneI (ahd ra.d ra.k true 0))) 3 (some 2) rfl (Held.y_assign rfl rfl) c0_2 ?_
  simp only [Act.put, Z1, Z2, Z3]
  refine wpAnyH_done (by kernel_rfl) ?_ _
  have dz := bz.trans (c0_2.mono bz.size)
  go_wp2_with fail
  go_ret
  exact ⟨Mem.ret_int (by rw [show ahd ra.d ra.k true 0 = !ra.d by unfold ahd; simp]), dz⟩
set_option maxRecDepth 100000 in
set_option maxHeartbeats 4000000 in
theorem goes_any (so ra : R) (hso : so.wf) (hra : ra.wf) (w : World) :
    Calls Tryd.prog 75 #[.agg #[.bool so.d, .int .i64 so.k, .int .i64 so.v, .int .i64 so.s], .agg #[.bool ra.d, .int .i64 ra.k, .int .i64 ra.v, .int .i64 ra.s]] w fun e w' => e = .returned (.int .u64 (oneI (goesB so ra))) ∧ Below w.heap.size w w' := by
  go_enter Tryd.func75, Tryd.ntmps75
  go_wp2_with (first
    | (refine wpList_box_blk (w := w) rfl 51 _ rfl #[.bool so.d, .int .i64 so.k, .int .i64 so.v, .int .i64 so.s] rfl ?_; intro wso qso gso zso)
    | (refine wpList_box_blk (w := wso) rfl 51 _ rfl #[.bool ra.d, .int .i64 ra.k, .int .i64 ra.v, .int .i64 ra.s] rfl ?_; intro wra qra gra zra))
  have bz : Below w.heap.size w wra := ((Below.refl _ w).grown gso (Nat.le_refl _) (by simp)).grown gra (gso.size) (by simp)
  have lso := qso.lt
  have lra := qra.lt
  have qso := (qso).grown gra (by simp)
  clear gso zso gra zra
  refine wp_region_held (S := fun W => Below wra.heap.size wra W) (by kernel_rfl) ?_
  change wpAnyH _ _ _ _ _ _ _ _ wra.drew
  have c0_0 := (Below.refl wra.heap.size wra).drew
  refine Held.tk (v := .agg #[.bool ra.d, .int .i64 ra.k, .int .i64 ra.v, .int .i64 ra.s]) 0 (some 5) rfl (Held.y_load_blk (n := 4) rfl rfl Tryd.underlying51 rfl (by kernel_rfl) rfl (fun W hW => qra.below hW qra.lt)) c0_0 ?_
  simp only [Act.put, Z1, Z2, Z3]
  refine Held.tk (v := .agg #[.bool ra.d, .int .i64 ra.k, .int .i64 ra.v, .int .i64 ra.s]) 2 (some 7) rfl (Held.y_load_blk (n := 4) rfl rfl Tryd.underlying51 rfl (by kernel_rfl) rfl (fun W hW => qra.below hW qra.lt)) c0_0 ?_
  simp only [Act.put, Z1, Z2, Z3]
  refine Held.tk (v := .agg #[.bool so.d, .int .i64 so.k, .int .i64 so.v, .int .i64 so.s]) 3 (some 8) rfl (Held.y_load_blk (n := 4) rfl rfl Tryd.underlying51 rfl (by kernel_rfl) rfl (fun W hW => qso.below hW qso.lt)) c0_0 ?_
  simp only [Act.put, Z1, Z2, Z3]
  refine Held.tk (v := .agg #[.bool so.d, .int .i64 so.k, .int .i64 so.v, .int .i64 so.s]) 5 (some 10) rfl (Held.y_load_blk (n := 4) rfl rfl Tryd.underlying51 rfl (by kernel_rfl) rfl (fun W hW => qso.below hW qso.lt)) c0_0 ?_
  simp only [Act.put, Z1, Z2, Z3]
  refine Held.tk (v := .agg #[.bool ra.d, .int .i64 ra.k, .int .i64 ra.v, .int .i64 ra.s]) 6 (some 11) rfl (Held.y_load_blk (n := 4) rfl rfl Tryd.underlying51 rfl (by kernel_rfl) rfl (fun W hW => qra.below hW qra.lt)) c0_0 ?_
  simp only [Act.put, Z1, Z2, Z3]
  refine Held.one 1 (by kernel_rfl) ?_
  refine Held.op_call 1 (some 6) 93 #[.agg #[.bool ra.d, .int .i64 ra.k, .int .i64 ra.v, .int .i64 ra.s]] rfl rfl rfl rfl (enters_of Tryd.func93 (by kernel_rfl) rfl) (by simp [Act.eval])
    (alive_any ra hra _) ?_
  rintro e w1 ⟨rfl, b1⟩
  have c0_1 := c0_0.trans (b1.mono c0_0.size)
  refine ⟨_, rfl, c0_1, ?_⟩
  simp only [Act.put, Z1, Z2, Z3]
  refine Held.one 4 (by kernel_rfl) ?_
  refine Held.op_call 4 (some 9) 94 #[.agg #[.bool ra.d, .int .i64 ra.k, .int .i64 ra.v, .int .i64 ra.s], .agg #[.bool so.d, .int .i64 so.k, .int .i64 so.v, .int .i64 so.s]] rfl rfl rfl rfl (enters_of Tryd.func94 (by kernel_rfl) rfl) (by simp [Act.eval])
    (ahead_any ra.d ra.k ra.v ra.s so.d so.k so.v so.s hra.1 hra.2.2 hso.1 hso.2.2 _) ?_
  rintro e w2 ⟨rfl, b2⟩
  have c0_2 := c0_1.trans (b2.mono c0_1.size)
  refine ⟨_, rfl, c0_2, ?_⟩
  simp only [Act.put, Z1, Z2, Z3]
  refine Held.one 7 (by kernel_rfl) ?_
  refine Held.op_call 7 (some 12) 94 #[.agg #[.bool so.d, .int .i64 so.k, .int .i64 so.v, .int .i64 so.s], .agg #[.bool ra.d, .int .i64 ra.k, .int .i64 ra.v, .int .i64 ra.s]] rfl rfl rfl rfl (enters_of Tryd.func94 (by kernel_rfl) rfl) (by simp [Act.eval])
    (ahead_any so.d so.k so.v so.s ra.d ra.k ra.v ra.s hso.1 hso.2.2 hra.1 hra.2.2 _) ?_
  rintro e w3 ⟨rfl, b3⟩
  have c0_3 := c0_2.trans (b3.mono c0_2.size)
  refine ⟨_, rfl, c0_3, ?_⟩
  simp only [Act.put, Z1, Z2, Z3]
  refine Held.tk (v := .int .u64 (oneI (ahd ra.d ra.k so.d so.k || ahd so.d so.k ra.d ra.k))) 8 (some 13) rfl (Held.y_int rfl rfl rfl (run_or_one _ _ _)) c0_3 ?_
  simp only [Act.put, Z1, Z2, Z3]
  refine Held.tk (v := .int .u64 (oneI (!ra.d && !(ahd ra.d ra.k so.d so.k || ahd so.d so.k ra.d ra.k)))) 9 (some 14) rfl (Held.y_int rfl rfl rfl (run_andNot_one _ _ _)) c0_3 ?_
  simp only [Act.put, Z1, Z2, Z3]
  refine Held.tk (v := .int .u64 (oneI (!ra.d && !(ahd ra.d ra.k so.d so.k || ahd so.d so.k ra.d ra.k)))) 10 (some 4) rfl (Held.y_assign rfl rfl) c0_3 ?_
  simp only [Act.put, Z1, Z2, Z3]
  refine wpAnyH_done (by kernel_rfl) ?_ _
  have dz := bz.trans (c0_3.mono bz.size)
  go_wp2_with fail
  go_ret
  exact ⟨Mem.ret_int (by rw [goes_eq]), dz⟩
set_option maxRecDepth 100000 in
set_option maxHeartbeats 4000000 in
theorem bare_any (ra : R) (hra : ra.wf) (w : World) :
    Calls Tryd.prog 74 #[.agg #[.bool ra.d, .int .i64 ra.k, .int .i64 ra.v, .int .i64 ra.s]] w fun e w' => e = .returned (.agg #[.bool (bareR ra).d, .int .i64 (bareR ra).k, .int .i64 (bareR ra).v, .int .i64 (bareR ra).s]) ∧ Below w.heap.size w w' := by
  go_enter Tryd.func74, Tryd.ntmps74
  have hbuilt : (⟨false, ra.k, ra.v, 0⟩ : R).wf := ⟨hra.1, hra.2.1, rfl⟩
  go_wp2_with (first
    | (refine wpList_box_blk (w := w) rfl 51 _ rfl #[.bool ra.d, .int .i64 ra.k, .int .i64 ra.v, .int .i64 ra.s] rfl ?_; intro wra qra gra zra)
    | (refine wpList_alloc_blk (w := wra) rfl 51 rfl _ zero_rec ?_; intro wz qz gz zz))
  have bz : Below w.heap.size w wz := ((Below.refl _ w).grown gra (Nat.le_refl _) (by simp)).grown gz (gra.size) (by simp)
  have lra := qra.lt
  have lz := qz.lt
  have qra := (qra).grown gz (by simp)
  have lz : wra.heap.size ≤ wz.heap.size := Nat.le_of_lt lz
  have mra : w.heap.size < wra.heap.size := lra
  have hwt : w.heap.size ≤ wra.heap.size := Nat.le_of_lt mra
  clear gra zra gz zz
  refine wp_region_held (S := fun W => Below wra.heap.size wz W) (by kernel_rfl) ?_
  change wpAnyH _ _ _ _ _ _ _ _ wz.drew
  have c0_0 := (Below.refl wz.heap.size wz).drew
  refine Held.tk (v := .agg #[.bool ra.d, .int .i64 ra.k, .int .i64 ra.v, .int .i64 ra.s]) 0 (some 3) rfl (Held.y_load_blk (n := 4) rfl rfl Tryd.underlying51 rfl (by kernel_rfl) rfl (fun W hW => qra.below hW mra)) (c0_0.mono lz) ?_
  simp only [Act.put, Z1, Z2, Z3]
  refine Held.tk (v := .pointer (some ⟨w.heap.size, 1, none⟩)) 2 (some 5) rfl (Held.y_field (k := 1) (s := 0) rfl rfl Tryd.underlying51 rfl (by kernel_rfl) rfl) (c0_0.mono lz) ?_
  simp only [Act.put, Z1, Z2, Z3]
  refine Held.tk (v := .int .i64 ra.k) 3 (some 6) rfl (Held.y_load rfl rfl (by kernel_rfl) (fun W hW => (qra.below hW mra).cell rfl)) (c0_0.mono lz) ?_
  simp only [Act.put, Z1, Z2, Z3]
  refine Held.tk (v := .pointer (some ⟨w.heap.size, 2, none⟩)) 4 (some 7) rfl (Held.y_field (k := 2) (s := 0) rfl rfl Tryd.underlying51 rfl (by kernel_rfl) rfl) (c0_0.mono lz) ?_
  simp only [Act.put, Z1, Z2, Z3]
  refine Held.tk (v := .int .i64 ra.v) 5 (some 8) rfl (Held.y_load rfl rfl (by kernel_rfl) (fun W hW => (qra.below hW mra).cell rfl)) (c0_0.mono lz) ?_
  simp only [Act.put, Z1, Z2, Z3]
  refine Held.tk (v := .agg #[.bool false, .int .i64 ra.k, .int .i64 ra.v, .int .i64 0]) 6 (some 9) rfl (Held.y_build rfl (by kernel_rfl)) (c0_0.mono lz) ?_
  simp only [Act.put, Z1, Z2, Z3]
  refine Held.one 1 (by kernel_rfl) ?_
  refine Held.op_call 1 (some 4) 93 #[.agg #[.bool ra.d, .int .i64 ra.k, .int .i64 ra.v, .int .i64 ra.s]] rfl rfl rfl rfl (enters_of Tryd.func93 (by kernel_rfl) rfl) (by simp [Act.eval])
    (alive_any ra hra _) ?_
  rintro e w1 ⟨rfl, b1⟩
  have c0_1 := c0_0.trans (b1.mono c0_0.size)
  refine ⟨_, rfl, (c0_1.mono lz), ?_⟩
  simp only [Act.put, Z1, Z2, Z3]
  refine Held.one 7 (by kernel_rfl) ?_
  refine Held.op_call 7 (some 10) 56 #[] rfl rfl rfl rfl (enters_of Tryd.func56 (by kernel_rfl) rfl) (by simp)
    (dead_any _) ?_
  rintro e w2 ⟨rfl, b2⟩
  have c0_2 := c0_1.trans (b2.mono c0_1.size)
  refine ⟨_, rfl, (c0_2.mono lz), ?_⟩
  simp only [Act.put, Z1, Z2, Z3]
  refine Held.one 8 (by kernel_rfl) ?_
  refine Held.op_call 8 (some 11) 76 #[.int .u64 (oneI (!ra.d)), .agg #[.bool false, .int .i64 ra.k, .int .i64 ra.v, .int .i64 0], .agg #[.bool true, .int .i64 0, .int .i64 0, .int .i64 0]] rfl rfl rfl rfl (enters_of Tryd.func76 (by kernel_rfl) rfl) (by simp [Act.eval])
    (pick_rec (!ra.d) ⟨false, ra.k, ra.v, 0⟩ RD (bareR ra) (bare_pick ra) hbuilt wf_dead _) ?_
  rintro e w3 ⟨rfl, b3⟩
  have c0_3 := c0_2.trans (b3.mono c0_2.size)
  refine ⟨_, rfl, (c0_3.mono lz), ?_⟩
  simp only [Act.put, Z1, Z2, Z3]
  refine Held.one 9 (by kernel_rfl) ?_
  have qz := qz.below c0_3 qz.lt
  refine Held.op_store_blk 9 none 51 wra.heap.size 4 51 _ #[.bool (bareR ra).d, .int .i64 (bareR ra).k, .int .i64 (bareR ra).v, .int .i64 (bareR ra).s] rfl rfl rfl rfl rfl rfl qz info_rec rfl rfl (by kernel_rfl) ?_
  intro w4 qz g4
  have d4 := (bz.trans (c0_3.mono bz.size)).grown g4 (Nat.le_trans bz.size c0_3.size) (fun r e => by cases e; exact hwt)
  have c4 := (c0_3.mono lz).grown g4 (Nat.le_trans lz c0_3.size) (fun r e => by cases e; exact Nat.le_refl _)
  refine ⟨c4, ?_⟩
  simp only [Act.put]
  refine wpAnyH_done (by kernel_rfl) ?_ _
  go_wp2_with fail
  skip
  exact bodyPost_ret (results_blk rfl _ _ wra.heap.size 4 _ _ rfl qz _ Tryd.underlying51 rfl info_rec rfl) rfl ⟨rfl, d4⟩
set_option maxRecDepth 100000 in
set_option maxHeartbeats 4000000 in
theorem folded_one (B : Nat) (K : Int) (A1 A2 A3 : Option Addr) (n1 c1 n2 c2 n3 c3 : Nat) (m f fi : List O) (so ra : R) (hso : so.wf) (hra : ra.wf) (w : World) (h1 : Lst kO w B A1 n1 m) (h2 : Lst kO w B A2 n2 f) (h3 : Lst kO w B A3 n3 fi) (hB : B ≤ w.heap.size) :
    Calls Tryd.prog 78 #[.agg #[.int .i64 K, .slice A1 n1 c1, .slice A2 n2 c2, .slice A3 n3 c3], .agg #[.bool so.d, .int .i64 so.k, .int .i64 so.v, .int .i64 so.s], .agg #[.bool ra.d, .int .i64 ra.k, .int .i64 ra.v, .int .i64 ra.s]] w fun e w' => e = .returned (.agg #[.bool (joinR (foldV K m f fi) so ra).d, .int .i64 (joinR (foldV K m f fi) so ra).k, .int .i64 (joinR (foldV K m f fi) so ra).v, .int .i64 (joinR (foldV K m f fi) so ra).s]) ∧ Below w.heap.size w w' := by
  go_enter Tryd.func78, Tryd.ntmps78
  go_wp2_with (first
    | (refine wpList_box_blk (w := w) rfl 26 _ rfl #[.int .i64 K, .slice A1 n1 c1, .slice A2 n2 c2, .slice A3 n3 c3] rfl ?_; intro wpp qpp gpp zpp)
    | (refine wpList_box_blk (w := wpp) rfl 51 _ rfl #[.bool so.d, .int .i64 so.k, .int .i64 so.v, .int .i64 so.s] rfl ?_; intro wso qso gso zso)
    | (refine wpList_box_blk (w := wso) rfl 51 _ rfl #[.bool ra.d, .int .i64 ra.k, .int .i64 ra.v, .int .i64 ra.s] rfl ?_; intro wra qra gra zra)
    | (refine wpList_alloc_blk (w := wra) rfl 51 rfl _ zero_rec ?_; intro wz qz gz zz))
  have bz : Below w.heap.size w wz := ((((Below.refl _ w).grown gpp (Nat.le_refl _) (by simp)).grown gso (gpp.size) (by simp)).grown gra (Nat.le_trans (gpp.size) gso.size) (by simp)).grown gz (Nat.le_trans (Nat.le_trans (gpp.size) gso.size) gra.size) (by simp)
  have lpp := qpp.lt
  have lso := qso.lt
  have lra := qra.lt
  have lz := qz.lt
  have qpp := (((qpp).grown gso (by simp)).grown gra (by simp)).grown gz (by simp)
  have qso := ((qso).grown gra (by simp)).grown gz (by simp)
  have qra := (qra).grown gz (by simp)
  have lz : wra.heap.size ≤ wz.heap.size := Nat.le_of_lt lz
  have mpp : w.heap.size < wra.heap.size := Nat.lt_of_lt_of_le lpp (Nat.le_trans (gso.size) gra.size)
  have mso : wpp.heap.size < wra.heap.size := Nat.lt_of_lt_of_le lso (gra.size)
  have mra : wso.heap.size < wra.heap.size := lra
  have hwt : w.heap.size ≤ wra.heap.size := Nat.le_of_lt mpp
  clear gpp zpp gso zso gra zra gz zz
  have hBz := Nat.le_trans hB bz.size
  have h1 := h1.below (bz.mono hB)
  have h2 := h2.below (bz.mono hB)
  have h3 := h3.below (bz.mono hB)
  refine wp_region_held (S := fun W => Below wra.heap.size wz W) (by kernel_rfl) ?_
  change wpAnyH _ _ _ _ _ _ _ _ wz.drew
  have c0_0 := (Below.refl wz.heap.size wz).drew
  refine Held.tk (v := .pointer (some ⟨wpp.heap.size, 1, none⟩)) 0 (some 7) rfl (Held.y_field (k := 1) (s := 0) rfl rfl Tryd.underlying51 rfl (by kernel_rfl) rfl) (c0_0.mono lz) ?_
  simp only [Act.put, Z1, Z2, Z3]
  refine Held.tk (v := .int .i64 so.k) 1 (some 8) rfl (Held.y_load rfl rfl (by kernel_rfl) (fun W hW => (qso.below hW mso).cell rfl)) (c0_0.mono lz) ?_
  simp only [Act.put, Z1, Z2, Z3]
  refine Held.tk (v := .agg #[.int .i64 K, .slice A1 n1 c1, .slice A2 n2 c2, .slice A3 n3 c3]) 2 (some 9) rfl (Held.y_load_blk (n := 4) rfl rfl Tryd.underlying26 rfl (by kernel_rfl) rfl (fun W hW => qpp.below hW mpp)) (c0_0.mono lz) ?_
  simp only [Act.put, Z1, Z2, Z3]
  refine Held.tk (v := .pointer (some ⟨wpp.heap.size, 2, none⟩)) 3 (some 10) rfl (Held.y_field (k := 2) (s := 0) rfl rfl Tryd.underlying51 rfl (by kernel_rfl) rfl) (c0_0.mono lz) ?_
  simp only [Act.put, Z1, Z2, Z3]
  refine Held.tk (v := .int .i64 so.v) 4 (some 11) rfl (Held.y_load rfl rfl (by kernel_rfl) (fun W hW => (qso.below hW mso).cell rfl)) (c0_0.mono lz) ?_
  simp only [Act.put, Z1, Z2, Z3]
  refine Held.tk (v := .pointer (some ⟨wso.heap.size, 2, none⟩)) 5 (some 12) rfl (Held.y_field (k := 2) (s := 0) rfl rfl Tryd.underlying51 rfl (by kernel_rfl) rfl) (c0_0.mono lz) ?_
  simp only [Act.put, Z1, Z2, Z3]
  refine Held.tk (v := .int .i64 ra.v) 6 (some 13) rfl (Held.y_load rfl rfl (by kernel_rfl) (fun W hW => (qra.below hW mra).cell rfl)) (c0_0.mono lz) ?_
  simp only [Act.put, Z1, Z2, Z3]
  refine Held.one 7 (by kernel_rfl) ?_
  refine Held.op_call 7 (some 14) 99 #[.agg #[.int .i64 K, .slice A1 n1 c1, .slice A2 n2 c2, .slice A3 n3 c3], .int .i64 so.v, .int .i64 ra.v] rfl rfl rfl rfl (enters_of Tryd.func99 (by kernel_rfl) rfl) (by simp [Act.eval])
    (fold_any B K A1 A2 A3 n1 c1 n2 c2 n3 c3 m f fi so.v ra.v _ hso.2.1 hra.2.1 (h1.below (c0_0.mono hBz)) (h2.below (c0_0.mono hBz)) (h3.below (c0_0.mono hBz)) (Nat.le_trans hBz c0_0.size)) ?_
  rintro e w1 ⟨rfl, b1⟩
  have c0_1 := c0_0.trans (b1.mono c0_0.size)
  refine ⟨_, rfl, (c0_1.mono lz), ?_⟩
  simp only [Act.put, Z1, Z2, Z3]
  refine Held.tk (v := .agg #[.bool false, .int .i64 so.k, .int .i64 (foldV K m f fi so.v ra.v), .int .i64 0]) 8 (some 15) rfl (Held.y_build rfl (by kernel_rfl)) (c0_1.mono lz) ?_
  simp only [Act.put, Z1, Z2, Z3]
  refine Held.one 9 (by kernel_rfl) ?_
  have qz := qz.below c0_1 qz.lt
  refine Held.op_store_blk 9 none 51 wra.heap.size 4 51 _ #[.bool false, .int .i64 so.k, .int .i64 (foldV K m f fi so.v ra.v), .int .i64 0] rfl rfl rfl rfl rfl rfl qz info_rec rfl rfl (by kernel_rfl) ?_
  intro w2 qz g2
  have d2 := (bz.trans (c0_1.mono bz.size)).grown g2 (Nat.le_trans bz.size c0_1.size) (fun r e => by cases e; exact hwt)
  have c2 := (c0_1.mono lz).grown g2 (Nat.le_trans lz c0_1.size) (fun r e => by cases e; exact Nat.le_refl _)
  refine ⟨c2, ?_⟩
  simp only [Act.put]
  refine wpAnyH_done (by kernel_rfl) ?_ _
  go_wp2_with fail
  skip
  exact bodyPost_ret (results_blk rfl _ _ wra.heap.size 4 _ _ rfl qz _ Tryd.underlying51 rfl info_rec rfl) rfl ⟨rfl, d2⟩
set_option maxRecDepth 100000 in
set_option maxHeartbeats 4000000 in
theorem finished_any (B : Nat) (K : Int) (A1 A2 A3 : Option Addr) (n1 c1 n2 c2 n3 c3 : Nat) (m f fi : List O) (so : R) (hso : so.wf) (w : World) (h1 : Lst kO w B A1 n1 m) (h2 : Lst kO w B A2 n2 f) (h3 : Lst kO w B A3 n3 fi) (hB : B ≤ w.heap.size) :
    Calls Tryd.prog 77 #[.agg #[.int .i64 K, .slice A1 n1 c1, .slice A2 n2 c2, .slice A3 n3 c3], .agg #[.bool so.d, .int .i64 so.k, .int .i64 so.v, .int .i64 so.s]] w fun e w' => e = .returned (.agg #[.bool (finR (finishV K m f fi) so).d, .int .i64 (finR (finishV K m f fi) so).k, .int .i64 (finR (finishV K m f fi) so).v, .int .i64 (finR (finishV K m f fi) so).s]) ∧ Below w.heap.size w w' := by
  go_enter Tryd.func77, Tryd.ntmps77
  have hbuilt : (⟨false, so.k, finishV K m f fi so.k so.v, 0⟩ : R).wf := ⟨hso.1, Sp.finishV_wf h3.2.1 _ _ hso.1 hso.2.1, rfl⟩
  go_wp2_with (first
    | (refine wpList_box_blk (w := w) rfl 26 _ rfl #[.int .i64 K, .slice A1 n1 c1, .slice A2 n2 c2, .slice A3 n3 c3] rfl ?_; intro wpp qpp gpp zpp)
    | (refine wpList_box_blk (w := wpp) rfl 51 _ rfl #[.bool so.d, .int .i64 so.k, .int .i64 so.v, .int .i64 so.s] rfl ?_; intro wso qso gso zso)
    | (refine wpList_alloc_blk (w := wso) rfl 51 rfl _ zero_rec ?_; intro wz qz gz zz))
  have bz : Below w.heap.size w wz := (((Below.refl _ w).grown gpp (Nat.le_refl _) (by simp)).grown gso (gpp.size) (by simp)).grown gz (Nat.le_trans (gpp.size) gso.size) (by simp)
  have lpp := qpp.lt
  have lso := qso.lt
  have lz := qz.lt
  have qpp := ((qpp).grown gso (by simp)).grown gz (by simp)
  have qso := (qso).grown gz (by simp)
  have lz : wso.heap.size ≤ wz.heap.size := Nat.le_of_lt lz
  have mpp : w.heap.size < wso.heap.size := Nat.lt_of_lt_of_le lpp (gso.size)
  have mso : wpp.heap.size < wso.heap.size := lso
  have hwt : w.heap.size ≤ wso.heap.size := Nat.le_of_lt mpp
  clear gpp zpp gso zso gz zz
  have hBz := Nat.le_trans hB bz.size
  have h1 := h1.below (bz.mono hB)
  have h2 := h2.below (bz.mono hB)
  have h3 := h3.below (bz.mono hB)
  refine wp_region_held (S := fun W => Below wso.heap.size wz W) (by kernel_rfl) ?_
  change wpAnyH _ _ _ _ _ _ _ _ wz.drew
  have c0_0 := (Below.refl wz.heap.size wz).drew
  refine Held.tk (v := .agg #[.bool so.d, .int .i64 so.k, .int .i64 so.v, .int .i64 so.s]) 0 (some 5) rfl (Held.y_load_blk (n := 4) rfl rfl Tryd.underlying51 rfl (by kernel_rfl) rfl (fun W hW => qso.below hW mso)) (c0_0.mono lz) ?_
  simp only [Act.put, Z1, Z2, Z3]
  refine Held.tk (v := .pointer (some ⟨wpp.heap.size, 1, none⟩)) 2 (some 7) rfl (Held.y_field (k := 1) (s := 0) rfl rfl Tryd.underlying51 rfl (by kernel_rfl) rfl) (c0_0.mono lz) ?_
  simp only [Act.put, Z1, Z2, Z3]
  refine Held.tk (v := .int .i64 so.k) 3 (some 8) rfl (Held.y_load rfl rfl (by kernel_rfl) (fun W hW => (qso.below hW mso).cell rfl)) (c0_0.mono lz) ?_
  simp only [Act.put, Z1, Z2, Z3]
  refine Held.tk (v := .agg #[.int .i64 K, .slice A1 n1 c1, .slice A2 n2 c2, .slice A3 n3 c3]) 4 (some 9) rfl (Held.y_load_blk (n := 4) rfl rfl Tryd.underlying26 rfl (by kernel_rfl) rfl (fun W hW => qpp.below hW mpp)) (c0_0.mono lz) ?_
  simp only [Act.put, Z1, Z2, Z3]
  refine Held.tk (v := .pointer (some ⟨wpp.heap.size, 1, none⟩)) 5 (some 10) rfl (Held.y_field (k := 1) (s := 0) rfl rfl Tryd.underlying51 rfl (by kernel_rfl) rfl) (c0_0.mono lz) ?_
  simp only [Act.put, Z1, Z2, Z3]
  refine Held.tk (v := .int .i64 so.k) 6 (some 11) rfl (Held.y_load rfl rfl (by kernel_rfl) (fun W hW => (qso.below hW mso).cell rfl)) (c0_0.mono lz) ?_
  simp only [Act.put, Z1, Z2, Z3]
  refine Held.tk (v := .pointer (some ⟨wpp.heap.size, 2, none⟩)) 7 (some 12) rfl (Held.y_field (k := 2) (s := 0) rfl rfl Tryd.underlying51 rfl (by kernel_rfl) rfl) (c0_0.mono lz) ?_
  simp only [Act.put, Z1, Z2, Z3]
  refine Held.tk (v := .int .i64 so.v) 8 (some 13) rfl (Held.y_load rfl rfl (by kernel_rfl) (fun W hW => (qso.below hW mso).cell rfl)) (c0_0.mono lz) ?_
  simp only [Act.put, Z1, Z2, Z3]
  refine Held.one 1 (by kernel_rfl) ?_
  refine Held.op_call 1 (some 6) 93 #[.agg #[.bool so.d, .int .i64 so.k, .int .i64 so.v, .int .i64 so.s]] rfl rfl rfl rfl (enters_of Tryd.func93 (by kernel_rfl) rfl) (by simp [Act.eval])
    (alive_any so hso _) ?_
  rintro e w1 ⟨rfl, b1⟩
  have c0_1 := c0_0.trans (b1.mono c0_0.size)
  refine ⟨_, rfl, (c0_1.mono lz), ?_⟩
  simp only [Act.put, Z1, Z2, Z3]
  refine Held.one 9 (by kernel_rfl) ?_
  refine Held.op_call 9 (some 14) 98 #[.agg #[.int .i64 K, .slice A1 n1 c1, .slice A2 n2 c2, .slice A3 n3 c3], .int .i64 so.k, .int .i64 so.v] rfl rfl rfl rfl (enters_of Tryd.func98 (by kernel_rfl) rfl) (by simp [Act.eval])
    (finish_any B K A1 A2 A3 n1 c1 n2 c2 n3 c3 m f fi so.k so.v _ hso.1 hso.2.1 (h1.below (c0_1.mono hBz)) (h2.below (c0_1.mono hBz)) (h3.below (c0_1.mono hBz)) (Nat.le_trans hBz c0_1.size)) ?_
  rintro e w2 ⟨rfl, b2⟩
  have c0_2 := c0_1.trans (b2.mono c0_1.size)
  refine ⟨_, rfl, (c0_2.mono lz), ?_⟩
  simp only [Act.put, Z1, Z2, Z3]
  refine Held.tk (v := .agg #[.bool false, .int .i64 so.k, .int .i64 (finishV K m f fi so.k so.v), .int .i64 0]) 10 (some 15) rfl (Held.y_build rfl (by kernel_rfl)) (c0_2.mono lz) ?_
  simp only [Act.put, Z1, Z2, Z3]
  refine Held.one 11 (by kernel_rfl) ?_
  refine Held.op_call 11 (some 16) 56 #[] rfl rfl rfl rfl (enters_of Tryd.func56 (by kernel_rfl) rfl) (by simp)
    (dead_any _) ?_
  rintro e w3 ⟨rfl, b3⟩
  have c0_3 := c0_2.trans (b3.mono c0_2.size)
  refine ⟨_, rfl, (c0_3.mono lz), ?_⟩
  simp only [Act.put, Z1, Z2, Z3]
  refine Held.one 12 (by kernel_rfl) ?_
  refine Held.op_call 12 (some 17) 76 #[.int .u64 (oneI (!so.d)), .agg #[.bool false, .int .i64 so.k, .int .i64 (finishV K m f fi so.k so.v), .int .i64 0], .agg #[.bool true, .int .i64 0, .int .i64 0, .int .i64 0]] rfl rfl rfl rfl (enters_of Tryd.func76 (by kernel_rfl) rfl) (by simp [Act.eval])
    (pick_rec (!so.d) ⟨false, so.k, (finishV K m f fi so.k so.v), 0⟩ RD (finR (finishV K m f fi) so) (fin_pick (finishV K m f fi) so) hbuilt wf_dead _) ?_
  rintro e w4 ⟨rfl, b4⟩
  have c0_4 := c0_3.trans (b4.mono c0_3.size)
  refine ⟨_, rfl, (c0_4.mono lz), ?_⟩
  simp only [Act.put, Z1, Z2, Z3]
  refine Held.one 13 (by kernel_rfl) ?_
  have qz := qz.below c0_4 qz.lt
  refine Held.op_store_blk 13 none 51 wso.heap.size 4 51 _ #[.bool (finR (finishV K m f fi) so).d, .int .i64 (finR (finishV K m f fi) so).k, .int .i64 (finR (finishV K m f fi) so).v, .int .i64 (finR (finishV K m f fi) so).s] rfl rfl rfl rfl rfl rfl qz info_rec rfl rfl (by kernel_rfl) ?_
  intro w5 qz g5
  have d5 := (bz.trans (c0_4.mono bz.size)).grown g5 (Nat.le_trans bz.size c0_4.size) (fun r e => by cases e; exact hwt)
  have c5 := (c0_4.mono lz).grown g5 (Nat.le_trans lz c0_4.size) (fun r e => by cases e; exact Nat.le_refl _)
  refine ⟨c5, ?_⟩
  simp only [Act.put]
  refine wpAnyH_done (by kernel_rfl) ?_ _
  go_wp2_with fail
  skip
  exact bodyPost_ret (results_blk rfl _ _ wso.heap.size 4 _ _ rfl qz _ Tryd.underlying51 rfl info_rec rfl) rfl ⟨rfl, d5⟩
end Go.Proofs.YtlinmcgmkpkpaaaDoor.Cn
namespace Go.Proofs.YtlinmcgmkpkpaaaDoor.Cn
open Go.RowKit Go.Shelf Go.Proofs.YtlinmcgmkpkpaaaDoor Mem Held Go.Proofs.YtlinmcgmkpkpaaaDoor.Range Rc Rs Sl Vm Mg
attribute [local go_sem] Oper.semAt_some
attribute [local irreducible] wpList wpListIn Calls
def num : Nat → List R → List (Nat × R)
  | _, [] => []
  | i, r :: l => (i, r) :: num (i + 1) l
theorem num_append : ∀ (i : Nat) (l m : List R), num i (l ++ m) = num i l ++ num (i + l.length) m
  | i, [], m => rfl
  | i, r :: l, m => by
    rw [List.cons_append, num, num, num_append, List.cons_append, List.length_cons, show i + 1 + l.length = i + (l.length + 1) by omega]
theorem num_snoc {rs : List R} {i : Nat} (h : i < rs.length) : num 1 (rs.take (i + 1)) = num 1 (rs.take i) ++ [(i + 1, rs.getD i R0)] := by
  rw [List.take_add_one, List.getElem?_eq_getElem h, List.getD_eq_getElem?_getD, List.getElem?_eq_getElem h, num_append, List.length_take, Nat.min_eq_left (Nat.le_of_lt h), Nat.add_comm 1 i]
  rfl
theorem num_prefix {rs : List R} (i : Nat) : num 1 (rs.take i) <+: num 1 rs := by
  have h := num_append 1 (rs.take i) (rs.drop i)
  rw [List.take_append_drop] at h
  rw [h]
  exact List.prefix_append _ _
def EncN (x : Nat × R) (B0 : Nat) (W : World) (args : Array Value) : Prop := args = #[.int .i64 (x.1 : Int), .agg #[.bool x.2.d, .int .i64 x.2.k, .int .i64 x.2.v, .int .i64 x.2.s]]
set_option maxRecDepth 100000 in
set_option maxHeartbeats 2000000 in
theorem behind_any (co : R) (A : Option Addr) (n c : Nat) (w : World) :
    Calls Tryd.prog 73 #[.agg #[.bool co.d, .int .i64 co.k, .int .i64 co.v, .int .i64 co.s], .slice A n c] w fun e w' => ∃ bi bl : Nat, e = .returned (.func (.func 92) #[] #[.pointer (some ⟨bi, 0, none⟩), .pointer (some ⟨bl, 0, none⟩)]) ∧ Blk w' bi 51 #[.bool co.d, .int .i64 co.k, .int .i64 co.v, .int .i64 co.s] ∧ Blk w' bl 48 #[.slice A n c] ∧ w.heap.size ≤ bi ∧ w.heap.size ≤ bl ∧ Below w.heap.size w w' := by
  go_enter Tryd.func73, Tryd.ntmps73
  go_wp2_with (first
    | (refine wpList_box_blk (w := w) rfl 51 _ rfl #[.bool co.d, .int .i64 co.k, .int .i64 co.v, .int .i64 co.s] rfl ?_; intro u1 q1 g1 z1)
    | (refine Held.wpList_box_cell (w := u1) rfl 48 _ rfl (.slice A n c) rfl rfl ?_; intro u2 q2 g2 z2))
  go_ret
  exact ⟨_, _, rfl, q1.grown g2 (by simp), q2, Nat.le_refl _, g1.size, ((Below.refl _ w).grown g1 (Nat.le_refl _) (by simp)).grown g2 g1.size (by simp)⟩
set_option maxRecDepth 100000 in
set_option maxHeartbeats 8000000 in
theorem behind_give (N bi bl : Nat) (S : Nat → Prop) (B : Nat) (co : R) (A : Option Addr) (n c : Nat) (rs : List R) (w : World) (qi : Blk w bi 51 #[.bool co.d, .int .i64 co.k, .int .i64 co.v, .int .i64 co.s]) (ql : Blk w bl 48 #[.slice A n c]) (hbi : ¬ S bi) (hbl : ¬ S bl) (h : Lst kRec w B A n rs) (hBl : ∀ b, b < B → ¬ S b) (hlb : B ≤ w.heap.size) (hn : n ≤ 1048576) :
    SeqGive Fence.wide N Tryd.prog 92 #[.pointer (some ⟨bi, 0, none⟩), .pointer (some ⟨bl, 0, none⟩)] EncN (Only S) (num 0 (co :: rs)) w := by
  intro l J W hW hJ hY h0
  have qi := qi.after hW
  have ql := ql.after hW
  have h := h.below (hW.mono hlb)
  have hlb : B ≤ W.heap.size := Nat.le_trans hlb hW.size
  clear hW
  have HL := Lib.hid h.1
  have HXS := Lib.hid (show num 0 (co :: rs) = (0, co) :: num 1 rs from rfl)
  refine callsIn_of_wp Tryd.func92 rfl trivial ?_ rfl
  simp only [Tryd.ntmps92, List.size_toArray, List.length_cons, List.length_nil, Nat.reduceAdd, Nat.reduceSub, Array.replicate_succ, Array.replicate_zero, List.push_toArray, List.append_toArray, List.nil_append, List.cons_append]
  obtain ⟨fn, tmps, assign, body, hy, hR⟩ := hY [] (0, co) #[.int .i64 0, .agg #[.bool co.d, .int .i64 co.k, .int .i64 co.v, .int .i64 co.s]] W W h0 (World.grownBy.refl _ _) rfl (by rw [HXS.out]; exact ⟨num 1 rs, rfl⟩)
  gi_wp2_with (refine Held.wpListIn_one (r := none) rfl (by intro c e; cases e) ?_; refine wpList_load_blk (w := W) rfl 51 _ rfl bi 4 rfl 51 _ qi _ Tryd.underlying51 rfl info_rec rfl ?_; refine wpList_nil ⟨rfl, ?_⟩)
  refine ⟨fun h => (by cases h), ?_⟩
  refine hR.mono ?_
  rintro e W1 ⟨rfl, J1, o1⟩
  have h1 := Vm.Lst.only h o1 hBl
  have ql1 : Blk W1 bl 48 #[.slice A n c] := o1.block bl _ hbl ql rfl
  have hlb1 := Nat.le_trans hlb o1.size
  have kbl := ql1.cell (i := 0) rfl
  clear hR hy h qi ql h0 hlb o1
  gi_wp2_with fail
  clear kbl
  gi_loopw [12] (fun i wr => ∃ j : Nat, j ≤ n ∧ i = .int .i64 j ∧ J ((0, co) :: num 1 (rs.take j)) wr ∧ Only S W1 wr) (fun i _ => n - (intOf i).toNat)
  case atStart => exact ⟨0, by omega, rfl, J1, Only.refl _ _⟩
  case round =>
    obtain ⟨i, hi, rfl, Ji, ok⟩ := hrel
    by_cases hlt : i < n
    · have kp := Vm.Lst.only h1 ok hBl
      obtain ⟨b, off, rfl, hb, hx⟩ := kp.at_ hlt
      have hbw : b < wr.heap.size := Nat.lt_of_lt_of_le hb (Nat.le_trans hlb1 ok.size)
      have hx : wr.rangeAt b (off + i * 4) (rs.getD i R0).cells := hx
      have HNX := Lib.hid (show ((0, co) :: num 1 (rs.take i)) ++ [(i + 1, rs.getD i R0)] = (0, co) :: num 1 (rs.take (i + 1)) by rw [num_snoc (by rw [HL.out]; exact hlt), List.cons_append])
      have HPX := Lib.hid (show (((0, co) :: num 1 (rs.take i)) ++ [(i + 1, rs.getD i R0)]) <+: num 0 (co :: rs) by
        rw [HNX.out, HXS.out]
        exact (List.prefix_cons_inj _).2 (num_prefix _))
      generalize rs.getD i R0 = x at hx HNX HPX
      obtain ⟨xd, xk, xv, xs⟩ := x
      have hx : wr.rangeAt b (off + i * 4) [.bool xd, .int .i64 xk, .int .i64 xv, .int .i64 xs] := hx
      have hlt' : (i : Int) < (n : Int) := by omega
      have hi0 : (0 : Int) ≤ (i : Int) := by omega
      have hadd : IntKind.i64.wrap ((i : Int) + 1) = (i : Int) + 1 := by rw [IntKind.wrap_i64]; omega
      clear kp
      gi_wp2_with (first
        | (refine Held.wpListIn_one (r := none) rfl (by intro c e; cases e) ?_; refine wpList_run (w := wr) rfl (v := .pointer (some ⟨b, off + i * 4, none⟩)) (Held.y_addr (S := fun _ => True) rfl rfl rfl (run_addr_of (P := Tryd.prog) 48 51 b off n c i 4 .i64 Tryd.underlying48 info_rec hlt) _ trivial) ?_; refine wpList_nil ⟨rfl, ?_⟩)
        | (refine Held.wpListIn_one (r := none) rfl (by intro c e; cases e) ?_; refine wpList_run (w := wr) rfl (v := .agg #[.bool xd, .int .i64 xk, .int .i64 xv, .int .i64 xs]) (y_load_range (S := fun W => W = wr) (n := 4) (cs := [.bool xd, .int .i64 xk, .int .i64 xv, .int .i64 xs]) rfl rfl Tryd.underlying51 rfl info_rec rfl (fun W hW => by rw [hW]; exact hx) _ rfl) ?_; refine wpList_nil ⟨rfl, ?_⟩)
        | (refine Held.wpListIn_one (r := none) rfl (by intro c e; cases e) ?_; refine wpList_alloc_blk (w := wr) rfl 51 rfl _ zero_rec ?_; intro w2 q2 g2 z2; refine wpList_nil ⟨rfl, ?_⟩)
        | (refine Held.wpListIn_one (r := none) rfl (by intro c e; cases e) ?_; refine wpList_store_blk (w := w2) rfl 51 _ _ rfl wr.heap.size 4 rfl 51 _ #[.bool xd, .int .i64 xk, .int .i64 xv, .int .i64 xs] rfl q2 info_rec rfl rfl (by kernel_rfl) ?_; intro w3 q3 g3 z3; refine wpList_nil ⟨rfl, ?_⟩; have b3 : Below wr.heap.size wr w3 := ((Below.refl _ wr).grown g2 (Nat.le_refl _) (by simp)).grown g3 g2.size (fun r e => by cases e; exact Nat.le_refl _); clear g2 g3 z2 z3 q2)
        | (refine Held.wpListIn_one (r := none) rfl (by intro c e; cases e) ?_; refine wpList_load_blk (w := w3) rfl 51 _ rfl wr.heap.size 4 rfl 51 _ q3 _ Tryd.underlying51 rfl info_rec rfl ?_; refine wpList_nil ⟨rfl, ?_⟩; obtain ⟨fn, tmps, assign, body, hy, hR⟩ := hY _ (i + 1, ⟨xd, xk, xv, xs⟩) #[.int .i64 ((i : Int) + 1), .agg #[.bool xd, .int .i64 xk, .int .i64 xv, .int .i64 xs]] wr w3 Ji (grown_of_below b3 none) (by unfold EncN; rw [Int.natCast_add]; rfl) HPX.out))
      refine ⟨fun h => (by cases h), ?_⟩
      refine hR.mono ?_
      rintro e W4 ⟨rfl, J4, o4⟩
      rw [HNX.out] at J4
      have o5 := (ok.trans (Only.of_below b3)).trans o4
      clear hR hy o4 b3 ok Ji q3 hx HPX
      gi_wp2_with fail
      go_roundw
      case rel => exact ⟨i + 1, by omega, by go_num, J4, o5⟩
      case measure => simp [intOf]; omega
    · have hin : i = n := by omega
      subst hin
      rw [List.take_of_length_le (by rw [HL.out]; exact Nat.le_refl _)] at Ji
      gi_wp2_with fail
      go_end0
      exact ⟨⟨_, rfl⟩, by rw [HXS.out]; exact Ji⟩
end Go.Proofs.YtlinmcgmkpkpaaaDoor.Cn
namespace Go.Proofs.YtlinmcgmkpkpaaaDoor.Cn
open Go.RowKit Go.Shelf Go.Proofs.YtlinmcgmkpkpaaaDoor Mem Held Go.Proofs.YtlinmcgmkpkpaaaDoor.Range Rc Rs Sl Vm Mg
attribute [local go_sem] Oper.semAt_some
attribute [local irreducible] wpList wpListIn Calls
theorem zero_recs : (Tryd.prog.info? 48).bind (·.zero) = some (.slice none 0 0) := by kernel_rfl
def stepP (F G : Int → Int → Int) (st : R × List R) (x : Nat × R) : R × List R := if x.1 = 0 then (bareR x.2, st.2) else (nextR F st.1 x.2, st.2 ++ [outR G st.1 x.2])
def foldN (F G : Int → Int → Int) (pre : List (Nat × R)) : R × List R := pre.foldl (stepP F G) (RD, [])
section
variable {F G : Int → Int → Int}
theorem foldN_snoc (pre : List (Nat × R)) (x : Nat × R) : foldN F G (pre ++ [x]) = stepP F G (foldN F G pre) x := by rw [foldN, List.foldl_append]; rfl
theorem foldN_num : ∀ (i : Nat) (l : List R) (st : R × List R), (num (i + 1) l).foldl (stepP F G) st = (ends F st.1 l, st.2 ++ outs F G st.1 l)
  | i, [], st => by simp [num, ends, outs]
  | i, r :: l, st => by
    rw [num, List.foldl_cons, foldN_num (i + 1) l, stepP, if_neg (by simp), ends, outs, List.append_assoc]
    rfl
theorem foldN_all (co : R) (rs : List R) : foldN F G (num 0 (co :: rs)) = (ends F (bareR co) rs, outs F G (bareR co) rs) := by
  rw [foldN, num, List.foldl_cons, foldN_num 0 rs, stepP, if_pos rfl]
  rfl
theorem foldN_wf (hF : ∀ a b : Int, (Lit.int .i64 a).wf = true → (Lit.int .i64 b).wf = true → (Lit.int .i64 (F a b)).wf = true) (hG : ∀ a b : Int, (Lit.int .i64 a).wf = true → (Lit.int .i64 b).wf = true → (Lit.int .i64 (G a b)).wf = true) :
    ∀ (pre : List (Nat × R)) (st : R × List R), (∀ x ∈ pre, x.2.wf) → st.1.wf → (∀ y ∈ st.2, y.wf) → (pre.foldl (stepP F G) st).1.wf ∧ (∀ y ∈ (pre.foldl (stepP F G) st).2, y.wf) ∧ (pre.foldl (stepP F G) st).2.length ≤ st.2.length + pre.length
  | [], st, _, h1, h2 => ⟨h1, h2, Nat.le_refl _⟩
  | x :: pre, st, hx, h1, h2 => by
    have hx0 := hx x (by simp)
    have e : (stepP F G st x).1.wf ∧ (∀ y ∈ (stepP F G st x).2, y.wf) ∧ (stepP F G st x).2.length ≤ st.2.length + 1 := by
      unfold stepP
      split
      · exact ⟨bare_wf hx0, h2, Nat.le_succ _⟩
      · refine ⟨next_wf hF h1 hx0, fun y hy => ?_, by simp⟩
        rcases List.mem_append.1 hy with hy | hy
        · exact h2 y hy
        · rw [List.mem_singleton.1 hy]; exact out_wf hG h1
    obtain ⟨r1, r2, r3⟩ := foldN_wf hF hG pre (stepP F G st x) (fun y hy => hx y (by simp [hy])) e.1 e.2.1
    exact ⟨r1, r2, by rw [List.length_cons]; have := e.2.2; rw [List.foldl_cons]; omega⟩
theorem num_mem : ∀ (i : Nat) (l : List R) (x : Nat × R), x ∈ num i l → x.2 ∈ l
  | i, r :: l, x, h => by
    rcases List.mem_cons.1 h with rfl | h
    · simp
    · exact List.mem_cons_of_mem _ (num_mem (i + 1) l x h)
theorem num_length : ∀ (i : Nat) (l : List R), (num i l).length = l.length
  | _, [] => rfl
  | i, r :: l => by rw [num, List.length_cons, num_length, List.length_cons]
end
theorem results_tmp_blk {P : Program} {fn : Func} {u p : Tmp} {ty : TypeId} (h : fn.results = #[.tmp u, .cell p ty]) (tmps : Array Value) (w : World) (g n : Nat) (t : TypeId) (cs : Array Value) (x : Value) (hp : tmps.getD p undef = .pointer (some ⟨g, 0, none⟩)) (hx : tmps.getD u undef = x)
    (hr : Blk w g t cs) (d : TypeDesc) (hu : P.underlying ty = some d) (hd : (match d with | .struct _ | .array _ _ => true | _ => false) = true) (hi : (P.info? ty).map (·.size) = some n) (hn : cs.size = n) : (results fn tmps).run P w = .ok (.tuple #[x, .agg cs]) w := by
  have a1 : (asAddr (.pointer (some ⟨g, 0, none⟩))).run P w = .ok ⟨g, 0, none⟩ w := by simp [asAddr]
  have a2 := run_loadVar_row (P := P) w g t ty cs (0, 0) d hr hu hd (by rw [hi, hn])
  have hp2 : tmps[p]?.getD undef = .pointer (some ⟨g, 0, none⟩) := by simpa using hp
  have hx2 : tmps[u]?.getD undef = x := by simpa using hx
  simp only [results, h]
  simp [Sem.run_bind, Result.andThen, hp2, hx2, a1, a2]
theorem own_obj {α : Type} {k : St α} {t : TypeId} {w : World} {base : Nat} {v : Value} {xs : List α} (h : OwnL k t w base v xs) {b : Nat} (e : v.ownBlock = some b) : ∃ cs, w.heap[b]? = some (.cells cs t (0, 0)) := by
  rcases h.2 with ⟨rfl, _⟩ | ⟨g', cap, cur, rfl, _, hg, _⟩
  · cases e
  · have e : some g' = some b := e
    injection e with e
    subst e
    exact ⟨cur, hg⟩
structure NS (w : World) (lr ls lo SB : Nat) (PC : Array Value) (v : Value) (out : List R) (so : R) (W : World) : Prop where
  var : W.heap[lo]? = some (.cells #[v] 48 (0, 0))
  own : OwnL kRec 51 W SB v out
  so : Blk W ls 51 #[.bool so.d, .int .i64 so.k, .int .i64 so.v, .int .i64 so.s]
  res : Blk W lr 51 #[.bool false, .int .i64 0, .int .i64 0, .int .i64 0]
  prog : Blk W w.heap.size 26 PC
  below : Below w.heap.size w W
section
variable {w W W' : World} {lr ls lo SB : Nat} {PC : Array Value} {v : Value} {out : List R} {so : R}
theorem NS.grown (h : NS w lr ls lo SB PC v out so W) {row : Option Nat} (hg : W.grownBy W' row) (h1 : some lo ≠ row) (h2 : some ls ≠ row) (h3 : some lr ≠ row) (h4 : some w.heap.size ≠ row) (h5 : v.ownBlock = none ∨ v.ownBlock ≠ row) (h6 : ∀ r, row = some r → w.heap.size ≤ r) : NS w lr ls lo SB PC v out so W' :=
  ⟨Held.keep_cells h.var hg h1, h.own.kept hg h5, h.so.grown hg h2, h.res.grown hg h3, h.prog.grown hg h4, h.below.grown hg h.below.size h6⟩
theorem NS.after (h : NS w lr ls lo SB PC v out so W) (hb : Below W.heap.size W W') : NS w lr ls lo SB PC v out so W' :=
  h.grown (grown_of_below hb none) (by simp) (by simp) (by simp) (by simp) (by cases v.ownBlock <;> simp) (fun r e => by cases e)
theorem NS.from (h : NS w lr ls lo SB PC v out so W) {row : Option Nat} {B : Nat} (hB : w.heap.size ≤ B) (hg : W.grownBy W' row) (hr : ∀ r, row = some r → B ≤ r ∧ ∃ o : Obj, W.heap[r]? = some o ∧ o.isCells = false) : NS w lr ls lo SB PC v out so W' := by
  have hne := fun (b : Nat) (t : TypeId) (cs : Array Value) (hb : W.heap[b]? = some (.cells cs t (0, 0))) => (show some b ≠ row from fun e => by
    obtain ⟨_, o, ho, hc⟩ := hr b e.symm
    rw [hb] at ho
    cases ho
    cases hc)
  refine h.grown hg (hne _ _ _ h.var) (hne _ _ _ h.so) (hne _ _ _ h.res) (hne _ _ _ h.prog) ?_ (fun r e => Nat.le_trans hB (hr r e).1)
  cases hv : v.ownBlock with
  | none => exact .inl rfl
  | some b =>
    obtain ⟨cs, hcs⟩ := own_obj h.own hv
    exact .inr (hne _ _ _ hcs)
structure Ord (w : World) (lr ls lo SB : Nat) : Prop where
  r : w.heap.size < lr
  s : lr < ls
  b : ls < SB
  o : SB ≤ lo
theorem NS.own_ne (h : NS w lr ls lo SB PC v out so W) (ho : Ord w lr ls lo SB) : some lo ≠ v.ownBlock ∧ some ls ≠ v.ownBlock ∧ some lr ≠ v.ownBlock ∧ some w.heap.size ≠ v.ownBlock := by
  refine ⟨fun e => h.own.ne_blk (t' := 48) (cs := #[v]) h.var (by decide) e.symm, fun e => ?_, fun e => ?_, fun e => ?_⟩
  all_goals
    have := (h.own.lt _ e.symm).1
    have := ho.r
    have := ho.s
    have := ho.b
    omega
theorem NS.app (h : NS w lr ls lo SB PC v out so W) (ho : Ord w lr ls lo SB) {v' : Value} {out' : List R} (hv : OwnL kRec 51 W' SB v' out') (hg : W.grownBy W' v.ownBlock) :
    W'.heap[lo]? = some (.cells #[v] 48 (0, 0)) ∧ Blk W' ls 51 #[.bool so.d, .int .i64 so.k, .int .i64 so.v, .int .i64 so.s] ∧ Blk W' lr 51 #[.bool false, .int .i64 0, .int .i64 0, .int .i64 0] ∧ Blk W' w.heap.size 26 PC ∧ Below w.heap.size w W' := by
  obtain ⟨e1, e2, e3, e4⟩ := h.own_ne ho
  refine ⟨Held.keep_cells h.var hg e1, h.so.grown hg e2, h.res.grown hg e3, h.prog.grown hg e4, h.below.grown hg h.below.size (fun r e => ?_)⟩
  have := (h.own.lt _ e).1
  have := ho.r
  have := ho.s
  have := ho.b
  omega
theorem NS.put {W'' : World} (h : NS w lr ls lo SB PC v out so W) (ho : Ord w lr ls lo SB) {v' : Value} {out' : List R} (hv : OwnL kRec 51 W' SB v' out') (hg : W.grownBy W' v.ownBlock) (hs : W''.heap[lo]? = some (.cells #[v'] 48 (0, 0))) (hg2 : W'.grownBy W'' (some lo)) : NS w lr ls lo SB PC v' out' so W'' := by
  obtain ⟨a1, a2, a3, a4, a5⟩ := h.app ho hv hg
  have o1 := ho.r
  have o2 := ho.s
  have o3 := ho.b
  have o4 := ho.o
  refine ⟨hs, hv.kept hg2 ?_, a2.grown hg2 ?_, a3.grown hg2 ?_, a4.grown hg2 ?_, a5.grown hg2 a5.size (fun r e => by cases e; omega)⟩
  · have := hv.ne_blk (t' := 48) (cs := #[v]) a1 (by decide)
    exact .inr this
  all_goals
    intro e
    injection e with e
    omega
theorem NS.next (h : NS w lr ls lo SB PC v out so W) (ho : Ord w lr ls lo SB) {so' : R} (hs : Blk W' ls 51 #[.bool so'.d, .int .i64 so'.k, .int .i64 so'.v, .int .i64 so'.s]) (hg : W.grownBy W' (some ls)) : NS w lr ls lo SB PC v out so' W' := by
  have o1 := ho.r
  have o2 := ho.s
  have o3 := ho.b
  have o4 := ho.o
  refine ⟨Held.keep_cells h.var hg ?_, h.own.kept hg ?_, hs, h.res.grown hg ?_, h.prog.grown hg ?_, h.below.grown hg h.below.size (fun r e => by cases e; omega)⟩
  · intro e; injection e with e; omega
  · refine .inr fun e => ?_
    have := (h.own.lt _ e).1
    omega
  all_goals
    intro e
    injection e with e
    omega
theorem others_ownL {α : Type} {k : St α} {t : TypeId} {base : Nat} {xs : List α} (h : OwnL k t W base v xs) (hg : W.grownBy W' v.ownBlock) : KeepsOthers W W' := KeepsOthers.of_grownBy hg fun j o e ho => by
  obtain ⟨cs, hcs⟩ := own_obj h e
  rw [hcs] at ho
  cases ho
  rfl
end
end Go.Proofs.YtlinmcgmkpkpaaaDoor.Cn
