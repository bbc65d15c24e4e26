/-
  Package shape's size, and its iterator over the groups of tasks, by their contracts.
  Package shape's iterators over the tasks of a group, and package bitonic's one over a round's pairs where the round may be left, by their contracts.
  A region that draws its order and in the end calls a yield, within a round or an iterator: what comes ahead of that call is gone through as without a fence, loads taken first as long as it has not come up.
-/
import Derived.Test.YtipmfficjomcoaaDoorB5
import Derived.Test.YtipmfficjomcoaaDoorB7
import Derived.Test.YtipmfficjomcoaaDoorB3
import Derived.Test.YtipmfficjomcoaaDoorB4
set_option linter.unusedVariables false
namespace Go.Proofs.YtipmfficjomcoaaDoor.Sh
open Go.RowKit Go.Shelf Mem Held Go.Proofs.YtipmfficjomcoaaDoor.Range Sl
attribute [local go_sem] Oper.semAt_some
attribute [local irreducible] wpList wpListIn Calls
set_option maxRecDepth 100000 in
set_option maxHeartbeats 4000000 in
theorem size_any (K : Int) (I mp M T c : Nat) (h : JobP K I mp M T) (h1 : 1 ≤ c) (h5 : c ≤ 5) (w : World) :
    Calls Tryd.prog 56 #[.agg #[.int .i64 K, .int .i64 (I : Int), .int .i64 (M : Int)], .int .i64 (c : Int)] w fun e w' => e = .returned (.int .i64 (szK I mp M c : Int)) ∧ Below w.heap.size w w' := by
  have HS := Lib.hid (show IntKind.i64.wrap ((M : Int) - (mp : Int)) = ((M - mp : Nat) : Int) by
    have := h.le
    have := h.m32
    rw [IntKind.wrap_i64]
    omega)
  have HQ : IntKind.i64.wrap (Int.tdiv (M : Int) 2) = ((M / 2 : Nat) : Int) := by
    rw [Int.tdiv_eq_ediv_of_nonneg (by omega), IntKind.wrap_i64]
    have := h.m32
    omega
  have hq := fun W => Held.run_quo (P := Tryd.prog) 3 .i64 (a := (M : Int)) (b := 2) (r := ((M / 2 : Nat) : Int)) (by omega) HQ W
  clear HQ
  have hc : c = 1 ∨ c = 2 ∨ c = 3 ∨ c = 4 ∨ c = 5 := by omega
  rcases hc with rfl | rfl | rfl | rfl | rfl
  · rw [show szK I mp M 1 = I from rfl]
    go_enter Tryd.func56, Tryd.ntmps56
    go_wp2_with (first
      | (refine wpList_box_blk (w := w) rfl 62 _ rfl _ rfl ?_; intro u1 qu1 gu1 zu1; have bo1 : Below w.heap.size w u1 := (Below.refl _ w).grown gu1 (Nat.le_refl _) (by simp); have hc1 := qu1.cell (i := 1) rfl; have hc2 := qu1.cell (i := 2) rfl; clear gu1 zu1)
      | (refine wpList_fld0 (w := u1) rfl rfl rfl Tryd.underlying62 rfl (by kernel_rfl) ?_))
    go_ret
    exact ⟨rfl, bo1⟩
  · rw [show szK I mp M 2 = M - mp from rfl]
    go_enter Tryd.func56, Tryd.ntmps56
    go_wp2_with (first
      | (refine wpList_box_blk (w := w) rfl 62 _ rfl _ rfl ?_; intro u1 qu1 gu1 zu1; have bo1 : Below w.heap.size w u1 := (Below.refl _ w).grown gu1 (Nat.le_refl _) (by simp); have hc1 := qu1.cell (i := 1) rfl; have hc2 := qu1.cell (i := 2) rfl; clear gu1 zu1))
    refine wp_region_held (S := fun W => Below u1.heap.size u1 W) (by kernel_rfl) ?_
    change wpAnyH _ _ _ _ _ _ _ _ u1.drew
    have c0_0 := (Below.refl u1.heap.size u1).drew
    refine Held.tk (v := .pointer (some ⟨w.heap.size, 2, none⟩)) 0 (some 12) rfl (Held.y_field (k := 2) (s := 0) rfl rfl Tryd.underlying62 rfl (by kernel_rfl) rfl) c0_0 ?_
    simp only [Act.put, Z1, Z2, Z3]
    refine Held.tk (v := .int .i64 (M : Int)) 1 (some 13) rfl (Held.y_load rfl rfl (by kernel_rfl) (fun W hW => (qu1.after hW).cell rfl)) c0_0 ?_
    simp only [Act.put, Z1, Z2, Z3]
    refine Held.tk (v := .agg #[.int .i64 K, .int .i64 (I : Int), .int .i64 (M : Int)]) 2 (some 14) rfl (Held.y_load_blk (n := 3) rfl rfl Tryd.underlying62 rfl (by kernel_rfl) rfl (fun W hW => qu1.after hW)) c0_0 ?_
    simp only [Act.put, Z1, Z2, Z3]
    refine Held.one 3 (by kernel_rfl) ?_
    refine Held.op_call 3 (some 15) 66 #[.agg #[.int .i64 K, .int .i64 (I : Int), .int .i64 (M : Int)]] rfl rfl rfl rfl (enters_of Tryd.func66 (by kernel_rfl) rfl) (by simp [Act.eval])
      (mapped_any K I mp M T h _) ?_
    rintro e w1 ⟨rfl, b1⟩
    have c0_1 := c0_0.trans (b1.mono c0_0.size)
    refine ⟨_, rfl, c0_1, ?_⟩
    simp only [Act.put, Z1, Z2, Z3]
    refine Held.tk (v := .int .i64 (((M - mp : Nat) : Int))) 4 (some 16) rfl (Held.y_int rfl rfl rfl (Held.run_sub 3 .i64 (HS.out))) c0_1 ?_
    simp only [Act.put, Z1, Z2, Z3]
    refine Held.tk (v := .int .i64 (((M - mp : Nat) : Int))) 5 (some 4) rfl (Held.y_assign rfl rfl) c0_1 ?_
    simp only [Act.put, Z1, Z2, Z3]
    refine wpAnyH_done (by kernel_rfl) ?_ _
    have bz := bo1.trans (c0_1.mono bo1.size)
    go_wp2_with fail
    go_ret
    exact ⟨rfl, bz⟩
  · rw [show szK I mp M 3 = M / 2 from rfl]
    go_enter Tryd.func56, Tryd.ntmps56
    go_wp2_with (first
      | (refine wpList_box_blk (w := w) rfl 62 _ rfl _ rfl ?_; intro u1 qu1 gu1 zu1; have bo1 : Below w.heap.size w u1 := (Below.refl _ w).grown gu1 (Nat.le_refl _) (by simp); have hc1 := qu1.cell (i := 1) rfl; have hc2 := qu1.cell (i := 2) rfl; clear gu1 zu1)
      | (refine wpList_fld0 (w := u1) rfl rfl rfl Tryd.underlying62 rfl (by kernel_rfl) ?_)
      | (refine Held.wpList_run (w := u1) rfl (v := .int .i64 ((M / 2 : Nat) : Int)) (Held.y_int (S := fun _ => True) rfl rfl rfl hq _ trivial) ?_))
    go_ret
    exact ⟨rfl, bo1⟩
  · rw [show szK I mp M 4 = M from rfl]
    go_enter Tryd.func56, Tryd.ntmps56
    go_wp2_with (first
      | (refine wpList_box_blk (w := w) rfl 62 _ rfl _ rfl ?_; intro u1 qu1 gu1 zu1; have bo1 : Below w.heap.size w u1 := (Below.refl _ w).grown gu1 (Nat.le_refl _) (by simp); have hc1 := qu1.cell (i := 1) rfl; have hc2 := qu1.cell (i := 2) rfl; clear gu1 zu1)
      | (refine wpList_fld0 (w := u1) rfl rfl rfl Tryd.underlying62 rfl (by kernel_rfl) ?_))
    go_ret
    exact ⟨rfl, bo1⟩
  · rw [show szK I mp M 5 = M / 2 from rfl]
    go_enter Tryd.func56, Tryd.ntmps56
    go_wp2_with (first
      | (refine wpList_box_blk (w := w) rfl 62 _ rfl _ rfl ?_; intro u1 qu1 gu1 zu1; have bo1 : Below w.heap.size w u1 := (Below.refl _ w).grown gu1 (Nat.le_refl _) (by simp); have hc1 := qu1.cell (i := 1) rfl; have hc2 := qu1.cell (i := 2) rfl; clear gu1 zu1)
      | (refine wpList_fld0 (w := u1) rfl rfl rfl Tryd.underlying62 rfl (by kernel_rfl) ?_)
      | (refine Held.wpList_run (w := u1) rfl (v := .int .i64 ((M / 2 : Nat) : Int)) (Held.y_int (S := fun _ => True) rfl rfl rfl hq _ trivial) ?_))
    go_ret
    exact ⟨rfl, bo1⟩
set_option maxRecDepth 100000 in
set_option maxHeartbeats 4000000 in
theorem groups_any (K : Int) (I M : Nat) (w : World) :
    Calls Tryd.prog 34 #[.agg #[.int .i64 K, .int .i64 (I : Int), .int .i64 (M : Int)]] w fun e w' => ∃ bj : Nat, e = .returned (.func (.func 54) #[] #[.pointer (some ⟨bj, 0, none⟩)]) ∧ Blk w' bj 62 #[.int .i64 K, .int .i64 (I : Int), .int .i64 (M : Int)] ∧ w.heap.size ≤ bj ∧ Below w.heap.size w w' := by
  go_enter Tryd.func34, Tryd.ntmps34
  go_wp2_with (first
    | (refine wpList_box_blk (w := w) rfl 62 _ rfl _ rfl ?_; intro u1 qu1 gu1 zu1))
  go_ret
  exact ⟨_, rfl, qu1, Nat.le_refl _, (Below.refl _ w).grown gu1 (Nat.le_refl _) (by simp)⟩
theorem kp_blk {S : Nat → Prop} {W W' : World} (h : KeepsP S W W') {g : Nat} {t : TypeId} {cs : Array Value} (hb : Blk W g t cs) (hg : S g) : Blk W' g t cs := h.block g _ hg hb
theorem kp_tz {S : Nat → Prop} {W W' : World} (h : KeepsP S W W') (hT : Bi.TzT W) (hg : S 1) : Bi.TzT W' := by
  obtain ⟨t, fr, e⟩ := hT
  exact ⟨t, fr, h.block _ _ hg e⟩
theorem to_says {T c : Nat} (h1 : 1 ≤ c) (h5 : c ≤ 5) (i : Nat) : ((frK c : Int) + (i : Int) ≤ ((if c = 3 ∨ c = 5 then T else 0 : Nat) : Int)) ↔ i < nrK T c := by
  unfold frK nrK
  split <;> simp <;> omega
theorem ix_step (T : Nat) {c : Nat} (h1 : 1 ≤ c) : ixK T (c + 1) = ixK T c + nrK T c := by
  cases c with
  | zero => omega
  | succ c => rfl
theorem cn_step (I mp M T : Nat) {c : Nat} (h1 : 1 ≤ c) : cnK I mp M T (c + 1) = cnK I mp M T c + nrK T c * szK I mp M c := by
  cases c with
  | zero => omega
  | succ c => rfl
theorem cn_le {K : Int} {I mp M T : Nat} (h : JobP K I mp M T) {c : Nat} (h5 : c ≤ 6) : cnK I mp M T c ≤ 1000 := by
  have h1 := h.le
  have h2 := h.m32
  have h3 := h.i32
  have h4 := h.t15
  have hm : T * (M / 2) ≤ 15 * 16 := Nat.mul_le_mul h4 (by omega)
  have hc : c = 0 ∨ c = 1 ∨ c = 2 ∨ c = 3 ∨ c = 4 ∨ c = 5 ∨ c = 6 := by omega
  rcases hc with rfl | rfl | rfl | rfl | rfl | rfl | rfl <;> simp [cnK, nrK, szK] <;> omega
theorem fr_le (c : Nat) : frK c ≤ 1 := by unfold frK; split <;> omega
theorem sz_le {K : Int} {I mp M T : Nat} (h : JobP K I mp M T) (c : Nat) : szK I mp M c ≤ 32 := by
  have h1 := h.le
  have h2 := h.m32
  have h3 := h.i32
  unfold szK
  split
  · omega
  · split
    · omega
    · split <;> omega
theorem nr_le {K : Int} {I mp M T : Nat} (h : JobP K I mp M T) (c : Nat) : nrK T c ≤ 15 := by
  have h4 := h.t15
  unfold nrK
  split <;> omega
def grV (g : Gr) : Value := .agg #[.int .i64 g.kd, .int .i64 g.rd, .int .i64 (g.sz : Int), .int .i64 (g.fi : Int)]
set_option maxRecDepth 100000 in
set_option maxHeartbeats 8000000 in
theorem groups_p (N bj : Nat) (K : Int) (I mp M T : Nat) (h : JobP K I mp M T) (w : World) (q : Blk w bj 62 #[.int .i64 K, .int .i64 (I : Int), .int .i64 (M : Int)]) (hT : Bi.TzT w) :
    SeqP Fence.wide N Tryd.prog 54 #[.pointer (some ⟨bj, 0, none⟩)] (fun r => r = bj ∨ r = 1) (fun g => #[grV g]) (fun k => (grs I mp M T)[k]?) w := by
  intro l J Jx W hW hJ hJx hY h0
  have hTW := hT.below hW hT.lt
  have q := q.after hW
  have HTO := Lib.hid (fun (c : Nat) (h1 : 1 ≤ c) (h5 : c ≤ 5) (W : World) hT => roundsOf_any K I mp M T c h h1 h5 W hT)
  have HSZ := Lib.hid (fun (c : Nat) (h1 : 1 ≤ c) (h5 : c ≤ 5) (W : World) => size_any K I mp M T c h h1 h5 W)
  have HAT := Lib.hid (fun (c i : Nat) (h1 : 1 ≤ c) (h5 : c ≤ 5) (hi : i < nrK T c) => grs_at (I := I) (mp := mp) (M := M) h1 h5 hi)
  have HEN := Lib.hid (grs_end (I := I) (mp := mp) (M := M) (T := T))
  have HCN := Lib.hid (fun (c : Nat) (h5 : c ≤ 6) => cn_le h h5)
  have HSL := Lib.hid (fun (c : Nat) => sz_le h c)
  have HNL := Lib.hid (fun (c : Nat) => nr_le h c)
  have HY := Lib.hid (fun (pv : Nat → Prop) (c i : Nat) (W1 : World) (h1 : 1 ≤ c) (h5 : c ≤ 5) (hi : i < nrK T c) (hJk : J pv (ixK T c + i) W1) => hY pv (ixK T c + i) (grK I mp M T c i) W1 hJk (HAT.out c i h1 h5 hi))
  clear hY h hW HAT
  refine callsIn_of_wp Tryd.func54 rfl trivial ?_ rfl
  simp only [Tryd.ntmps54, List.size_toArray, List.length_cons, List.length_nil, Nat.reduceAdd, Nat.reduceSub, Array.replicate_succ, Array.replicate_zero, List.push_toArray, List.append_toArray, List.nil_append, List.cons_append]
  gi_wp2_with fail
  gi_loopw [3, 4] (fun n c wr => ∃ (k : Nat) (pv : Nat → Prop), 1 ≤ k ∧ k ≤ 6 ∧ c = .int .i64 (k : Int) ∧ n = .int .i64 (cnK I mp M T k : Int) ∧ J pv (ixK T k) wr ∧ Blk wr bj 62 #[.int .i64 K, .int .i64 (I : Int), .int .i64 (M : Int)] ∧ Bi.TzT wr) (fun _ c _ => 6 - (intOf c).toNat)
  case atStart => exact ⟨1, _, by omega, by omega, rfl, rfl, h0, q, hTW⟩
  case round =>
    clear h0 q hTW
    obtain ⟨k, pv, hk1, hk6, rfl, rfl, Jk, q, hTk⟩ := hrel
    by_cases hlt : k ≤ 5
    · have hlt' : (k : Int) ≤ 5 := by omega
      gi_wp2_with (first
        | (refine Held.wpListIn_one (r := none) rfl (by intro c e; cases e) ?_; refine wpList_load_blk (w := wr) rfl 62 _ rfl (bj) 3 rfl 62 _ q _ Tryd.underlying62 rfl (by kernel_rfl) rfl ?_; refine wpList_nil ⟨rfl, ?_⟩))
      refine ⟨trivial, fun h => (by cases h), ?_⟩
      refine (callsIn_wide.2 (HTO.out k hk1 hlt wr hTk)).mono ?_
      rintro e w2 ⟨rfl, b2⟩
      have J2 := hJ.below Jk b2
      have q2 := q.after b2
      have hT2 := hTk.below b2 hTk.lt
      have HF := Lib.hid (fun i => to_says (T := T) hk1 hlt i)
      obtain ⟨to, hto⟩ : ∃ to : Nat, (if k = 3 ∨ k = 5 then T else 0) = to := ⟨_, rfl⟩
      rw [hto] at HF ⊢
      have HFR := Lib.hid (fr_le k)
      clear hto Jk q hTk b2 hlt'
      gi_wp2_with fail
      gi_loopw [3, 7] (fun n r wi => ∃ (i c : Nat) (pv : Nat → Prop), i ≤ nrK T k ∧ Hid (cnK I mp M T k + i * szK I mp M k = c) ∧ r = .int .i64 ((frK k : Int) + (i : Int)) ∧ n = .int .i64 (c : Int) ∧ J pv (ixK T k + i) wi ∧ Blk wi bj 62 #[.int .i64 K, .int .i64 (I : Int), .int .i64 (M : Int)] ∧ Bi.TzT wi) (fun _ r _ => 100 - (intOf r).toNat)
      case atStart => exact ⟨0, _, pv, by omega, Lib.hid (by simp), by simp, rfl, J2, q2, hT2⟩
      case round =>
        clear J2 q2 hT2
        obtain ⟨i, c, pv, hi, HC, rfl, rfl, Ji, q, hTi⟩ := hrel
        have hi15 := HNL.out k
        have hfr := HFR.out
        by_cases hin : i < nrK T k
        · have hle : (frK k : Int) + (i : Int) ≤ (to : Int) := (HF.out i).2 hin
          have hadd : IntKind.i64.wrap ((frK k : Int) + (i : Int) + 1) = (frK k : Int) + (i : Int) + 1 := by rw [IntKind.wrap_i64]; omega
          gi_wp2_with (first
            | (refine Held.wpListIn_one (r := none) rfl (by intro c e; cases e) ?_; refine wpList_load_blk (w := wr) rfl 62 _ rfl (bj) 3 rfl 62 _ q _ Tryd.underlying62 rfl (by kernel_rfl) rfl ?_; refine wpList_nil ⟨rfl, ?_⟩))
          refine ⟨trivial, fun h => (by cases h), ?_⟩
          refine (callsIn_wide.2 (HSZ.out k hk1 hlt wr)).mono ?_
          rintro e w3 ⟨rfl, b3⟩
          have q3 := q.after b3
          have hT3 := hTi.below b3 hTi.lt
          obtain ⟨z, hz⟩ : ∃ z, szK I mp M k = z := ⟨_, rfl⟩
          have hc := HC.out
          have HZ := Lib.hid hz
          have hgr := Lib.hid (show grV (grK I mp M T k i) = .agg #[.int .i64 (k : Int), .int .i64 ((frK k : Int) + (i : Int)), .int .i64 (z : Int), .int .i64 (c : Int)] by
            unfold grV grK
            rw [hc, hz]
            simp)
          rw [hz] at hc ⊢
          have hzl := HSL.out k
          have hcl := HCN.out k (by omega)
          rw [hz] at hzl
          have hc3 : c ≤ 3000 := by
            rw [← hc]
            have := Nat.mul_le_mul (show i ≤ 15 by omega) hzl
            omega
          have hsum : IntKind.i64.wrap ((c : Int) + (z : Int)) = (c : Int) + (z : Int) := by rw [IntKind.wrap_i64]; omega
          clear hz hc
          gi_wp2_with (first
            | (refine Held.wpListIn_one (r := none) rfl (by intro c e; cases e) ?_; refine wpList_build_blk rfl 68 #[_, _, _, _] rfl #[.int .i64 (k : Int), .int .i64 ((frK k : Int) + (i : Int)), .int .i64 (z : Int), .int .i64 (c : Int)] (by kernel_rfl) ?_; refine wpList_nil ⟨rfl, ?_⟩)
            | (refine Held.wpListIn_one (r := none) rfl (by intro c e; cases e) ?_; refine wpList_alloc_blk (w := w3) rfl 68 rfl #[.int .i64 0, .int .i64 0, .int .i64 0, .int .i64 0] (by kernel_rfl) ?_; intro u4 qu4 gu4 zu4; have hb4 : Below w3.heap.size w3 u4 := (Below.refl _ w3).grown gu4 (Nat.le_refl _) (by simp); refine wpList_nil ⟨rfl, ?_⟩)
            | (refine Held.wpListIn_one (r := none) rfl (by intro c e; cases e) ?_; refine wpList_store_blk (w := u4) rfl 68 _ _ rfl (w3.heap.size) 4 rfl 68 _ #[.int .i64 (k : Int), .int .i64 ((frK k : Int) + (i : Int)), .int .i64 (z : Int), .int .i64 (c : Int)] rfl qu4 (by kernel_rfl) rfl rfl (by kernel_rfl) ?_; intro u5 qu5 gu5 zu5; have hb5 : Below w3.heap.size w3 u5 := hb4.grown gu5 hb4.size (fun r e => by cases e; exact Nat.le_refl _); have hb6 := b3.trans (hb5.mono b3.size); have J5 := hJ.all Ji hb6; obtain ⟨fn, tmps, assign, body, hy, hR⟩ := HY.out _ k i u5 hk1 hlt hin J5; rw [hgr.out] at hy; have hy : (Instr.yield l #[.agg #[.int .i64 (k : Int), .int .i64 ((frK k : Int) + (i : Int)), .int .i64 (z : Int), .int .i64 (c : Int)]]).run Tryd.prog u5 = .ok (.round l fn tmps assign body) u5 := hy; refine wpList_nil ⟨rfl, ?_⟩)
            | (refine Held.wpListIn_one (r := none) rfl (by intro c e; cases e) ?_; refine wpList_load_blk (w := u5) rfl 68 _ rfl (w3.heap.size) 4 rfl 68 _ qu5 _ Tryd.underlying68 rfl (by kernel_rfl) rfl ?_; refine wpList_nil ⟨rfl, ?_⟩))
          have q5 := q3.after hb5
          have hT5 := hT3.below hb5 hT3.lt
          have hg5 : (wr.heap.size ≤ w3.heap.size ∧ w3.heap.size < u5.heap.size) := ⟨b3.size, qu5.lt⟩
          obtain ⟨gg, hgg⟩ : ∃ gg, w3.heap.size = gg := ⟨_, rfl⟩
          rw [hgg] at qu5 hg5 ⊢
          clear hgg gu4 gu5 zu4 zu5 qu4 hb4 hb5 hb6 q3 hT3 b3 Ji J5
          refine ⟨fun h => (by cases h), ?_⟩
          refine hR.mono ?_
          rintro e w6 ⟨kp, (⟨rfl, J6⟩ | ⟨rfl, x6⟩)⟩
          · have q6 := kp_blk kp q5 (.inl (.inl rfl))
            have hT6 := kp_tz kp hT5 (.inl (.inr rfl))
            have qg := kp_blk kp qu5 (.inr (.inr hg5))
            have cg := qg.cell (i := 2) rfl
            clear hR hy q5 hT5 qu5 kp hg5 q hTi
            gi_wp2_with (first
              | (refine Held.wpListIn_one (r := none) rfl (by intro c e; cases e) ?_; refine wpList_fld0 (w := w6) rfl rfl rfl Tryd.underlying68 rfl (by kernel_rfl) ?_; refine wpList_nil ⟨rfl, ?_⟩))
            go_roundw
            case rel => exact ⟨i + 1, c + z, _, by omega, Lib.hid (by rw [Nat.add_mul, Nat.one_mul, ← Nat.add_assoc, HC.out, HZ.out]), by go_num, by go_num, J6, q6, hT6⟩
            case measure => simp [intOf]; omega
          · gi_wp2_with fail
            exact bodyPost_ret (results_none rfl _ _ _) rfl ⟨⟨_, rfl⟩, .inr ⟨_, _, x6⟩⟩
        · obtain rfl : i = nrK T k := by omega
          have hle : ¬ (frK k : Int) + ((nrK T k : Nat) : Int) ≤ (to : Int) := fun hx => hin ((HF.out _).1 hx)
          have hadd : IntKind.i64.wrap ((k : Int) + 1) = (k : Int) + 1 := by rw [IntKind.wrap_i64]; omega
          rw [← ix_step T hk1] at Ji
          obtain rfl : cnK I mp M T (k + 1) = c := by rw [cn_step I mp M T hk1]; exact HC.out
          gi_wp2_with fail
          go_roundw
          case rel => exact ⟨k + 1, _, by omega, by omega, by go_num, rfl, Ji, q, hTi⟩
          case measure => simp [intOf]; omega
    · obtain rfl : k = 6 := by omega
      gi_wp2_with fail
      go_end0
      exact ⟨⟨_, rfl⟩, .inl ⟨_, _, HEN.out, Jk⟩⟩
end Go.Proofs.YtipmfficjomcoaaDoor.Sh
namespace Go.Proofs.YtipmfficjomcoaaDoor.Sh
open Go.RowKit Go.Shelf Mem Held Go.Proofs.YtipmfficjomcoaaDoor.Range Sl
attribute [local go_sem] Oper.semAt_some
attribute [local irreducible] wpList wpListIn Calls
set_option maxRecDepth 100000 in
set_option maxHeartbeats 4000000 in
theorem round_p (N bn br : Nat) (n r : Int) (s t : Nat) (w : World) (h0 : -9223372036854775808 ≤ n) (h1 : n ≤ 9223372036854775807) (hT : Bi.TzT w) (hF : Bi.Found (Bi.stg n) r s t true)
    (hbn : Blk w bn 3 #[.int .i64 n]) (hbr : Blk w br 3 #[.int .i64 r]) :
    SeqP Fence.wide N Tryd.prog 75 #[.pointer (some ⟨bn, 0, none⟩), .pointer (some ⟨br, 0, none⟩)] (fun _ => False) (fun a : Nat => #[.int .i64 (a : Int), .int .i64 ((a : Int) + 2 ^ (t - 1))]) (fun k => (Net.firsts (2 ^ (t - 1)) n.toNat)[k]?) w := by
  intro l J Jx W hW hJ hJx hY h00
  have kbn := (hbn.after hW).cell (i := 0) rfl
  have kbr := (hbr.after hW).cell (i := 0) rfl
  have H := Bi.find_any n r (Bi.stg n) s t true W h0 h1 (hT.below hW hT.lt) rfl hF
  obtain ⟨hn, t1, t2, t3, t4⟩ := hF.is rfl
  clear hbn hbr hT hF hW h0 h1
  refine callsIn_of_wp Tryd.func75 rfl trivial ?_ rfl
  simp only [Tryd.ntmps75, List.size_toArray, List.length_cons, List.length_nil, Nat.reduceAdd, Nat.reduceSub, Array.replicate_succ, Array.replicate_zero, List.push_toArray, List.append_toArray, List.nil_append, List.cons_append]
  have hd := Bi.two_nat (t - 1)
  have hd1 := Bi.two_pos (t - 1)
  have hd2 := Bi.two_16 (show t - 1 ≤ 16 by omega)
  obtain ⟨M, hM⟩ : ∃ M : Nat, 2 ^ Bi.stg n = M := ⟨_, rfl⟩
  have hM16 : M ≤ 65536 := by rw [← hM]; exact Nat.pow_le_pow_right (by omega) t4
  have hM1 : 1 ≤ M := by rw [← hM]; exact Nat.two_pow_pos _
  rw [hM] at hn
  obtain ⟨dN, hdN⟩ : ∃ dN : Nat, 2 ^ (t - 1) = dN := ⟨_, rfl⟩
  have HAP := Lib.hid (fun W => Bi.apart_any t W t1 (show t ≤ 16 by omega))
  have HLO := Lib.hid (fun (W : World) (k : Nat) (hk : k ≤ 65536) => Bi.lower_any (k : Int) t W (by omega) (by omega) t1 (show t ≤ 16 by omega))
  rw [hdN] at hd
  rw [show n.toNat = M by omega, hdN] at hY ⊢
  have HY := Lib.hid (fun (pv : Nat → Prop) (k : Nat) (wr : World) (hk : k < M) (hb : k / dN % 2 = 0) (hJk : J pv (Net.firsts dN k).length wr) => hY pv (Net.firsts dN k).length k wr hJk (by
    have := Bi.firsts_prefix dN (show k + 1 ≤ M by omega)
    rw [Net.firsts_succ, if_pos hb] at this
    obtain ⟨rest, hr⟩ := this
    show (Net.firsts dN M)[(Net.firsts dN k).length]? = some k
    rw [← hr, List.append_assoc, List.getElem?_append_right (Nat.le_refl _), Nat.sub_self]
    rfl))
  rw [hd] at hd1 hd2 HAP HLO HY
  have HFS := Lib.hid (fun k => show (Net.firsts dN (k + 1)).length = (Net.firsts dN k).length + (if k / dN % 2 = 0 then 1 else 0) by rw [Net.firsts_succ, List.length_append]; split <;> simp)
  have HEN := Lib.hid (show (Net.firsts dN M)[(Net.firsts dN M).length]? = none by simp)
  subst hn
  clear hY hd hdN hM t3 t4 t2 t1
  gi_wp2_with fail
  refine ⟨trivial, fun h => (by cases h), ?_⟩
  refine (callsIn_wide.2 H).mono ?_
  rintro e w3 ⟨rfl, rfl⟩
  clear H
  gi_wp2_with fail
  gi_loopw [18] (fun i wr => ∃ (k : Nat) (pv : Nat → Prop), k ≤ M ∧ i = .int .i64 k ∧ J pv (Net.firsts dN k).length wr) (fun i _ => M - (intOf i).toNat)
  case atStart => exact ⟨0, _, by omega, rfl, h00⟩
  case round =>
    clear h00 kbn kbr
    obtain ⟨k, pv, hk, rfl, Jk⟩ := hrel
    by_cases hlt : k < M
    · have hlt' : (k : Int) < (M : Int) := by omega
      have hL := HLO.out wr k (by omega)
      by_cases hb : k / dN % 2 = 0
      · have hdec : decide ((k : Int) / (dN : Int) % 2 = 0) = true := by
          rw [← Int.natCast_ediv]; simp; omega
        rw [hdec] at hL
        obtain ⟨fn, tmps, assign, body, hy, hR⟩ := HY.out pv k wr hlt hb Jk
        have hfs : (Net.firsts dN (k + 1)).length = (Net.firsts dN k).length + 1 := by rw [HFS.out, if_pos hb]
        rw [← hfs] at hR
        have hadd : IntKind.i64.wrap ((k : Int) + (dN : Int)) = (k : Int) + dN := by rw [IntKind.wrap_i64]; omega
        clear hfs hb hdec
        gi_wp2_with fail
        refine ⟨trivial, fun h => (by cases h), ?_⟩
        refine (callsIn_wide.2 hL).mono ?_
        rintro e w4 ⟨rfl, rfl⟩
        gi_wp2_with fail
        refine ⟨trivial, fun h => (by cases h), ?_⟩
        refine (callsIn_wide.2 (HAP.out wr)).mono ?_
        rintro e w5 ⟨rfl, rfl⟩
        gi_wp2_with fail
        refine ⟨fun h => (by cases h), ?_⟩
        refine hR.mono ?_
        rintro e W4 ⟨-, (⟨rfl, J4⟩ | ⟨rfl, x4⟩)⟩
        · gi_wp2_with fail
          go_roundw
          case rel => exact ⟨k + 1, _, by omega, by go_num, J4⟩
          case measure => simp [intOf]; omega
        · gi_wp2_with fail
          exact bodyPost_ret (results_none rfl _ _ _) rfl ⟨⟨_, rfl⟩, .inr ⟨_, _, x4⟩⟩
      · have hdec : decide ((k : Int) / (dN : Int) % 2 = 0) = false := by
          rw [← Int.natCast_ediv]; simp; omega
        rw [hdec] at hL
        have hfs : (Net.firsts dN (k + 1)).length = (Net.firsts dN k).length := by rw [HFS.out, if_neg hb]; rfl
        rw [← hfs] at Jk
        clear hfs hb hdec
        gi_wp2_with fail
        refine ⟨trivial, fun h => (by cases h), ?_⟩
        refine (callsIn_wide.2 hL).mono ?_
        rintro e w4 ⟨rfl, rfl⟩
        gi_wp2_with fail
        refine ⟨trivial, ?_⟩
        gi_wp2_with fail
        try refine ⟨fun _ h => (by cases h), ?_⟩
        gi_wp2_with fail
        go_roundw
        case rel => exact ⟨k + 1, _, by omega, by go_num, Jk⟩
        case measure => simp [intOf]; omega
    · have hkM : k = M := by omega
      subst hkM
      gi_wp2_with fail
      go_end0
      exact ⟨⟨_, rfl⟩, .inl ⟨_, _, HEN.out, Jk⟩⟩
def tkV (t : Tk) : Value := .agg #[.int .i64 t.kd, .int .i64 t.rd, .int .i64 t.a, .int .i64 t.b, .bool t.up]
def encT (x : Nat × Tk) : Array Value := #[.int .i64 (x.1 : Int), tkV x.2]
def atG (mp M : Nat) (g : Gr) (k : Nat) : Option (Nat × Tk) := ((tkOf mp M g)[k]?).map (fun t => (g.fi + k, t))
set_option maxRecDepth 100000 in
set_option maxHeartbeats 4000000 in
theorem singles_p (N bg bj : Nat) (K : Int) (I mp M T : Nat) (g : Gr) (h : JobP K I mp M T) (w : World) (q : Blk w bj 62 #[.int .i64 K, .int .i64 (I : Int), .int .i64 (M : Int)]) (qg : Blk w bg 68 #[.int .i64 g.kd, .int .i64 g.rd, .int .i64 (g.sz : Int), .int .i64 (g.fi : Int)]) (h0 : g.rd = 0) (hz : g.sz ≤ 100) (hf : g.fi ≤ 2000) :
    SeqP Fence.wide N Tryd.prog 67 #[.pointer (some ⟨bg, 0, none⟩), .pointer (some ⟨bj, 0, none⟩)] (fun r => r = bg ∨ r = bj) encT (atG mp M g) w := by
  intro l J Jx W hW hJ hJx hY h00
  have q := q.after hW
  have qg := qg.after hW
  have hmp : mp ≤ 32 := Nat.le_trans h.le h.m32
  have HM := Lib.hid (fun (W : World) => mapped_any K I mp M T h W)
  have HAT := Lib.hid (fun (k : Nat) (hk : k < g.sz) => show atG mp M g k = some (g.fi + k, oneT g.kd ((if g.kd = 2 then mp else 0) + k)) by
    unfold atG tkOf
    rw [if_pos h0]
    simp [hk])
  have HEN := Lib.hid (show atG mp M g g.sz = none by
    unfold atG tkOf
    rw [if_pos h0]
    simp)
  have HY := Lib.hid (fun (pv : Nat → Prop) (k : Nat) (W1 : World) (hk : k < g.sz) (hJk : J pv k W1) => hY pv k (g.fi + k, oneT g.kd ((if g.kd = 2 then mp else 0) + k)) W1 hJk (HAT.out k hk))
  have HE := Lib.hid (fun (k b : Nat) (hb : (if g.kd = 2 then mp else 0) = b) => show encT (g.fi + k, oneT g.kd ((if g.kd = 2 then mp else 0) + k)) = #[.int .i64 ((g.fi : Int) + (k : Int)), .agg #[.int .i64 g.kd, .int .i64 0, .int .i64 ((b : Int) + (k : Int)), .int .i64 0, .bool false]] by
    rw [hb]
    simp [encT, tkV, oneT])
  clear hY h hW HAT
  have hc0 := qg.cell (i := 0) rfl
  have hc2 := qg.cell (i := 2) rfl
  refine callsIn_of_wp Tryd.func67 rfl trivial ?_ rfl
  simp only [Tryd.ntmps67, List.size_toArray, List.length_cons, List.length_nil, Nat.reduceAdd, Nat.reduceSub, Array.replicate_succ, Array.replicate_zero, List.push_toArray, List.append_toArray, List.nil_append, List.cons_append]
  by_cases hk2 : g.kd = 2
  all_goals
    first
      | (have hb : (if g.kd = 2 then mp else 0) = mp := if_pos hk2)
      | (have hb : (if g.kd = 2 then mp else 0) = 0 := if_neg hk2)
  · have HB := Lib.hid hb
    have HK2 := Lib.hid hk2
    have hdec : decide (g.kd = 2) = true := decide_eq_true hk2
    clear hb hk2
    gi_wp2_with (first
      | (refine Held.wpListIn_one (r := none) rfl (by intro c e; cases e) ?_; refine wpList_fld0 (w := W) rfl rfl rfl Tryd.underlying68 rfl (by kernel_rfl) ?_; refine wpList_nil ⟨rfl, ?_⟩)
      | (refine Held.wpListIn_one (r := none) rfl (by intro c e; cases e) ?_; refine Held.wpList_run (w := W) rfl (v := .bool true) (Held.y_eqI (S := fun _ => True) rfl rfl rfl hdec _ trivial) ?_; refine wpList_nil ⟨rfl, ?_⟩)
      | (refine Held.wpListIn_one (r := none) rfl (by intro c e; cases e) ?_; refine wpList_load_blk (w := W) rfl 62 _ rfl (bj) 3 rfl 62 _ q _ Tryd.underlying62 rfl (by kernel_rfl) rfl ?_; refine wpList_nil ⟨rfl, ?_⟩))
    refine ⟨trivial, fun h => (by cases h), ?_⟩
    refine (callsIn_wide.2 (HM.out W)).mono ?_
    rintro e w2 ⟨rfl, b2⟩
    have J2 := hJ.below h00 b2
    have q2 := qg.after b2
    have q2j := q.after b2
    have hc2 := q2.cell (i := 2) rfl
    clear hc0 b2 h00 q qg hdec
    gi_wp2_with fail
    gi_loopw [13] (fun i wr => ∃ (k : Nat) (pv : Nat → Prop), k ≤ g.sz ∧ i = .int .i64 (k : Int) ∧ J pv k wr ∧ Blk wr bg 68 #[.int .i64 g.kd, .int .i64 g.rd, .int .i64 (g.sz : Int), .int .i64 (g.fi : Int)] ∧ Blk wr bj 62 #[.int .i64 K, .int .i64 (I : Int), .int .i64 (M : Int)]) (fun i _ => g.sz - (intOf i).toNat)
    case atStart => exact ⟨0, _, by omega, rfl, J2, q2, q2j⟩
    case round =>
      clear J2 q2 q2j hc2
      obtain ⟨k, pv, hk, rfl, Jk, q, qj⟩ := hrel
      by_cases hlt : k < g.sz
      · have hlt' : (k : Int) < (g.sz : Int) := by omega
        have hc0 := q.cell (i := 0) rfl
        have hc3 := q.cell (i := 3) rfl
        have hadd : IntKind.i64.wrap ((g.fi : Int) + (k : Int)) = (g.fi : Int) + (k : Int) := by rw [IntKind.wrap_i64]; omega
        have hadd2 : IntKind.i64.wrap (((mp : Int) + (k : Int))) = ((mp : Int) + (k : Int)) := by rw [IntKind.wrap_i64]; omega
        have hadd3 : IntKind.i64.wrap ((k : Int) + 1) = (k : Int) + 1 := by rw [IntKind.wrap_i64]; omega
        obtain ⟨fn, tmps, assign, body, hy, hR⟩ := HY.out pv k wr hlt Jk
        rw [HE.out k mp HB.out] at hy
        have hy : (Instr.yield l #[.int .i64 ((g.fi : Int) + (k : Int)), .agg #[.int .i64 g.kd, .int .i64 0, .int .i64 ((mp : Int) + (k : Int)), .int .i64 0, .bool false]]).run Tryd.prog wr = .ok (.round l fn tmps assign body) wr := hy
        have HAD := Lib.hid hadd2
        clear hadd2
        gi_wp2_with (first
          | (refine Held.wpListIn_one (r := none) rfl (by intro c e; cases e) ?_; refine wpList_fld0 (w := wr) rfl rfl rfl Tryd.underlying68 rfl (by kernel_rfl) ?_; refine wpList_nil ⟨rfl, ?_⟩)
          | (refine Held.wpListIn_one (r := none) rfl (by intro c e; cases e) ?_; refine Held.wpList_run (w := wr) rfl (v := .int .i64 ((mp : Int) + (k : Int))) (Held.y_int (S := fun _ => True) (a := (mp : Int)) (b := (k : Int)) rfl rfl rfl (Held.run_add 3 .i64 HAD.out) _ trivial) ?_; refine wpList_nil ⟨rfl, ?_⟩)
          | (refine Held.wpListIn_one (r := none) rfl (by intro c e; cases e) ?_; refine wpList_build_blk rfl 34 #[_, _] rfl #[.int .i64 g.kd, .int .i64 0, .int .i64 ((mp : Int) + (k : Int)), .int .i64 0, .bool false] (by kernel_rfl) ?_; refine wpList_nil ⟨rfl, ?_⟩))
        refine ⟨fun h => (by cases h), ?_⟩
        refine hR.mono ?_
        rintro e w6 ⟨kp, (⟨rfl, J6⟩ | ⟨rfl, x6⟩)⟩
        · have q6 := kp_blk kp q (.inl (.inl rfl))
          have qj6 := kp_blk kp qj (.inl (.inr rfl))
          clear hR hy kp q qj
          gi_wp2_with fail
          go_roundw
          case rel => exact ⟨k + 1, _, by omega, by go_num, J6, q6, qj6⟩
          case measure => simp [intOf]; omega
        · gi_wp2_with fail
          exact bodyPost_ret (results_none rfl _ _ _) rfl ⟨⟨_, rfl⟩, .inr ⟨_, _, x6⟩⟩
      · obtain rfl : k = g.sz := by omega
        gi_wp2_with fail
        go_end0
        exact ⟨⟨_, rfl⟩, .inl ⟨_, _, HEN.out, Jk⟩⟩
  · have HB := Lib.hid hb
    have HK2 := Lib.hid hk2
    have hdec : decide (g.kd = 2) = false := decide_eq_false hk2
    have J2 := h00
    have q2 := qg
    have q2j := q
    clear hb hk2 h00 q qg
    gi_wp2_with (first
      | (refine Held.wpListIn_one (r := none) rfl (by intro c e; cases e) ?_; refine wpList_fld0 (w := W) rfl rfl rfl Tryd.underlying68 rfl (by kernel_rfl) ?_; refine wpList_nil ⟨rfl, ?_⟩)
      | (refine Held.wpListIn_one (r := none) rfl (by intro c e; cases e) ?_; refine Held.wpList_run (w := W) rfl (v := .bool false) (Held.y_eqI (S := fun _ => True) rfl rfl rfl hdec _ trivial) ?_; refine wpList_nil ⟨rfl, ?_⟩))
    clear hc0 hdec
    gi_loopw [13] (fun i wr => ∃ (k : Nat) (pv : Nat → Prop), k ≤ g.sz ∧ i = .int .i64 (k : Int) ∧ J pv k wr ∧ Blk wr bg 68 #[.int .i64 g.kd, .int .i64 g.rd, .int .i64 (g.sz : Int), .int .i64 (g.fi : Int)] ∧ Blk wr bj 62 #[.int .i64 K, .int .i64 (I : Int), .int .i64 (M : Int)]) (fun i _ => g.sz - (intOf i).toNat)
    case atStart => exact ⟨0, _, by omega, rfl, J2, q2, q2j⟩
    case round =>
      clear J2 q2 q2j hc2
      obtain ⟨k, pv, hk, rfl, Jk, q, qj⟩ := hrel
      by_cases hlt : k < g.sz
      · have hlt' : (k : Int) < (g.sz : Int) := by omega
        have hc0 := q.cell (i := 0) rfl
        have hc3 := q.cell (i := 3) rfl
        have hadd : IntKind.i64.wrap ((g.fi : Int) + (k : Int)) = (g.fi : Int) + (k : Int) := by rw [IntKind.wrap_i64]; omega
        have hadd2 : IntKind.i64.wrap ((k : Int)) = (k : Int) := by rw [IntKind.wrap_i64]; omega
        have hadd3 : IntKind.i64.wrap ((k : Int) + 1) = (k : Int) + 1 := by rw [IntKind.wrap_i64]; omega
        obtain ⟨fn, tmps, assign, body, hy, hR⟩ := HY.out pv k wr hlt Jk
        rw [HE.out k 0 HB.out] at hy
        rw [show ((0 : Nat) : Int) + (k : Int) = (k : Int) by omega] at hy
        have hy : (Instr.yield l #[.int .i64 ((g.fi : Int) + (k : Int)), .agg #[.int .i64 g.kd, .int .i64 0, .int .i64 (k : Int), .int .i64 0, .bool false]]).run Tryd.prog wr = .ok (.round l fn tmps assign body) wr := hy
        gi_wp2_with (first
          | (refine Held.wpListIn_one (r := none) rfl (by intro c e; cases e) ?_; refine wpList_fld0 (w := wr) rfl rfl rfl Tryd.underlying68 rfl (by kernel_rfl) ?_; refine wpList_nil ⟨rfl, ?_⟩)
          | (refine Held.wpListIn_one (r := none) rfl (by intro c e; cases e) ?_; refine wpList_build_blk rfl 34 #[_, _] rfl #[.int .i64 g.kd, .int .i64 0, .int .i64 (k : Int), .int .i64 0, .bool false] (by kernel_rfl) ?_; refine wpList_nil ⟨rfl, ?_⟩))
        refine ⟨fun h => (by cases h), ?_⟩
        refine hR.mono ?_
        rintro e w6 ⟨kp, (⟨rfl, J6⟩ | ⟨rfl, x6⟩)⟩
        · have q6 := kp_blk kp q (.inl (.inl rfl))
          have qj6 := kp_blk kp qj (.inl (.inr rfl))
          clear hR hy kp q qj
          gi_wp2_with fail
          go_roundw
          case rel => exact ⟨k + 1, _, by omega, by go_num, J6, q6, qj6⟩
          case measure => simp [intOf]; omega
        · gi_wp2_with fail
          exact bodyPost_ret (results_none rfl _ _ _) rfl ⟨⟨_, rfl⟩, .inr ⟨_, _, x6⟩⟩
      · obtain rfl : k = g.sz := by omega
        gi_wp2_with fail
        go_end0
        exact ⟨⟨_, rfl⟩, .inl ⟨_, _, HEN.out, Jk⟩⟩
end Go.Proofs.YtipmfficjomcoaaDoor.Sh
namespace Go.Proofs.YtipmfficjomcoaaDoor.Held
open Go.RowKit Go.Proofs.YtipmfficjomcoaaDoor.Range
def wpAnyG (F : Fence) (n : Nat) (P : Program) (md : Region.Mode) (ops : Array Oper) (Q : Exit → Act → World → Prop) (T : World → Prop) (s : Nat) : Nat → Array Bool → Act → World → Prop
  | 0, _, _, _ => False
  | fuel + 1, listed, a, w =>
    (Region.ready md ops listed = [s] ∧ wpAnyIn F n P md ops Q (fuel + 1) listed a w) ∨
    ((Region.ready md ops listed ≠ [] ∧ s ∉ Region.ready md ops listed) ∧ ∀ i ∈ Region.ready md ops listed, wpOp P ops Q i (fun a' w' => T w' ∧ wpAnyG F n P md ops Q T s fuel (listed.setIfInBounds i true) a' w') a w)
section
variable {F : Fence} {n : Nat} {P : Program} {ops : Array Oper} {Q : Exit → Act → World → Prop} {md : Region.Mode} {T : World → Prop} {s : Nat}
theorem anyIn_of_g {r : Option Nat} (hd : noDefer ops = true) (hq : ∀ a w, ¬ Q .outgrown a w) : ∀ (fuel : Nat) (listed : Array Bool) (a : Act) (w : World), wpAnyG (wideR r) n P md ops Q T s fuel listed a w → wpAnyIn (wideR r) n P md ops Q fuel listed a w
  | 0, _, _, _, h => h.elim
  | fuel + 1, _, _, _, h => by
    rcases h with h | ⟨⟨h0, _⟩, h⟩
    · exact h.2
    · exact ⟨fun e => absurd e h0, fun i hi => wpOpIn_mono (fun a' w' h' => anyIn_of_g hd hq fuel _ a' w' h'.2) (opsIn_of_op hd hq (h i hi))⟩
theorem wpAnyG_early {i : Nat} {oi : Oper} {v : Value} (hi : ops[i]? = some oi) (hsel : ∀ (j : Nat) (o : Oper) cs b, ops[j]? = some o → o.op ≠ .select cs b)
    (hQ : ∀ c a w, Q (.panic c) (a.put oi.dst v) w → Q (.panic c) a w) {B : List Nat} (hs : s ∈ B) (hw : Waits md ops B i) :
    ∀ (fuel : Nat) {listed : Array Bool} {a : Act} {w : World}, Early md ops B i oi listed → YieldsIf P ops T oi v a → T w →
      wpAnyG F n P md ops Q T s fuel (listed.setIfInBounds i true) (a.put oi.dst v) w → wpAnyG F n P md ops Q T s (fuel + 1) listed a w
  | fuel, listed, a, w, h, hy, hT, H => by
    refine .inr ⟨⟨fun h0 => absurd (h0 ▸ h.ready) (by simp), fun hs' => h.out hw hs' hs⟩, fun j hj => ?_⟩
    by_cases hji : j = i
    · exact hji ▸ hy.wpOp hi hT ⟨hT, H⟩
    · match fuel, H with
      | 0, H => exact H.elim
      | fuel + 1, H =>
        have hm := ready_mono hj hji
        rcases H with ⟨H, _⟩ | ⟨_, H⟩
        · rw [H] at hm
          exact absurd (List.mem_singleton.1 hm ▸ hs) (h.out hw hj)
        · obtain ⟨hun, oj, ho, _⟩ := mem_ready.1 hj
          have step := wpOp_putIf ho (h.free j oj ho hji hun (h.waits hj ho)) (fun cs b => hsel i oi cs b hi) (fun cs b => hsel j oj cs b ho) hQ hy (H j hm)
          have nx := h.next hw hj hji
          refine wpOp_mono (fun a' w' k => ?_) step
          obtain ⟨k1, k2, k3⟩ := k
          rw [Array.setIfInBounds_comm _ _ (Ne.symm hji)] at k3
          exact ⟨k2, wpAnyG_early hi hsel hQ hs hw fuel nx k1 k2 k3⟩
theorem takeG (i : Nat) (d : Option Tmp) (B : List Nat) {oi : Oper} {v : Value} {fuel : Nat} {listed : Array Bool} {a : Act} {w : World} (hi : ops[i]? = some oi) (hd : oi.dst = d)
    (hs : Region.noSelect ops = true) (hf : Region.free md ops listed i = true) (hr : (Region.ready md ops listed).contains i = true) (hB : waitsB md ops listed B s i = true)
    (hQ : ∀ c a w, Q (.panic c) (a.put d v) w → Q (.panic c) a w) (hw : Region.wanted oi (yielded ops a.tmps) = true) (hy : ∀ w, T w → (execOp a.eval oi).run P w = .ok (.value v) w) (hT : T w)
    (h : wpAnyG F n P md ops Q T s fuel (listed.setIfInBounds i true) (a.put d v) w) : wpAnyG F n P md ops Q T s (fuel + 1) listed a w := by
  subst hd
  unfold waitsB at hB
  simp only [Bool.and_eq_true, List.contains_iff_mem, Bool.not_eq_true', List.all_eq_true] at hB
  obtain ⟨⟨h1, h2⟩, h3⟩ := hB
  have h2' : i ∉ B := fun hm => by rw [List.contains_iff_mem.2 hm] at h2; cases h2
  refine wpAnyG_early hi (Region.noSelect_spec hs) hQ h1 ⟨h2', fun b hb o ho => ?_⟩ fuel ⟨by simpa using hr, Region.free_spec hi hf, fun b hb => (h3 b hb).1⟩ (.inl ⟨hw, hy⟩) hT h
  have := (h3 b hb).2
  rw [ho] at this
  obtain ⟨k, hk, he⟩ := Array.any_eq_true.1 this
  simp only [Bool.and_eq_true, Bool.or_eq_true, beq_iff_eq, List.contains_iff_mem] at he
  exact ⟨o.after[k], Array.getElem_mem hk, he.1, he.2⟩
theorem oneG (i : Nat) {fuel : Nat} {listed : Array Bool} {a : Act} {w : World} (hr : Region.ready md ops listed = [i]) (hs : (s == i) = false)
    (h : wpOp P ops Q i (fun a' w' => T w' ∧ wpAnyG F n P md ops Q T s fuel (listed.setIfInBounds i true) a' w') a w) : wpAnyG F n P md ops Q T s (fuel + 1) listed a w :=
  .inr ⟨⟨by rw [hr]; simp, by rw [hr]; simpa using hs⟩, fun j hj => by rw [hr] at hj; obtain rfl := List.mem_singleton.1 hj; exact h⟩
theorem endG {fuel : Nat} {listed : Array Bool} {a : Act} {w : World} (hr : Region.ready md ops listed = [s])
    (h : wpOpIn F n P ops Q s (wpAnyIn F n P md ops Q fuel (listed.setIfInBounds s true)) a w) : wpAnyG F n P md ops Q T s (fuel + 1) listed a w :=
  .inl ⟨hr, fun h0 => absurd (hr ▸ h0) (by simp), fun j hj => by rw [hr] at hj; obtain rfl := List.mem_singleton.1 hj; exact h⟩
theorem wpIn_region_g {r : Option Nat} (hF : F = wideR r) {id : Nat} {a : Act} {w : World} (hm : P.follows .mixedOrders = true) (hd : noDefer ops = true) (hq : ∀ a w, ¬ Q .outgrown a w)
    (h : wpAnyG F n P .any ops Q T s ops.size (Array.replicate ops.size false) a { w with drawn := w.drawn + 1 }) : (Code.region id ops true).wpIn F n P Q a w := by
  subst hF
  exact wpIn_region_any hm (anyIn_of_g hd hq _ _ _ _ h)
theorem opIn_yield (i : Nat) (d : Option Tmp) {r : Option Nat} (hF : F = wideR r) {o : Oper} {a : Act} {w : World} {K : Act → World → Prop} {x : Operand} {xs : Array Operand} {ts : Array TypeId} {l m : Nat} (vals : Array Value) {R : Ending → World → Prop} (hi : ops[i]? = some o) (hd : o.dst = d) (hw : Region.wanted o (yielded ops a.tmps) = true)
    (ho : o.op = .call { callee := .value x, args := xs, argTypes := ts }) (hx : a.eval x = .func (.yield l) #[] #[]) (hv : xs.map a.eval = vals)
    (hY : YieldAt Fence.wide m P l vals w R) (h : ∀ e w', R e w' → ∃ v, e = .returned v ∧ K (a.put d v) w') : wpOpIn F n P ops Q i K a w := by
  subst hd
  subst hF
  unfold wpOpIn
  simp only [hi, hw, if_true]
  obtain ⟨fn, tmps, assign, body, hy, hR⟩ := hY
  refine ⟨fun _ _ => trivial, ?_⟩
  rw [Oper.semAt_plain (wideR r) _ _ (fun c e => by rw [ho] at e; cases e)]
  have hrun : (execOp a.eval o).run P w = .ok (.round l fn tmps assign body) w := by
    unfold execOp
    simp only [ho, resolve, hx, Sem.run_bind, Deferred.ofValue, Sem.run_pure, Result.andThen_ok, invoke, Array.empty_append, hv]
    exact hy
  rw [hrun]
  refine ⟨fun h => (by cases h), RoundIn.mono (R := R) ⟨trivial, fun c cs _ => hR.2 c cs (by simp [Fence.room, Fence.wide])⟩ fun e w' he => ?_⟩
  obtain ⟨v, rfl, hK⟩ := h e w' he
  exact hK
theorem oneIn (i : Nat) (d : Option Tmp) {r : Option Nat} (hF : F = wideR r) {o : Oper} {v : Value} {fuel : Nat} {listed : Array Bool} {a : Act} {w : World} (hr : Region.ready md ops listed = [i]) (hd : noDefer ops = true) (hq : ∀ a w, ¬ Q .outgrown a w) (hi : ops[i]? = some o) (hdst : o.dst = d) (hw : Region.wanted o (yielded ops a.tmps) = true) (hy : ∀ w, True → (execOp a.eval o).run P w = .ok (.value v) w)
    (h : wpAnyIn F n P md ops Q fuel (listed.setIfInBounds i true) (a.put d v) w) : wpAnyIn F n P md ops Q (fuel + 1) listed a w := by
  subst hF
  subst hdst
  refine ⟨fun h0 => absurd (hr ▸ h0) (by simp), fun j hj => ?_⟩
  rw [hr] at hj
  obtain rfl := List.mem_singleton.1 hj
  exact opsIn_of_op hd hq (YieldsIf.wpOp (S := fun _ => True) hi (.inl ⟨hw, hy⟩) trivial h)
end
end Go.Proofs.YtipmfficjomcoaaDoor.Held
