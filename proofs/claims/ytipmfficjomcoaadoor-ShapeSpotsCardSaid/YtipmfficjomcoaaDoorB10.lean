/-
  Package shape's Reads, Writes and Last, by their contracts.
-/
import Derived.Test.YtipmfficjomcoaaDoorB6
import Derived.Test.YtipmfficjomcoaaDoorB9
set_option linter.unusedVariables false
namespace Go.Proofs.YtipmfficjomcoaaDoor.Sh
open Go.RowKit Go.Shelf Mem Held Go.Proofs.YtipmfficjomcoaaDoor.Range Sl
attribute [local go_sem] Oper.semAt_some
attribute [local irreducible] wpList wpListIn Calls
theorem task_right {r k b wk : Int} {i : Nat} {t : Tk} (h : (tasksT (inN r k b wk) (mpN r k b wk) (mN r k b wk) (tN r k b wk))[i]? = some t) : 1 ≤ k ∧ k ≤ 4 := by
  by_cases hR : Sp.rightB r k b wk = true
  · exact (right_says hR).2.1
  · have e1 : inN r k b wk = 0 := by rw [inN, if_neg hR]
    have e2 : mpN r k b wk = 0 := by rw [mpN, if_neg hR]
    have e3 : mN r k b wk = 0 := by rw [mN, if_neg hR]
    have e4 : tN r k b wk = 0 := by rw [tN, e3]; decide
    rw [e1, e2, e3, e4] at h
    simp [tasksT, sortsT] at h
theorem taskAt_at {l : List Tk} {n : Int} {t : Tk} (h : taskAt l n = some t) : l[n.toNat]? = some t := by
  unfold taskAt at h
  split at h
  · cases h
  · exact h
set_option maxRecDepth 100000 in
set_option maxHeartbeats 4000000 in
theorem reads_of (r k b wk n : Int) (hk0 : -9223372036854775808 ≤ k) (hk1 : k ≤ 9223372036854775807) (hn0 : -9223372036854775808 ≤ n) (hn1 : n ≤ 9223372036854775807) (w : World) (hT : Bi.TzT w) :
    Calls Tryd.prog 18 #[.agg #[.int .i64 r, .int .i64 k, .int .i64 b, .int .i64 wk], .int .i64 n] w fun e w' => ∃ A m c, e = .returned (.slice A m c) ∧ Hid ((readsO (tN r k b wk : Int) (taskAt (tasksT (inN r k b wk) (mpN r k b wk) (mN r k b wk) (tN r k b wk)) n)).length = m) ∧ OwnL kS 42 w' w.heap.size (.slice A m c) (readsO (tN r k b wk : Int) (taskAt (tasksT (inN r k b wk) (mpN r k b wk) (mN r k b wk) (tN r k b wk)) n)) ∧ Below w.heap.size w w' := by
  have h := job_of (r := r) (b := b) (wk := wk) hk0 hk1
  have HK := Lib.hid (fun (i : Nat) (t : Tk) (ht : (tasksT (inN r k b wk) (mpN r k b wk) (mN r k b wk) (tN r k b wk))[i]? = some t) => task_right ht)
  have HJ := Lib.hid (fun (W : World) => jobOf_any r k b wk W)
  have HTA := Lib.hid (fun (W : World) (hT : Bi.TzT W) => task_any r k b wk n hk0 hk1 hn0 hn1 W hT)
  generalize inN r k b wk = I at *
  generalize mpN r k b wk = mp at *
  generalize mN r k b wk = M at *
  generalize tN r k b wk = T at *
  cases htk : taskAt (tasksT I mp M T) n with
  | none =>
    rw [htk] at HTA
    have HTA : Hid (∀ (W : World), Bi.TzT W → Calls Tryd.prog 16 #[.agg #[.int .i64 r, .int .i64 k, .int .i64 b, .int .i64 wk], .int .i64 n] W fun e w' => e = .returned (.tuple #[.agg #[.int .i64 0, .int .i64 0, .int .i64 0, .int .i64 0, .bool false], .bool false]) ∧ Below W.heap.size W w') := HTA
    clear htk HJ HK h
    go_enter Tryd.func18, Tryd.ntmps18
    go_wp2_with (first
      | (refine wpList_box_blk (w := w) rfl 23 _ rfl _ rfl ?_; intro u1 qu1 gu1 zu1; have b1 : Below w.heap.size w u1 := (Below.refl _ w).grown gu1 (Nat.le_refl _) (by simp))
      | (refine wpList_load_blk (w := u1) rfl 23 _ rfl (w.heap.size) 4 rfl 23 _ qu1 _ Tryd.underlying23 rfl (by kernel_rfl) rfl ?_))
    refine (HTA.out u1 (hT.below b1 hT.lt)).mono ?_
    rintro e u2 ⟨rfl, b2⟩
    have bo := b1.trans (b2.mono b1.size)
    go_wp2_with (first
      | (refine wpList_alloc_blk (w := u2) rfl 34 rfl #[.int .i64 0, .int .i64 0, .int .i64 0, .int .i64 0, .bool false] (by kernel_rfl) ?_; intro u3 qu3 gu3 zu3)
      | (refine wpList_store_blk (w := u3) rfl 34 _ _ rfl (u2.heap.size) 5 rfl 34 _ #[.int .i64 0, .int .i64 0, .int .i64 0, .int .i64 0, .bool false] rfl qu3 (by kernel_rfl) rfl rfl (by kernel_rfl) ?_; intro u4 qu4 gu4 zu4; have bo4 : Below w.heap.size w u4 := (bo.grown gu3 bo.size (by simp)).grown gu4 (Nat.le_trans bo.size gu3.size) (fun r e => by injection e with e; have := bo.size; omega)))
    go_ret
    exact ⟨_, _, _, rfl, Lib.hid rfl, OwnL.nil _ _ _ _, bo4⟩
  | some t =>
    have hat := taskAt_at htk
    have hb := tasks_bi h hat
    have HK0 := Lib.hid (show 0 ≤ k ∧ k ≤ 4 by have := HK.out _ t hat; omega)
    rw [htk] at HTA
    obtain ⟨kd, rd, ta, tb, up⟩ := t
    have HTA : Hid (∀ (W : World), Bi.TzT W → Calls Tryd.prog 16 #[.agg #[.int .i64 r, .int .i64 k, .int .i64 b, .int .i64 wk], .int .i64 n] W fun e w' => e = .returned (.tuple #[.agg #[.int .i64 kd, .int .i64 rd, .int .i64 ta, .int .i64 tb, .bool up], .bool true]) ∧ Below W.heap.size W w') := HTA
    clear htk HK hat
    go_enter Tryd.func18, Tryd.ntmps18
    go_wp2_with (first
      | (refine wpList_box_blk (w := w) rfl 23 _ rfl _ rfl ?_; intro u1 qu1 gu1 zu1; have b1 : Below w.heap.size w u1 := (Below.refl _ w).grown gu1 (Nat.le_refl _) (by simp))
      | (refine wpList_load_blk (w := u1) rfl 23 _ rfl (w.heap.size) 4 rfl 23 _ qu1 _ Tryd.underlying23 rfl (by kernel_rfl) rfl ?_))
    refine (HTA.out u1 (hT.below b1 hT.lt)).mono ?_
    rintro e u2 ⟨rfl, b2⟩
    have bo := b1.trans (b2.mono b1.size)
    have qp2 := qu1.after b2
    go_wp2_with (first
      | (refine wpList_alloc_blk (w := u2) rfl 34 rfl #[.int .i64 0, .int .i64 0, .int .i64 0, .int .i64 0, .bool false] (by kernel_rfl) ?_; intro u3 qu3 gu3 zu3)
      | (refine wpList_store_blk (w := u3) rfl 34 _ _ rfl (u2.heap.size) 5 rfl 34 _ #[.int .i64 kd, .int .i64 rd, .int .i64 ta, .int .i64 tb, .bool up] rfl qu3 (by kernel_rfl) rfl rfl (by kernel_rfl) ?_; intro u4 qu4 gu4 zu4; have bo4 : Below w.heap.size w u4 := (bo.grown gu3 bo.size (by simp)).grown gu4 (Nat.le_trans bo.size gu3.size) (fun r e => by injection e with e; have := bo.size; omega); have qp4 := (qp2.grown gu3 (by simp)).grown gu4 (by intro e; injection e with e; have := qp2.lt; omega); have qt4 := qu4))
    generalize u2.heap.size = bt at *
    clear b1 b2 bo gu1 gu3 gu4 zu1 zu3 zu4 qu1 qu3 qp2 HTA
    refine wp_region_held (S := fun W => Below u4.heap.size u4 W) (by kernel_rfl) ?_
    change wpAnyH _ _ _ _ _ _ _ _ u4.drew
    have c0_0 := (Below.refl u4.heap.size u4).drew
    refine Held.tk (v := .agg #[.int .i64 r, .int .i64 k, .int .i64 b, .int .i64 wk]) 0 (some 15) rfl (Held.y_load_blk (n := 4) rfl rfl Tryd.underlying23 rfl (by kernel_rfl) rfl (fun W hW => qp4.after hW)) c0_0 ?_
    simp only [Act.put, Z1, Z2, Z3]
    refine Held.tk (v := .agg #[.int .i64 kd, .int .i64 rd, .int .i64 ta, .int .i64 tb, .bool up]) 2 (some 17) rfl (Held.y_load_blk (n := 5) rfl rfl Tryd.underlying34 rfl (by kernel_rfl) rfl (fun W hW => qt4.after hW)) c0_0 ?_
    simp only [Act.put, Z1, Z2, Z3]
    refine Held.one 1 (by kernel_rfl) ?_
    refine Held.op_call 1 (some 16) 33 #[.agg #[.int .i64 r, .int .i64 k, .int .i64 b, .int .i64 wk]] rfl rfl rfl rfl (enters_of Tryd.func33 (by kernel_rfl) rfl) (by simp [Act.eval])
      (HJ.out _) ?_
    rintro e w1 ⟨rfl, b1⟩
    have c0_1 := c0_0.trans (b1.mono c0_0.size)
    refine ⟨_, rfl, c0_1, ?_⟩
    simp only [Act.put, Z1, Z2, Z3]
    refine Held.one 3 (by kernel_rfl) ?_
    refine Held.op_call 3 (some 18) 42 #[.agg #[.int .i64 k, .int .i64 (I : Int), .int .i64 (M : Int)], .agg #[.int .i64 kd, .int .i64 rd, .int .i64 ta, .int .i64 tb, .bool up]] rfl rfl rfl rfl (enters_of Tryd.func42 (by kernel_rfl) rfl) (by simp [Act.eval])
      (reads_any k I mp M T kd rd ta tb up h hb _ (hT.below (bo4.trans (c0_1.mono bo4.size)) hT.lt)) ?_
    rintro e w2 ⟨A1, n1, c1, rfl, hn1, o1, b2⟩
    have c0_2 := c0_1.trans (b2.mono c0_1.size)
    refine ⟨_, rfl, c0_2, ?_⟩
    simp only [Act.put, Z1, Z2, Z3]
    refine Held.tk (v := .slice A1 n1 c1) 4 (some 4) rfl (Held.y_assign rfl rfl) c0_2 ?_
    simp only [Act.put, Z1, Z2, Z3]
    refine wpAnyH_done (by kernel_rfl) ?_ _
    have bz := bo4.trans (c0_2.mono bo4.size)
    have hbz := bo4.size
    go_wp2_with fail
    go_ret
    exact ⟨_, _, _, rfl, hn1, o1.less (Nat.le_trans hbz c0_1.size), bz⟩
set_option maxRecDepth 100000 in
set_option maxHeartbeats 4000000 in
theorem writes_of (r k b wk n : Int) (hk0 : -9223372036854775808 ≤ k) (hk1 : k ≤ 9223372036854775807) (hn0 : -9223372036854775808 ≤ n) (hn1 : n ≤ 9223372036854775807) (w : World) (hT : Bi.TzT w) :
    Calls Tryd.prog 20 #[.agg #[.int .i64 r, .int .i64 k, .int .i64 b, .int .i64 wk], .int .i64 n] w fun e w' => ∃ A m c, e = .returned (.slice A m c) ∧ Hid ((writesO k (taskAt (tasksT (inN r k b wk) (mpN r k b wk) (mN r k b wk) (tN r k b wk)) n)).length = m) ∧ OwnL kS 42 w' w.heap.size (.slice A m c) (writesO k (taskAt (tasksT (inN r k b wk) (mpN r k b wk) (mN r k b wk) (tN r k b wk)) n)) ∧ Below w.heap.size w w' := by
  have h := job_of (r := r) (b := b) (wk := wk) hk0 hk1
  have HK := Lib.hid (fun (i : Nat) (t : Tk) (ht : (tasksT (inN r k b wk) (mpN r k b wk) (mN r k b wk) (tN r k b wk))[i]? = some t) => task_right ht)
  have HJ := Lib.hid (fun (W : World) => jobOf_any r k b wk W)
  have HTA := Lib.hid (fun (W : World) (hT : Bi.TzT W) => task_any r k b wk n hk0 hk1 hn0 hn1 W hT)
  generalize inN r k b wk = I at *
  generalize mpN r k b wk = mp at *
  generalize mN r k b wk = M at *
  generalize tN r k b wk = T at *
  cases htk : taskAt (tasksT I mp M T) n with
  | none =>
    rw [htk] at HTA
    have HTA : Hid (∀ (W : World), Bi.TzT W → Calls Tryd.prog 16 #[.agg #[.int .i64 r, .int .i64 k, .int .i64 b, .int .i64 wk], .int .i64 n] W fun e w' => e = .returned (.tuple #[.agg #[.int .i64 0, .int .i64 0, .int .i64 0, .int .i64 0, .bool false], .bool false]) ∧ Below W.heap.size W w') := HTA
    clear htk HJ HK h
    go_enter Tryd.func20, Tryd.ntmps20
    go_wp2_with (first
      | (refine wpList_box_blk (w := w) rfl 23 _ rfl _ rfl ?_; intro u1 qu1 gu1 zu1; have b1 : Below w.heap.size w u1 := (Below.refl _ w).grown gu1 (Nat.le_refl _) (by simp))
      | (refine wpList_load_blk (w := u1) rfl 23 _ rfl (w.heap.size) 4 rfl 23 _ qu1 _ Tryd.underlying23 rfl (by kernel_rfl) rfl ?_))
    refine (HTA.out u1 (hT.below b1 hT.lt)).mono ?_
    rintro e u2 ⟨rfl, b2⟩
    have bo := b1.trans (b2.mono b1.size)
    go_wp2_with (first
      | (refine wpList_alloc_blk (w := u2) rfl 34 rfl #[.int .i64 0, .int .i64 0, .int .i64 0, .int .i64 0, .bool false] (by kernel_rfl) ?_; intro u3 qu3 gu3 zu3)
      | (refine wpList_store_blk (w := u3) rfl 34 _ _ rfl (u2.heap.size) 5 rfl 34 _ #[.int .i64 0, .int .i64 0, .int .i64 0, .int .i64 0, .bool false] rfl qu3 (by kernel_rfl) rfl rfl (by kernel_rfl) ?_; intro u4 qu4 gu4 zu4; have bo4 : Below w.heap.size w u4 := (bo.grown gu3 bo.size (by simp)).grown gu4 (Nat.le_trans bo.size gu3.size) (fun r e => by injection e with e; have := bo.size; omega)))
    go_ret
    exact ⟨_, _, _, rfl, Lib.hid rfl, OwnL.nil _ _ _ _, bo4⟩
  | some t =>
    have hat := taskAt_at htk
    have hb := tasks_bi h hat
    have HK0 := Lib.hid (show 0 ≤ k ∧ k ≤ 4 by have := HK.out _ t hat; omega)
    rw [htk] at HTA
    obtain ⟨kd, rd, ta, tb, up⟩ := t
    have HTA : Hid (∀ (W : World), Bi.TzT W → Calls Tryd.prog 16 #[.agg #[.int .i64 r, .int .i64 k, .int .i64 b, .int .i64 wk], .int .i64 n] W fun e w' => e = .returned (.tuple #[.agg #[.int .i64 kd, .int .i64 rd, .int .i64 ta, .int .i64 tb, .bool up], .bool true]) ∧ Below W.heap.size W w') := HTA
    clear htk HK hat
    go_enter Tryd.func20, Tryd.ntmps20
    go_wp2_with (first
      | (refine wpList_box_blk (w := w) rfl 23 _ rfl _ rfl ?_; intro u1 qu1 gu1 zu1; have b1 : Below w.heap.size w u1 := (Below.refl _ w).grown gu1 (Nat.le_refl _) (by simp))
      | (refine wpList_load_blk (w := u1) rfl 23 _ rfl (w.heap.size) 4 rfl 23 _ qu1 _ Tryd.underlying23 rfl (by kernel_rfl) rfl ?_))
    refine (HTA.out u1 (hT.below b1 hT.lt)).mono ?_
    rintro e u2 ⟨rfl, b2⟩
    have bo := b1.trans (b2.mono b1.size)
    have qp2 := qu1.after b2
    go_wp2_with (first
      | (refine wpList_alloc_blk (w := u2) rfl 34 rfl #[.int .i64 0, .int .i64 0, .int .i64 0, .int .i64 0, .bool false] (by kernel_rfl) ?_; intro u3 qu3 gu3 zu3)
      | (refine wpList_store_blk (w := u3) rfl 34 _ _ rfl (u2.heap.size) 5 rfl 34 _ #[.int .i64 kd, .int .i64 rd, .int .i64 ta, .int .i64 tb, .bool up] rfl qu3 (by kernel_rfl) rfl rfl (by kernel_rfl) ?_; intro u4 qu4 gu4 zu4; have bo4 : Below w.heap.size w u4 := (bo.grown gu3 bo.size (by simp)).grown gu4 (Nat.le_trans bo.size gu3.size) (fun r e => by injection e with e; have := bo.size; omega); have qp4 := (qp2.grown gu3 (by simp)).grown gu4 (by intro e; injection e with e; have := qp2.lt; omega); have qt4 := qu4))
    generalize u2.heap.size = bt at *
    clear b1 b2 bo gu1 gu3 gu4 zu1 zu3 zu4 qu1 qu3 qp2 HTA
    refine wp_region_held (S := fun W => Below u4.heap.size u4 W) (by kernel_rfl) ?_
    change wpAnyH _ _ _ _ _ _ _ _ u4.drew
    have c0_0 := (Below.refl u4.heap.size u4).drew
    refine Held.tk (v := .agg #[.int .i64 r, .int .i64 k, .int .i64 b, .int .i64 wk]) 0 (some 15) rfl (Held.y_load_blk (n := 4) rfl rfl Tryd.underlying23 rfl (by kernel_rfl) rfl (fun W hW => qp4.after hW)) c0_0 ?_
    simp only [Act.put, Z1, Z2, Z3]
    refine Held.tk (v := .agg #[.int .i64 kd, .int .i64 rd, .int .i64 ta, .int .i64 tb, .bool up]) 2 (some 17) rfl (Held.y_load_blk (n := 5) rfl rfl Tryd.underlying34 rfl (by kernel_rfl) rfl (fun W hW => qt4.after hW)) c0_0 ?_
    simp only [Act.put, Z1, Z2, Z3]
    refine Held.one 1 (by kernel_rfl) ?_
    refine Held.op_call 1 (some 16) 33 #[.agg #[.int .i64 r, .int .i64 k, .int .i64 b, .int .i64 wk]] rfl rfl rfl rfl (enters_of Tryd.func33 (by kernel_rfl) rfl) (by simp [Act.eval])
      (HJ.out _) ?_
    rintro e w1 ⟨rfl, b1⟩
    have c0_1 := c0_0.trans (b1.mono c0_0.size)
    refine ⟨_, rfl, c0_1, ?_⟩
    simp only [Act.put, Z1, Z2, Z3]
    refine Held.one 3 (by kernel_rfl) ?_
    refine Held.op_call 3 (some 18) 44 #[.agg #[.int .i64 k, .int .i64 (I : Int), .int .i64 (M : Int)], .agg #[.int .i64 kd, .int .i64 rd, .int .i64 ta, .int .i64 tb, .bool up]] rfl rfl rfl rfl (enters_of Tryd.func44 (by kernel_rfl) rfl) (by simp [Act.eval])
      (writes_any k I M kd rd ta tb up hb (fun _ => HK0.out) _) ?_
    rintro e w2 ⟨A1, n1, c1, rfl, hn1, o1, b2⟩
    have c0_2 := c0_1.trans (b2.mono c0_1.size)
    refine ⟨_, rfl, c0_2, ?_⟩
    simp only [Act.put, Z1, Z2, Z3]
    refine Held.tk (v := .slice A1 n1 c1) 4 (some 4) rfl (Held.y_assign rfl rfl) c0_2 ?_
    simp only [Act.put, Z1, Z2, Z3]
    refine wpAnyH_done (by kernel_rfl) ?_ _
    have bz := bo4.trans (c0_2.mono bo4.size)
    have hbz := bo4.size
    go_wp2_with fail
    go_ret
    exact ⟨_, _, _, rfl, hn1, o1.less (Nat.le_trans hbz c0_1.size), bz⟩
set_option maxRecDepth 100000 in
set_option maxHeartbeats 4000000 in
theorem last_of (r k b wk : Int) (hk0 : -9223372036854775808 ≤ k) (hk1 : k ≤ 9223372036854775807) (w : World) (hT : Bi.TzT w) :
    Calls Tryd.prog 26 #[.agg #[.int .i64 r, .int .i64 k, .int .i64 b, .int .i64 wk]] w fun e w' => ∃ A m c, e = .returned (.slice A m c) ∧ Hid ((lastT (mN r k b wk) (tN r k b wk : Int)).length = m) ∧ OwnL kS 42 w' w.heap.size (.slice A m c) (lastT (mN r k b wk) (tN r k b wk : Int)) ∧ Below w.heap.size w w' := by
  have h := job_of (r := r) (b := b) (wk := wk) hk0 hk1
  have HJ := Lib.hid (fun (W : World) => jobOf_any r k b wk W)
  generalize inN r k b wk = I at *
  generalize mpN r k b wk = mp at *
  generalize mN r k b wk = M at *
  generalize tN r k b wk = T at *
  have HRN := Lib.hid (fun (W : World) (hT : Bi.TzT W) => nrounds_any k I mp M T h W hT)
  have h32 := h.m32
  have HWF := Lib.hid (last_wf (M := M) (show (0 : Int) ≤ (T : Int) by omega) (by have := h.t15; omega) h32)
  have HL := Lib.hid (fun (i : Nat) => show lastT (i + 1) (T : Int) = lastT i (T : Int) ++ [behP 3 5 (T : Int) (i : Int)] by unfold lastT; rw [List.range_succ, List.map_append]; rfl)
  have HLL := Lib.hid (fun (i : Nat) => show (lastT i (T : Int)).length = i by simp [lastT])
  have HIN := Lib.hid (fun (i : Nat) (hi : i < M) => show behP 3 5 (T : Int) (i : Int) ∈ lastT M (T : Int) from List.mem_map.2 ⟨i, List.mem_range.2 hi, rfl⟩)
  clear h
  go_enter Tryd.func26, Tryd.ntmps26
  go_wp2_with (first
    | (refine wpList_box_blk (w := w) rfl 23 _ rfl _ rfl ?_; intro u1 qu1 gu1 zu1; have b1 : Below w.heap.size w u1 := (Below.refl _ w).grown gu1 (Nat.le_refl _) (by simp))
    | (refine wpList_load_blk (w := u1) rfl 23 _ rfl (w.heap.size) 4 rfl 23 _ qu1 _ Tryd.underlying23 rfl (by kernel_rfl) rfl ?_))
  refine (HJ.out u1).mono ?_
  rintro e u2 ⟨rfl, b2⟩
  have bo := b1.trans (b2.mono b1.size)
  have hw2 := bo.size
  go_wp2_with (first
    | (refine wpList_alloc_blk (w := u2) rfl 62 rfl #[.int .i64 0, .int .i64 0, .int .i64 0] (by kernel_rfl) ?_; intro u3 qu3 gu3 zu3)
    | (refine wpList_store_blk (w := u3) rfl 62 _ _ rfl (u2.heap.size) 3 rfl 62 _ #[.int .i64 k, .int .i64 (I : Int), .int .i64 (M : Int)] rfl qu3 (by kernel_rfl) rfl rfl (by kernel_rfl) ?_; intro u4 qu4 gu4 zu4; have bo4 : Below w.heap.size w u4 := (bo.grown gu3 bo.size (by simp)).grown gu4 (Nat.le_trans bo.size gu3.size) (fun r e => by injection e with e; have := bo.size; omega); have cj := qu4.cell (i := 2) rfl)
    | (refine wpList_fld0 (w := u4) rfl rfl rfl Tryd.underlying62 rfl (by kernel_rfl) ?_))
  generalize u2.heap.size = bj at *
  clear b1 b2 bo gu1 gu3 gu4 zu1 zu3 zu4 qu1 qu3 HJ cj
  go_loopw [4, 5, 10] (fun v u i wr => ∃ k' : Nat, k' ≤ M ∧ i = .int .i64 k' ∧ OwnL kS 42 wr w.heap.size v (lastT k' (T : Int)) ∧ Blk wr bj 62 #[.int .i64 k, .int .i64 (I : Int), .int .i64 (M : Int)] ∧ Below w.heap.size w wr) (fun _ _ i _ => M - (intOf i).toNat)
  case atStart => exact ⟨0, by omega, rfl, OwnL.nil _ _ _ _, qu4, bo4⟩
  case round =>
    clear qu4 bo4
    obtain ⟨m, hm, rfl, hl, qj, bw⟩ := hrel
    obtain ⟨A2, n2, c2, rfl, hn2, _, _⟩ := hl.form2
    have hn2' := hn2.out
    rw [HLL.out] at hn2'
    subst hn2'
    have hwz := bw.size
    by_cases hlt : m < M
    · have hlt' : (m : Int) < (M : Int) := by omega
      have hadd : IntKind.i64.wrap ((m : Int) + 1) = (m : Int) + 1 := by rw [IntKind.wrap_i64]; omega
      go_wp2_with (first
        | (refine wpList_load_blk (w := wr) rfl 62 _ rfl (bj) 3 rfl 62 _ qj _ Tryd.underlying62 rfl (by kernel_rfl) rfl ?_))
      refine (HRN.out wr (hT.below bw hT.lt)).mono ?_
      rintro e w3 ⟨rfl, b3⟩
      go_wp2_with fail
      refine (last_any (T : Int) (m : Int) w3).mono ?_
      rintro e w4 ⟨rfl, b4⟩
      have b34 := b3.trans (b4.mono b3.size)
      have hl4 := hl.below b34
      have qj4 := qj.after b34
      have bw4 := bw.trans (b34.mono hwz)
      obtain ⟨s1, hs1⟩ : ∃ s, behP 3 5 (T : Int) (m : Int) = s := ⟨_, rfl⟩
      have wf1 : ∀ s ∈ [s1], s.wf := fun s hs => by rw [List.mem_singleton] at hs; subst hs; rw [← hs1]; exact HWF.out _ (HIN.out m hlt)
      have HS1 := Lib.hid (HL.out m)
      rw [hs1] at HS1 ⊢
      clear hs1 hl qj bw b3 b4 b34
      obtain ⟨ph, rd, ad⟩ := s1
      have hw4 := bw4.size
      go_wp2_with (first
        | (refine wpList_build_lst (k := kS) (w := w4) rfl 47 42 1 _ rfl Tryd.underlying47 _ 24 info_spot rfl [⟨ph, rd, ad⟩] rfl (by kernel_rfl) (by omega) (by decide) ?_; intro u5 qu5 gu5 zu5; have o5 := hl4.kept gu5 (by cases (Value.slice A2 m c2).ownBlock <;> simp); have l5 : Lst kS u5 u5.heap.size (some ⟨w4.heap.size, 0, none⟩) 1 [⟨ph, rd, ad⟩] := lst_whole qu5 rfl wf1)
        | (at_builtin; refine wpList_append_lst (k := kS) (w := u5) rfl _ _ 47 42 rfl Tryd.underlying47 _ 24 info_spot rfl w.heap.size u5.heap.size w4.heap.size 0 1 1 (.slice A2 m c2) _ [⟨ph, rd, ad⟩] rfl rfl o5 l5 (by rw [HLL.out]; omega) (by omega) (by have := gu5.size; omega) ?_; intro v6 u6 o6 g6 n6))
      obtain ⟨A6, n6', c6, rfl, _⟩ := o6.form2
      have qj5 := qj4.grown gu5 (by simp)
      go_roundw
      case rel => exact ⟨m + 1, by omega, by go_num, by rw [HS1.out]; exact o6, qj5.grown g6 (own_nq o5 qj5 (by decide)), (bw4.grown gu5 hw4 (by simp)).grown g6 (by have := gu5.size; omega) (fun r e => (o5.lt r e).1)⟩
      case measure => simp [intOf]; omega
    · obtain rfl : m = M := by omega
      go_wp2_with fail
      go_ret
      exact ⟨_, _, _, rfl, hn2, hl, bw⟩
end Go.Proofs.YtipmfficjomcoaaDoor.Sh
