/-
  dominohelp.Seq2 of package shape's Tasks, by its contract: all tasks and their numbers, as two lists of the call's own.
-/
import Derived.Test.YtipmfficjomcoaaDoorB10
import Derived.Test.YtipmfficjomcoaaDoorB7
set_option linter.unusedVariables false
namespace Go.Proofs.YtipmfficjomcoaaDoor.Sh
open Go.RowKit Go.Shelf Mem Held Go.Proofs.YtipmfficjomcoaaDoor.Range Sl
attribute [local go_sem] Oper.semAt_some
attribute [local irreducible] wpList wpListIn Calls
set_option maxRecDepth 100000 in
set_option maxHeartbeats 8000000 in
theorem seq2t_own (bp most : Nat) (r k b wk : Int) (hk0 : -9223372036854775808 ≤ k) (hk1 : k ≤ 9223372036854775807) (w : World) (q : Blk w bp 23 #[.int .i64 r, .int .i64 k, .int .i64 b, .int .i64 wk]) (hT : Bi.TzT w) (hm : (tasksT (inN r k b wk) (mpN r k b wk) (mN r k b wk) (tN r k b wk)).length ≤ most) (hm2 : most ≤ 70000) :
    Calls Tryd.prog 11 #[.func (.func 32) #[] #[.pointer (some ⟨bp, 0, none⟩)], .int .i64 (most : Int)] w fun e w' =>
      ∃ A1 c1 A2 c2, e = .returned (.tuple #[.slice A1 (tasksT (inN r k b wk) (mpN r k b wk) (mN r k b wk) (tN r k b wk)).length c1, .slice A2 (tasksT (inN r k b wk) (mpN r k b wk) (mN r k b wk) (tN r k b wk)).length c2, .bool true]) ∧ Mem.Own w' w.heap.size 3 .i64 (.slice A1 (tasksT (inN r k b wk) (mpN r k b wk) (mN r k b wk) (tN r k b wk)).length c1) (numsI (tasksT (inN r k b wk) (mpN r k b wk) (mN r k b wk) (tN r k b wk)).length) ∧ OwnL kT 34 w' w.heap.size (.slice A2 (tasksT (inN r k b wk) (mpN r k b wk) (mN r k b wk) (tN r k b wk)).length c2) (tasksT (inN r k b wk) (mpN r k b wk) (mN r k b wk) (tN r k b wk)) ∧ Below w.heap.size w w' := by
  have hfn := fun W => Held.run_func_nil (P := Tryd.prog) 26 Tryd.underlying26 (.func 32) #[] #[.pointer (some ⟨bp, 0, none⟩)] W
  have HIT := Lib.hid (fun (N : Nat) (hN : 4 ≤ N) (X : World) (q : Blk X bp 23 #[.int .i64 r, .int .i64 k, .int .i64 b, .int .i64 wk]) (hT : Bi.TzT X) => tasks_p N bp r k b wk hk0 hk1 hN X q hT)
  have h := job_of (r := r) (b := b) (wk := wk) hk0 hk1
  generalize inN r k b wk = I at *
  generalize mpN r k b wk = mp at *
  generalize mN r k b wk = M at *
  generalize tN r k b wk = T at *
  have HTB := Lib.hid (fun (i : Nat) (t : Tk) (ht : (tasksT I mp M T)[i]? = some t) => (tasks_bi h ht).wf)
  have HAT := Lib.hid (show ∀ i, atA I mp M T i = ((tasksT I mp M T)[i]?).map (fun t => (i, t)) from fun _ => rfl)
  generalize tasksT I mp M T = l at *
  generalize atA I mp M T = at_ at *
  have hTl := hT.lt
  have hqT := hT
  clear h hk0 hk1
  refine (callsIn_wide (n := 9)).1 ?_
  refine callsIn_of_wp_marks Tryd.func11 rfl trivial ?_ rfl
  simp only [Tryd.ntmps11, List.size_toArray, List.length_cons, List.length_nil, Nat.reduceAdd, Nat.reduceSub, Array.replicate_succ, Array.replicate_zero, List.push_toArray, List.append_toArray, List.nil_append, List.cons_append]
  refine wpIn_wide.2 ?_
  go_wp2_with (first
    | (refine Held.wpList_box_cell (w := w) rfl 3 _ rfl (.int .i64 (most : Int)) rfl rfl ?_; intro u1 q1 g1 z1)
    | (refine Held.wpList_alloc_cell (w := u1) rfl 30 rfl (.slice none 0 0) (by kernel_rfl) rfl ?_; intro u2 q2 g2 z2)
    | (refine Held.wpList_alloc_cell (w := u2) rfl 28 rfl (.slice none 0 0) (by kernel_rfl) rfl ?_; intro u3 q3 g3 z3)
    | (refine Held.wpList_alloc_cell (w := u3) rfl 4 rfl (.bool false) (by kernel_rfl) rfl ?_; intro u4 q4 g4 z4)
    | (refine Held.wpList_alloc_cell (w := u4) rfl 30 rfl (.slice none 0 0) (by kernel_rfl) rfl ?_; intro u5 q5 g5 z5)
    | (refine Held.wpList_alloc_cell (w := u5) rfl 28 rfl (.slice none 0 0) (by kernel_rfl) rfl ?_; intro u6 q6 g6 z6))
  have z1 := z1.out
  have z2 := z2.out
  have z3 := z3.out
  have z4 := z4.out
  have z5 := z5.out
  have z6 := z6.out
  have qm : u6.heap[w.heap.size]? = some (.cells #[.int .i64 (most : Int)] 3 (0, 0)) := Held.keep_cells (Held.keep_cells (Held.keep_cells (Held.keep_cells (Held.keep_cells q1 g2 (by simp)) g3 (by simp)) g4 (by simp)) g5 (by simp)) g6 (by simp)
  have qa : u6.heap[u1.heap.size]? = some (.cells #[.slice none 0 0] 30 (0, 0)) := Held.keep_cells (Held.keep_cells (Held.keep_cells (Held.keep_cells q2 g3 (by simp)) g4 (by simp)) g5 (by simp)) g6 (by simp)
  have qb : u6.heap[u2.heap.size]? = some (.cells #[.slice none 0 0] 28 (0, 0)) := Held.keep_cells (Held.keep_cells (Held.keep_cells q3 g4 (by simp)) g5 (by simp)) g6 (by simp)
  have qc : u6.heap[u3.heap.size]? = some (.cells #[.bool false] 4 (0, 0)) := Held.keep_cells (Held.keep_cells q4 g5 (by simp)) g6 (by simp)
  have qx := Held.keep_cells q5 g6 (by simp)
  have b6 : Below w.heap.size w u6 := ((((((Below.refl _ w).grown g1 (by omega) (by simp)).grown g2 (by omega) (by simp)).grown g3 (by omega) (by simp)).grown g4 (by omega) (by simp)).grown g5 (by omega) (by simp)).grown g6 (by omega) (by simp)
  obtain ⟨gm, hgm⟩ : ∃ g, w.heap.size = g := ⟨_, rfl⟩
  obtain ⟨ga, hga⟩ : ∃ g, u1.heap.size = g := ⟨_, rfl⟩
  obtain ⟨gb, hgb⟩ : ∃ g, u2.heap.size = g := ⟨_, rfl⟩
  obtain ⟨gc, hgc⟩ : ∃ g, u3.heap.size = g := ⟨_, rfl⟩
  obtain ⟨gx, hgx⟩ : ∃ g, u4.heap.size = g := ⟨_, rfl⟩
  obtain ⟨gy, hgy⟩ : ∃ g, u5.heap.size = g := ⟨_, rfl⟩
  obtain ⟨B, hB⟩ : ∃ g, u6.heap.size = g := ⟨_, rfl⟩
  have i6 : IT w u6 B gx gy l (fun _ => False) 0 u6 := ⟨Nat.zero_le _, _, _, by omega, by omega, by omega, by omega, by omega, by rw [← hgx]; exact qx, by rw [← hgy]; exact q6, Mem.Own.nil _ _ _ _, OwnL.nil _ _ _ _, fun _ _ _ _ => rfl, b6, by omega, fun _ h => h.elim⟩
  rw [hgm] at qm
  rw [hga] at qa
  rw [hgb] at qb
  rw [hgc] at qc
  have hwm : w.heap.size ≤ gm := by omega
  have h12 : gm < ga ∧ ga < gb ∧ gb < gc ∧ gc < gx ∧ gx < gy ∧ gy < B := by omega
  have hit := HIT.out (9 - 1) (by omega) u6 (q.after b6) (hT.below b6 hT.lt)
  have hNd : ∀ r, r = 1 → r < w.heap.size := fun r e => by subst e; exact hTl
  have hb6 : B ≤ u6.heap.size := by omega
  have hs6 := b6.size
  have hlt9 : l.length ≤ 70000 := by omega
  rw [hgm, hga, hgb, hgc, hgx, hgy]
  clear HIT q hT q1 q2 q3 q4 q5 q6 g1 g2 g3 g4 g5 g6 z1 z2 z3 z4 z5 z6 qx hga hgb hgc hgx hgy
  refine (wpIn_wide (n := 9)).1 ?_
  refine wpIn_rangeFunc_p rfl (by omega) (gf := 32) (lb := #[.pointer (some ⟨bp, 0, none⟩)]) rfl trivial (enters_of Tryd.func32 (by kernel_rfl) rfl)
    hit (Below.refl _ _) (fun _ => rfl) (fun r hr => Nat.lt_of_lt_of_le (hNd r hr) hs6)
    (IT w u6 B gx gy l) (fun _ _ _ _ => False) (IT.stay _ _ _ _ _ _) (fun c => stay_const) i6
    (fun pv i x a' X => i < l.length ∧ ∃ vx vy gt, TwoT w u6 B gx gy vx vy vx vy (numsI i) (l.take i) (fun r => pv r ∨ r = gt) X ∧ Blk X gt 34 x.2.cells.toArray ∧ ¬ pv gt ∧ a' = { tmps := #[.func (.func 32) #[] #[.pointer (some ⟨bp, 0, none⟩)], .int .i64 (most : Int), undef, .pointer (some ⟨gm, 0, none⟩), .pointer (some ⟨ga, 0, none⟩), .pointer (some ⟨gb, 0, none⟩), .pointer (some ⟨gc, 0, none⟩), .pointer (some ⟨gx, 0, none⟩), .pointer (some ⟨gy, 0, none⟩), .int .i64 (x.1 : Int), .pointer (some ⟨gt, 0, none⟩), .func (.func 32) #[] #[.pointer (some ⟨bp, 0, none⟩)], .bool false, .func (.func 32) #[] #[.pointer (some ⟨bp, 0, none⟩)], .int .i64 (x.1 : Int), tkV x.2, undef, undef, undef, undef, undef, undef, undef, undef, undef, undef, undef, undef, undef, undef], defers := [] }) ?hIb ?assign ?body ?done ?stop
  case hIb =>
    rintro pv i x a' X X' b' ⟨hi, vx, vy, gt, H, qt, hng, rfl⟩ hb hg
    have hq := H.pv b' (.inl hb)
    exact ⟨hi, vx, vy, gt, H.keep hg (fun r e => by injection e with e; subst e; exact ⟨hq.1, hq.2.2⟩) (fun r hr => .inl hr), qt.grown hg (by intro e; injection e with e; subst e; exact hng hb), hng, rfl⟩
  case assign =>
    rintro l' pv i ⟨xi, xt⟩ X C hl' ⟨hi, vx, vy, H⟩ hat hC
    have hil : i < l.length := by
      rw [HAT.out] at hat
      obtain ⟨t, ht, _⟩ := Option.map_eq_some_iff.1 hat
      exact (List.getElem?_eq_some_iff.1 ht).1
    obtain ⟨kd, rd, ta, tb, up⟩ := xt
    simp only [encT, tkV, List.zip_toArray, List.zip_cons_cons, List.zip_nil_right, List.foldl_toArray, List.foldl_cons, List.foldl_nil, List.setIfInBounds_toArray, List.set_cons_zero, List.set_cons_succ]
    gi_wp2_with (first
      | (refine Held.wpListIn_one (r := some l') rfl (by intro c e; cases e) ?_; refine wpList_alloc_blk (w := X) rfl 34 rfl #[.int .i64 0, .int .i64 0, .int .i64 0, .int .i64 0, .bool false] (by kernel_rfl) ?_; intro X1 qX1 gX1 zX1; refine wpList_nil ⟨rfl, ?_⟩)
      | (refine Held.wpListIn_one (r := some l') rfl (by intro c e; cases e) ?_; refine wpList_store_blk (w := X1) rfl 34 _ _ rfl (X.heap.size) 5 rfl 34 _ #[.int .i64 kd, .int .i64 rd, .int .i64 ta, .int .i64 tb, .bool up] rfl qX1 (by kernel_rfl) rfl rfl (by kernel_rfl) ?_; intro X2 qX2 gX2 zX2; have bx : Below X.heap.size X X2 := ((Below.refl _ X).grown gX1 (Nat.le_refl _) (by simp)).grown gX2 gX1.size (fun r e => by cases e; exact Nat.le_refl _); refine wpList_nil ⟨rfl, ?_⟩))
    refine hC _ _ (KeepsP.of_below bx) ⟨hil, vx, vy, X.heap.size, H.keep (grown_of_below bx none) (fun r e => by cases e) (fun r hr => hr.elim .inl (fun e => .inr (by subst e; exact ⟨Nat.le_refl _, qX2.lt⟩))), qX2, fun hp => ?_, rfl⟩
    have := H.pv _ hp
    omega
  case body =>
    rintro l' pv i ⟨xi, xt⟩ a' X hl' - ⟨hi, vx, vy, gt, H, qt, hng, rfl⟩ hat
    rw [HAT.out] at hat
    obtain ⟨t, ht, e⟩ := Option.map_eq_some_iff.1 hat
    injection e with e1 e2
    subst e1 e2
    have hwt := HTB.out i t ht
    have HLX := Lib.hid (numsI_length i)
    have HLY := Lib.hid (show (l.take i).length = i by rw [List.length_take]; omega)
    have HPX := Lib.hid (numsI_next i)
    have HPY := Lib.hid (show l.take (i + 1) = l.take i ++ [t] by rw [List.take_add_one, ht]; rfl)
    have hk1 : i + 1 ≤ l.length := hi
    obtain ⟨A1, c1, rfl, _⟩ := H.ox.form
    obtain ⟨A2, c2, rfl, _⟩ := H.oy.form
    rw [HLX.out, HLY.out] at H
    obtain ⟨kd, rd, ta, tb, up⟩ := t
    have qt : Blk X gt 34 #[.int .i64 kd, .int .i64 rd, .int .i64 ta, .int .i64 tb, .bool up] := qt
    have wf2 : ∀ z ∈ [(i : Int)], (Lit.int .i64 z).wf = true := by intro z hz; rw [List.mem_singleton] at hz; rw [hz]; exact Bi.wf_i64 (by omega) (by omega)
    have wf6 : ∀ z ∈ [(⟨kd, rd, ta, tb, up⟩ : Tk)], kT.wf z := by intro z hz; rw [List.mem_singleton] at hz; rw [hz]; exact hwt
    have hgmB : gm < B := by omega
    have hgmx : gm ≠ gx := by omega
    have hgmy : gm ≠ gy := by omega
    have hgt : ¬ ((most : Int) < ((i + 1 : Nat) : Int)) := by omega
    simp only [tkV]
    clear hit ht hat hwt
    gi_wp2_with fail
    refine Held.wpIn_region_barR (r := some l') (s := 8) (T := fun X => X.heap[gx]? = some (.cells #[.slice A1 i c1] 30 (0, 0)) ∧ X.heap[gy]? = some (.cells #[.slice A2 i c2] 28 (0, 0)) ∧ Blk X gt 34 #[.int .i64 kd, .int .i64 rd, .int .i64 ta, .int .i64 tb, .bool up]) rfl (by kernel_rfl) (by kernel_rfl) (by intro a w h; exact h) ?_
    change wpAnyB _ _ _ _ _ _ _ _ _ X.drew
    have K := H.keeps hNd (grown_of_below ((Below.refl X.heap.size X).drew) none) (.inl rfl)
    have qt := qt.after ((Below.refl X.heap.size X).drew)
    have H := H.after ((Below.refl X.heap.size X).drew)
    have T0 : (fun X => X.heap[gx]? = some (.cells #[.slice A1 i c1] 30 (0, 0)) ∧ X.heap[gy]? = some (.cells #[.slice A2 i c2] 28 (0, 0)) ∧ Blk X gt 34 #[.int .i64 kd, .int .i64 rd, .int .i64 ta, .int .i64 tb, .bool up]) X.drew := ⟨H.cx, H.cy, qt⟩
    refine Held.takeB (v := .slice A1 i c1) 0 (some 16) [8] rfl rfl (by kernel_rfl) (by kernel_rfl) (by kernel_rfl) (by kernel_rfl) (fun _ _ _ h => h) rfl (Held.y_load rfl rfl (by kernel_rfl) (fun X hX => cell_of_one hX.1)) T0 ?_
    simp only [Act.put, Z1, Z2, Z3]
    refine Held.takeB (v := .int .i64 (i : Int)) 1 (some 17) [8] rfl rfl (by kernel_rfl) (by kernel_rfl) (by kernel_rfl) (by kernel_rfl) (fun _ _ _ h => h) rfl (Held.y_move rfl rfl) T0 ?_
    simp only [Act.put, Z1, Z2, Z3]
    refine Held.takeB (v := .slice A2 i c2) 4 (some 20) [8, 7] rfl rfl (by kernel_rfl) (by kernel_rfl) (by kernel_rfl) (by kernel_rfl) (fun _ _ _ h => h) rfl (Held.y_load rfl rfl (by kernel_rfl) (fun X hX => cell_of_one hX.2.1)) T0 ?_
    simp only [Act.put, Z1, Z2, Z3]
    refine Held.takeB (v := .agg #[.int .i64 kd, .int .i64 rd, .int .i64 ta, .int .i64 tb, .bool up]) 5 (some 21) [8, 7, 6] rfl rfl (by kernel_rfl) (by kernel_rfl) (by kernel_rfl) (by kernel_rfl) (fun _ _ _ h => h) rfl (Held.y_load_blk (n := 5) rfl rfl Tryd.underlying34 rfl (by kernel_rfl) rfl (fun X hX => hX.2.2)) T0 ?_
    simp only [Act.put, Z1, Z2, Z3]
    refine Held.twoB 2 6 (by kernel_rfl) ?_ ?_
    · refine Held.op_build_Row 2 (some 18) 30 3 1 .i64 8 [(i : Int)] rfl rfl rfl rfl Tryd.underlying30 Bi.info_int (by simp [Act.eval]) rfl (by omega) (by omega) wf2 ?_
      intro p2 w1 r2 b1 q2
      have K := K.trans (H.keeps hNd (grown_of_below b1 none) (.inl rfl))
      have H := H.after b1
      have qt := qt.after b1
      refine ⟨fun _ => ⟨H.cx, H.cy, qt⟩, ?_⟩
      simp only [Act.put, Z1, Z2, Z3]
      refine Held.twoB 3 6 (by kernel_rfl) ?_ ?_
      · refine Bi.op_append_three 3 (some 19) 30 rfl rfl rfl rfl B 3 .i64 8 Tryd.underlying30 Bi.info_int (.slice A1 i c1) (numsI i) rfl H.ox _ (some ⟨p2, 0, none⟩) 1 1 [(i : Int)] rfl (by have := r2.ints (n := 1) (by simp); simpa using this) (by rw [HLX.out]; omega) (by omega) H.sz ?_
        intro A3 n3 c3 w2 o3 g2 t3 l3
        have K := K.trans (H.keeps hNd g2 (.inr (.inr (.inr (.inl rfl)))))
        have qt := qt.grown g2 (fun e => (H.pv gt (.inr rfl)).2.2.1 e.symm)
        have H := H.appX o3 g2 t3
        refine ⟨fun _ => ⟨H.cx, H.cy, qt⟩, ?_⟩
        simp only [Act.put, Z1, Z2, Z3]
        refine Held.oneB 6 (by kernel_rfl) ?_
        refine op_build_lst (k := kT) 6 (some 22) 28 34 1 _ 40 [⟨kd, rd, ta, tb, up⟩] rfl rfl rfl rfl Tryd.underlying28 info_task rfl rfl (by simp [Act.eval, kT, Tk.cells]) (by omega) (by decide) ?_
        intro p6 w3 r6 b3 q6
        have K := K.trans (H.keeps hNd (grown_of_below b3 none) (.inl rfl))
        have H := H.after b3
        have qt := qt.after b3
        refine ⟨fun _ => ⟨H.cx, H.cy, qt⟩, ?_⟩
        simp only [Act.put, Z1, Z2, Z3]
        refine Held.oneB 7 (by kernel_rfl) ?_
        refine op_append_lst0 (k := kT) 7 (some 23) 28 34 rfl rfl rfl rfl Tryd.underlying28 _ 40 info_task rfl B _ 1 1 (some ⟨p6, 0, none⟩) (.slice A2 i c2) (l.take i) [⟨kd, rd, ta, tb, up⟩] rfl rfl H.oy (lst_whole r6 rfl wf6) (by rw [HLY.out]; omega) (by omega) H.sz ?_
        intro v7 w4 o7 g4 t7
        obtain ⟨A7, n7, c7, rfl, l7, _⟩ := o7.form2
        have K := K.trans (H.keeps hNd g4 (.inr (.inr (.inr (.inr rfl)))))
        have qt := qt.grown g4 (fun e => (H.pv gt (.inr rfl)).2.2.2 e.symm)
        have H := H.appY o7 g4 t7
        refine ⟨fun _ => ⟨H.cx, H.cy, qt⟩, ?_⟩
        simp only [Act.put, Z1, Z2, Z3]
        refine Held.oneB 8 (by kernel_rfl) ?_
        refine Held.op_store_box 8 none 30 gx 30 _ (.slice A3 n3 c3) rfl rfl rfl rfl rfl rfl H.cx (by kernel_rfl) rfl rfl ?_
        intro w5 l8 g5
        have K := K.trans (H.keeps hNd g5 (.inr (.inl rfl)))
        have H := H.putX l8 g5
        refine ⟨(fun h => by cases h.symm.trans (show _ = true by kernel_rfl)), ?_⟩
        simp only [Act.put]
        refine Held.oneB 9 (by kernel_rfl) ?_
        refine Held.op_store_box 9 none 28 gy 28 _ (.slice A7 n7 c7) rfl rfl rfl rfl rfl rfl H.cy (by kernel_rfl) rfl rfl ?_
        intro w6 l9 g6
        have K := K.trans (H.keeps hNd g6 (.inr (.inr (.inl rfl))))
        have H := H.putY l9 g6
        refine ⟨(fun h => by cases h.symm.trans (show _ = true by kernel_rfl)), ?_⟩
        simp only [Act.put]
        refine doneB (by kernel_rfl) ?_ _
        have e3 : n3 = i + 1 := by have := l3.out; rw [List.length_append, HLX.out] at this; simp at this; omega
        have e7 : n7 = i + 1 := by have := l7.out; rw [List.length_append, HLY.out] at this; simp at this; omega
        subst e3 e7
        have cx9 := cell_of_one H.cx
        have cm9 := cell_of_one ((H.low gm hgmB hgmx hgmy).trans qm)
        gi_wp2_with fail
        exact ⟨K.less (fun r h => h.elim .inl (fun h => .inr (.inl h))), hk1, _, _, by rw [HPX.out, HPY.out]; exact H.keep (World.grownBy.refl _ none) (fun r e => by cases e) (fun r hr => .inl (.inl hr))⟩
      · refine op_build_lst (k := kT) 6 (some 22) 28 34 1 _ 40 [⟨kd, rd, ta, tb, up⟩] rfl rfl rfl rfl Tryd.underlying28 info_task rfl rfl (by simp [Act.eval, kT, Tk.cells]) (by omega) (by decide) ?_
        intro p6 w2 r6 b2 q6
        have ne6 := Held.apart_new H.ox q6.out
        have K := K.trans (H.keeps hNd (grown_of_below b2 none) (.inl rfl))
        have H := H.after b2
        have qt := qt.after b2
        have r2 := r2.below b2 r2.lt
        refine ⟨fun _ => ⟨H.cx, H.cy, qt⟩, ?_⟩
        simp only [Act.put, Z1, Z2, Z3]
        refine Held.oneB 3 (by kernel_rfl) ?_
        refine Bi.op_append_three 3 (some 19) 30 rfl rfl rfl rfl B 3 .i64 8 Tryd.underlying30 Bi.info_int (.slice A1 i c1) (numsI i) rfl H.ox _ (some ⟨p2, 0, none⟩) 1 1 [(i : Int)] rfl (by have := r2.ints (n := 1) (by simp); simpa using this) (by rw [HLX.out]; omega) (by omega) H.sz ?_
        intro A3 n3 c3 w3 o3 g3 t3 l3
        have K := K.trans (H.keeps hNd g3 (.inr (.inr (.inr (.inl rfl)))))
        have qt := qt.grown g3 (fun e => (H.pv gt (.inr rfl)).2.2.1 e.symm)
        have r6 := r6.grown g3 ne6
        have H := H.appX o3 g3 t3
        refine ⟨fun _ => ⟨H.cx, H.cy, qt⟩, ?_⟩
        simp only [Act.put, Z1, Z2, Z3]
        refine Held.oneB 7 (by kernel_rfl) ?_
        refine op_append_lst0 (k := kT) 7 (some 23) 28 34 rfl rfl rfl rfl Tryd.underlying28 _ 40 info_task rfl B _ 1 1 (some ⟨p6, 0, none⟩) (.slice A2 i c2) (l.take i) [⟨kd, rd, ta, tb, up⟩] rfl rfl H.oy (lst_whole r6 rfl wf6) (by rw [HLY.out]; omega) (by omega) H.sz ?_
        intro v7 w4 o7 g4 t7
        obtain ⟨A7, n7, c7, rfl, l7, _⟩ := o7.form2
        have K := K.trans (H.keeps hNd g4 (.inr (.inr (.inr (.inr rfl)))))
        have qt := qt.grown g4 (fun e => (H.pv gt (.inr rfl)).2.2.2 e.symm)
        have H := H.appY o7 g4 t7
        refine ⟨fun _ => ⟨H.cx, H.cy, qt⟩, ?_⟩
        simp only [Act.put, Z1, Z2, Z3]
        refine Held.oneB 8 (by kernel_rfl) ?_
        refine Held.op_store_box 8 none 30 gx 30 _ (.slice A3 n3 c3) rfl rfl rfl rfl rfl rfl H.cx (by kernel_rfl) rfl rfl ?_
        intro w5 l8 g5
        have K := K.trans (H.keeps hNd g5 (.inr (.inl rfl)))
        have H := H.putX l8 g5
        refine ⟨(fun h => by cases h.symm.trans (show _ = true by kernel_rfl)), ?_⟩
        simp only [Act.put]
        refine Held.oneB 9 (by kernel_rfl) ?_
        refine Held.op_store_box 9 none 28 gy 28 _ (.slice A7 n7 c7) rfl rfl rfl rfl rfl rfl H.cy (by kernel_rfl) rfl rfl ?_
        intro w6 l9 g6
        have K := K.trans (H.keeps hNd g6 (.inr (.inr (.inl rfl))))
        have H := H.putY l9 g6
        refine ⟨(fun h => by cases h.symm.trans (show _ = true by kernel_rfl)), ?_⟩
        simp only [Act.put]
        refine doneB (by kernel_rfl) ?_ _
        have e3 : n3 = i + 1 := by have := l3.out; rw [List.length_append, HLX.out] at this; simp at this; omega
        have e7 : n7 = i + 1 := by have := l7.out; rw [List.length_append, HLY.out] at this; simp at this; omega
        subst e3 e7
        have cx9 := cell_of_one H.cx
        have cm9 := cell_of_one ((H.low gm hgmB hgmx hgmy).trans qm)
        gi_wp2_with fail
        exact ⟨K.less (fun r h => h.elim .inl (fun h => .inr (.inl h))), hk1, _, _, by rw [HPX.out, HPY.out]; exact H.keep (World.grownBy.refl _ none) (fun r e => by cases e) (fun r hr => .inl (.inl hr))⟩
    · refine op_build_lst (k := kT) 6 (some 22) 28 34 1 _ 40 [⟨kd, rd, ta, tb, up⟩] rfl rfl rfl rfl Tryd.underlying28 info_task rfl rfl (by simp [Act.eval, kT, Tk.cells]) (by omega) (by decide) ?_
      intro p6 w1 r6 b1 q6
      have ne6 := Held.apart_new H.ox q6.out
      have K := K.trans (H.keeps hNd (grown_of_below b1 none) (.inl rfl))
      have H := H.after b1
      have qt := qt.after b1
      refine ⟨fun _ => ⟨H.cx, H.cy, qt⟩, ?_⟩
      simp only [Act.put, Z1, Z2, Z3]
      refine Held.oneB 2 (by kernel_rfl) ?_
      refine Held.op_build_Row 2 (some 18) 30 3 1 .i64 8 [(i : Int)] rfl rfl rfl rfl Tryd.underlying30 Bi.info_int (by simp [Act.eval]) rfl (by omega) (by omega) wf2 ?_
      intro p2 w2 r2 b2 q2
      have K := K.trans (H.keeps hNd (grown_of_below b2 none) (.inl rfl))
      have H := H.after b2
      have qt := qt.after b2
      have r6 := r6.after b2
      refine ⟨fun _ => ⟨H.cx, H.cy, qt⟩, ?_⟩
      simp only [Act.put, Z1, Z2, Z3]
      refine Held.oneB 3 (by kernel_rfl) ?_
      refine Bi.op_append_three 3 (some 19) 30 rfl rfl rfl rfl B 3 .i64 8 Tryd.underlying30 Bi.info_int (.slice A1 i c1) (numsI i) rfl H.ox _ (some ⟨p2, 0, none⟩) 1 1 [(i : Int)] rfl (by have := r2.ints (n := 1) (by simp); simpa using this) (by rw [HLX.out]; omega) (by omega) H.sz ?_
      intro A3 n3 c3 w3 o3 g3 t3 l3
      have K := K.trans (H.keeps hNd g3 (.inr (.inr (.inr (.inl rfl)))))
      have qt := qt.grown g3 (fun e => (H.pv gt (.inr rfl)).2.2.1 e.symm)
      have r6 := r6.grown g3 ne6
      have H := H.appX o3 g3 t3
      refine ⟨fun _ => ⟨H.cx, H.cy, qt⟩, ?_⟩
      simp only [Act.put, Z1, Z2, Z3]
      refine Held.oneB 7 (by kernel_rfl) ?_
      refine op_append_lst0 (k := kT) 7 (some 23) 28 34 rfl rfl rfl rfl Tryd.underlying28 _ 40 info_task rfl B _ 1 1 (some ⟨p6, 0, none⟩) (.slice A2 i c2) (l.take i) [⟨kd, rd, ta, tb, up⟩] rfl rfl H.oy (lst_whole r6 rfl wf6) (by rw [HLY.out]; omega) (by omega) H.sz ?_
      intro v7 w4 o7 g4 t7
      obtain ⟨A7, n7, c7, rfl, l7, _⟩ := o7.form2
      have K := K.trans (H.keeps hNd g4 (.inr (.inr (.inr (.inr rfl)))))
      have qt := qt.grown g4 (fun e => (H.pv gt (.inr rfl)).2.2.2 e.symm)
      have H := H.appY o7 g4 t7
      refine ⟨fun _ => ⟨H.cx, H.cy, qt⟩, ?_⟩
      simp only [Act.put, Z1, Z2, Z3]
      refine Held.oneB 8 (by kernel_rfl) ?_
      refine Held.op_store_box 8 none 30 gx 30 _ (.slice A3 n3 c3) rfl rfl rfl rfl rfl rfl H.cx (by kernel_rfl) rfl rfl ?_
      intro w5 l8 g5
      have K := K.trans (H.keeps hNd g5 (.inr (.inl rfl)))
      have H := H.putX l8 g5
      refine ⟨(fun h => by cases h.symm.trans (show _ = true by kernel_rfl)), ?_⟩
      simp only [Act.put]
      refine Held.oneB 9 (by kernel_rfl) ?_
      refine Held.op_store_box 9 none 28 gy 28 _ (.slice A7 n7 c7) rfl rfl rfl rfl rfl rfl H.cy (by kernel_rfl) rfl rfl ?_
      intro w6 l9 g6
      have K := K.trans (H.keeps hNd g6 (.inr (.inr (.inl rfl))))
      have H := H.putY l9 g6
      refine ⟨(fun h => by cases h.symm.trans (show _ = true by kernel_rfl)), ?_⟩
      simp only [Act.put]
      refine doneB (by kernel_rfl) ?_ _
      have e3 : n3 = i + 1 := by have := l3.out; rw [List.length_append, HLX.out] at this; simp at this; omega
      have e7 : n7 = i + 1 := by have := l7.out; rw [List.length_append, HLY.out] at this; simp at this; omega
      subst e3 e7
      have cx9 := cell_of_one H.cx
      have cm9 := cell_of_one ((H.low gm hgmB hgmx hgmy).trans qm)
      gi_wp2_with fail
      exact ⟨K.less (fun r h => h.elim .inl (fun h => .inr (.inl h))), hk1, _, _, by rw [HPX.out, HPY.out]; exact H.keep (World.grownBy.refl _ none) (fun r e => by cases e) (fun r hr => .inl (.inl hr))⟩
  case stop => exact fun _ _ _ _ _ h => h.elim
  case done =>
    rintro Dd pv i X hat ⟨hi, vx, vy, H⟩ hD hDl
    have hil : i = l.length := by
      rw [HAT.out] at hat
      rcases Nat.lt_or_ge i l.length with h | h
      · rw [List.getElem?_eq_getElem h] at hat; cases hat
      · omega
    subst hil
    rw [List.take_length] at H
    have HLX := Lib.hid (numsI_length l.length)
    obtain ⟨A1, c1, rfl, _⟩ := H.ox.form
    obtain ⟨A2, c2, rfl, _⟩ := H.oy.form
    rw [HLX.out] at H
    have hPD := (H.pv Dd hD).2.2
    have hDB : B ≤ Dd := (H.pv Dd hD).1
    have ra := (H.low ga (by omega) (by omega) (by omega)).trans qa
    have rb := (H.low gb (by omega) (by omega) (by omega)).trans qb
    have rc := (H.low gc (by omega) (by omega) (by omega)).trans qc
    clear hit
    go_wp2_with fail
    refine wp_region_held (S := fun _ => True) (by kernel_rfl) ?_
    change wpAnyH _ _ _ _ _ _ _ _ X.drew
    have H := H.after ((Below.refl X.heap.size X).drew)
    have ra : X.drew.heap[ga]? = _ := ra
    have rb : X.drew.heap[gb]? = _ := rb
    have rc : X.drew.heap[gc]? = _ := rc
    have hDl : X.drew.heap[Dd]? = _ := hDl
    generalize X.drew = X at *
    refine Held.two 0 1 (by kernel_rfl) ?_ ?_
    · refine Held.op_load 0 (some 28) 30 ⟨gx, 0, none⟩ (.slice A1 l.length c1) rfl rfl rfl rfl rfl (Held.run_loadVar_cell _ _ _ _ (by kernel_rfl) (cell_of_one H.cx)) ?_
      refine ⟨trivial, ?_⟩
      simp only [Act.put, Z1, Z2, Z3]
      refine Held.two 1 2 (by kernel_rfl) ?_ ?_
      · refine Held.op_load 1 (some 29) 28 ⟨gy, 0, none⟩ (.slice A2 l.length c2) rfl rfl rfl rfl rfl (Held.run_loadVar_cell _ _ _ _ (by kernel_rfl) (cell_of_one H.cy)) ?_
        refine ⟨trivial, ?_⟩
        simp only [Act.put, Z1, Z2, Z3]
        refine Held.one 2 (by kernel_rfl) ?_
        refine Held.op_store_box 2 none 30 ga 30 _ (.slice A1 l.length c1) rfl rfl rfl rfl rfl rfl ra (by kernel_rfl) rfl rfl ?_
        intro w1 l1 g1
        refine ⟨trivial, ?_⟩
        simp only [Act.put]
        have rb1 := Held.keep_cells rb g1 (by intro e; injection e with e; omega)
        have rc1 := Held.keep_cells rc g1 (by intro e; injection e with e; omega)
        refine Held.one 3 (by kernel_rfl) ?_
        refine Held.op_store_box 3 none 28 gb 28 _ (.slice A2 l.length c2) rfl rfl rfl rfl rfl rfl rb1 (by kernel_rfl) rfl rfl ?_
        intro w2 l2 g2
        refine ⟨trivial, ?_⟩
        simp only [Act.put]
        have rc2 := Held.keep_cells rc1 g2 (by intro e; injection e with e; omega)
        have la2 := Held.keep_cells l1 g2 (by intro e; injection e with e; omega)
        refine Held.one 4 (by kernel_rfl) ?_
        refine Held.op_store_box 4 none 4 gc 4 _ (.bool true) rfl rfl rfl rfl rfl rfl rc2 (by kernel_rfl) rfl rfl ?_
        intro w3 l3 g3
        refine ⟨trivial, ?_⟩
        simp only [Act.put]
        have la3 := Held.keep_cells la2 g3 (by intro e; injection e with e; omega)
        have lb3 := Held.keep_cells l2 g3 (by intro e; injection e with e; omega)
        refine wpAnyH_done (by kernel_rfl) ?_ _
        go_wp2_with fail
        have hD1 : w1.heap[Dd]? = some (.deferred (some [])) := (g1.block Dd (by have := (Array.getElem?_eq_some_iff.1 hDl).1; exact this) (by intro e; injection e with e; omega)).trans hDl
        have hD2 : w2.heap[Dd]? = some (.deferred (some [])) := (g2.block Dd (Array.getElem?_eq_some_iff.1 hD1).1 (by intro e; injection e with e; omega)).trans hD1
        have hD3 : w3.heap[Dd]? = some (.deferred (some [])) := (g3.block Dd (Array.getElem?_eq_some_iff.1 hD2).1 (by intro e; injection e with e; omega)).trans hD2
        have gD := grownBy_putObj' w3 Dd (.deferred none)
        have nD : ∀ b : Nat, b < B → some b ≠ some Dd := fun b hb e => by injection e with e; omega
        have nX : ∀ b : Nat, b < B → (Value.slice A1 l.length c1).ownBlock ≠ some b := fun b hb e => by have := (H.ox.2.lt b e).1; omega
        have nY : ∀ b : Nat, b < B → (Value.slice A2 l.length c2).ownBlock ≠ some b := fun b hb e => by have := (H.oy.lt b e).1; omega
        have ox3 := ((H.ox.kept g1 (.inr (nX ga (by omega)))).kept g2 (.inr (nX gb (by omega)))).kept g3 (.inr (nX gc (by omega)))
        have oy3 := ((H.oy.kept g1 (.inr (nY ga (by omega)))).kept g2 (.inr (nY gb (by omega)))).kept g3 (.inr (nY gc (by omega)))
        have ox4 := ox3.kept gD (.inr hPD.1)
        have oy4 := oy3.kept gD (.inr hPD.2)
        have la4 := Held.keep_cells la3 gD (nD ga (by omega))
        have lb4 := Held.keep_cells lb3 gD (nD gb (by omega))
        have lc4 := Held.keep_cells l3 gD (nD gc (by omega))
        have hw1 := g1.size
        have hw2 := g2.size
        have hw3 := g3.size
        have hsz := H.sz
        have bW : Below w.heap.size w X := H.bel
        have bl := (((bW.grown g1 (by omega) (fun r e => by cases e; omega)).grown g2 (by omega) (fun r e => by cases e; omega)).grown g3 (by omega) (fun r e => by cases e; omega)).grown gD (by omega) (fun r e => by cases e; omega)
        refine ⟨by simp, .inl ⟨_, _, rfl, run_takeDeferred hD3, ?_⟩⟩
        exact ⟨_, Bi.results_three rfl _ _ ga gb gc _ _ _ rfl rfl rfl (by kernel_rfl) (by kernel_rfl) (by kernel_rfl) (cell_of_one la4) (cell_of_one lb4) (cell_of_one lc4), A1, c1, A2, c2, rfl, ox4.less (by omega), oy4.less (by omega), bl⟩
      · refine Held.op_store_box 2 none 30 ga 30 _ (.slice A1 l.length c1) rfl rfl rfl rfl rfl rfl ra (by kernel_rfl) rfl rfl ?_
        intro w1 l1 g1
        refine ⟨trivial, ?_⟩
        simp only [Act.put]
        have rb1 := Held.keep_cells rb g1 (by intro e; injection e with e; omega)
        have rc1 := Held.keep_cells rc g1 (by intro e; injection e with e; omega)
        refine Held.one 1 (by kernel_rfl) ?_
        refine Held.op_load 1 (some 29) 28 ⟨gy, 0, none⟩ (.slice A2 l.length c2) rfl rfl rfl rfl rfl (Held.run_loadVar_cell _ _ _ _ (by kernel_rfl) (cell_of_one (Held.keep_cells H.cy g1 (by intro e; injection e with e; have := H.lx; have := H.ly; omega)))) ?_
        refine ⟨trivial, ?_⟩
        simp only [Act.put, Z1, Z2, Z3]
        refine Held.one 3 (by kernel_rfl) ?_
        refine Held.op_store_box 3 none 28 gb 28 _ (.slice A2 l.length c2) rfl rfl rfl rfl rfl rfl rb1 (by kernel_rfl) rfl rfl ?_
        intro w2 l2 g2
        refine ⟨trivial, ?_⟩
        simp only [Act.put]
        have rc2 := Held.keep_cells rc1 g2 (by intro e; injection e with e; omega)
        have la2 := Held.keep_cells l1 g2 (by intro e; injection e with e; omega)
        refine Held.one 4 (by kernel_rfl) ?_
        refine Held.op_store_box 4 none 4 gc 4 _ (.bool true) rfl rfl rfl rfl rfl rfl rc2 (by kernel_rfl) rfl rfl ?_
        intro w3 l3 g3
        refine ⟨trivial, ?_⟩
        simp only [Act.put]
        have la3 := Held.keep_cells la2 g3 (by intro e; injection e with e; omega)
        have lb3 := Held.keep_cells l2 g3 (by intro e; injection e with e; omega)
        refine wpAnyH_done (by kernel_rfl) ?_ _
        go_wp2_with fail
        have hD1 : w1.heap[Dd]? = some (.deferred (some [])) := (g1.block Dd (by have := (Array.getElem?_eq_some_iff.1 hDl).1; exact this) (by intro e; injection e with e; omega)).trans hDl
        have hD2 : w2.heap[Dd]? = some (.deferred (some [])) := (g2.block Dd (Array.getElem?_eq_some_iff.1 hD1).1 (by intro e; injection e with e; omega)).trans hD1
        have hD3 : w3.heap[Dd]? = some (.deferred (some [])) := (g3.block Dd (Array.getElem?_eq_some_iff.1 hD2).1 (by intro e; injection e with e; omega)).trans hD2
        have gD := grownBy_putObj' w3 Dd (.deferred none)
        have nD : ∀ b : Nat, b < B → some b ≠ some Dd := fun b hb e => by injection e with e; omega
        have nX : ∀ b : Nat, b < B → (Value.slice A1 l.length c1).ownBlock ≠ some b := fun b hb e => by have := (H.ox.2.lt b e).1; omega
        have nY : ∀ b : Nat, b < B → (Value.slice A2 l.length c2).ownBlock ≠ some b := fun b hb e => by have := (H.oy.lt b e).1; omega
        have ox3 := ((H.ox.kept g1 (.inr (nX ga (by omega)))).kept g2 (.inr (nX gb (by omega)))).kept g3 (.inr (nX gc (by omega)))
        have oy3 := ((H.oy.kept g1 (.inr (nY ga (by omega)))).kept g2 (.inr (nY gb (by omega)))).kept g3 (.inr (nY gc (by omega)))
        have ox4 := ox3.kept gD (.inr hPD.1)
        have oy4 := oy3.kept gD (.inr hPD.2)
        have la4 := Held.keep_cells la3 gD (nD ga (by omega))
        have lb4 := Held.keep_cells lb3 gD (nD gb (by omega))
        have lc4 := Held.keep_cells l3 gD (nD gc (by omega))
        have hw1 := g1.size
        have hw2 := g2.size
        have hw3 := g3.size
        have hsz := H.sz
        have bW : Below w.heap.size w X := H.bel
        have bl := (((bW.grown g1 (by omega) (fun r e => by cases e; omega)).grown g2 (by omega) (fun r e => by cases e; omega)).grown g3 (by omega) (fun r e => by cases e; omega)).grown gD (by omega) (fun r e => by cases e; omega)
        refine ⟨by simp, .inl ⟨_, _, rfl, run_takeDeferred hD3, ?_⟩⟩
        exact ⟨_, Bi.results_three rfl _ _ ga gb gc _ _ _ rfl rfl rfl (by kernel_rfl) (by kernel_rfl) (by kernel_rfl) (cell_of_one la4) (cell_of_one lb4) (cell_of_one lc4), A1, c1, A2, c2, rfl, ox4.less (by omega), oy4.less (by omega), bl⟩
    · refine Held.op_load 1 (some 29) 28 ⟨gy, 0, none⟩ (.slice A2 l.length c2) rfl rfl rfl rfl rfl (Held.run_loadVar_cell _ _ _ _ (by kernel_rfl) (cell_of_one H.cy)) ?_
      refine ⟨trivial, ?_⟩
      simp only [Act.put, Z1, Z2, Z3]
      refine Held.one 0 (by kernel_rfl) ?_
      refine Held.op_load 0 (some 28) 30 ⟨gx, 0, none⟩ (.slice A1 l.length c1) rfl rfl rfl rfl rfl (Held.run_loadVar_cell _ _ _ _ (by kernel_rfl) (cell_of_one H.cx)) ?_
      refine ⟨trivial, ?_⟩
      simp only [Act.put, Z1, Z2, Z3]
      refine Held.one 2 (by kernel_rfl) ?_
      refine Held.op_store_box 2 none 30 ga 30 _ (.slice A1 l.length c1) rfl rfl rfl rfl rfl rfl ra (by kernel_rfl) rfl rfl ?_
      intro w1 l1 g1
      refine ⟨trivial, ?_⟩
      simp only [Act.put]
      have rb1 := Held.keep_cells rb g1 (by intro e; injection e with e; omega)
      have rc1 := Held.keep_cells rc g1 (by intro e; injection e with e; omega)
      refine Held.one 3 (by kernel_rfl) ?_
      refine Held.op_store_box 3 none 28 gb 28 _ (.slice A2 l.length c2) rfl rfl rfl rfl rfl rfl rb1 (by kernel_rfl) rfl rfl ?_
      intro w2 l2 g2
      refine ⟨trivial, ?_⟩
      simp only [Act.put]
      have rc2 := Held.keep_cells rc1 g2 (by intro e; injection e with e; omega)
      have la2 := Held.keep_cells l1 g2 (by intro e; injection e with e; omega)
      refine Held.one 4 (by kernel_rfl) ?_
      refine Held.op_store_box 4 none 4 gc 4 _ (.bool true) rfl rfl rfl rfl rfl rfl rc2 (by kernel_rfl) rfl rfl ?_
      intro w3 l3 g3
      refine ⟨trivial, ?_⟩
      simp only [Act.put]
      have la3 := Held.keep_cells la2 g3 (by intro e; injection e with e; omega)
      have lb3 := Held.keep_cells l2 g3 (by intro e; injection e with e; omega)
      refine wpAnyH_done (by kernel_rfl) ?_ _
      go_wp2_with fail
      have hD1 : w1.heap[Dd]? = some (.deferred (some [])) := (g1.block Dd (by have := (Array.getElem?_eq_some_iff.1 hDl).1; exact this) (by intro e; injection e with e; omega)).trans hDl
      have hD2 : w2.heap[Dd]? = some (.deferred (some [])) := (g2.block Dd (Array.getElem?_eq_some_iff.1 hD1).1 (by intro e; injection e with e; omega)).trans hD1
      have hD3 : w3.heap[Dd]? = some (.deferred (some [])) := (g3.block Dd (Array.getElem?_eq_some_iff.1 hD2).1 (by intro e; injection e with e; omega)).trans hD2
      have gD := grownBy_putObj' w3 Dd (.deferred none)
      have nD : ∀ b : Nat, b < B → some b ≠ some Dd := fun b hb e => by injection e with e; omega
      have nX : ∀ b : Nat, b < B → (Value.slice A1 l.length c1).ownBlock ≠ some b := fun b hb e => by have := (H.ox.2.lt b e).1; omega
      have nY : ∀ b : Nat, b < B → (Value.slice A2 l.length c2).ownBlock ≠ some b := fun b hb e => by have := (H.oy.lt b e).1; omega
      have ox3 := ((H.ox.kept g1 (.inr (nX ga (by omega)))).kept g2 (.inr (nX gb (by omega)))).kept g3 (.inr (nX gc (by omega)))
      have oy3 := ((H.oy.kept g1 (.inr (nY ga (by omega)))).kept g2 (.inr (nY gb (by omega)))).kept g3 (.inr (nY gc (by omega)))
      have ox4 := ox3.kept gD (.inr hPD.1)
      have oy4 := oy3.kept gD (.inr hPD.2)
      have la4 := Held.keep_cells la3 gD (nD ga (by omega))
      have lb4 := Held.keep_cells lb3 gD (nD gb (by omega))
      have lc4 := Held.keep_cells l3 gD (nD gc (by omega))
      have hw1 := g1.size
      have hw2 := g2.size
      have hw3 := g3.size
      have hsz := H.sz
      have bW : Below w.heap.size w X := H.bel
      have bl := (((bW.grown g1 (by omega) (fun r e => by cases e; omega)).grown g2 (by omega) (fun r e => by cases e; omega)).grown g3 (by omega) (fun r e => by cases e; omega)).grown gD (by omega) (fun r e => by cases e; omega)
      refine ⟨by simp, .inl ⟨_, _, rfl, run_takeDeferred hD3, ?_⟩⟩
      exact ⟨_, Bi.results_three rfl _ _ ga gb gc _ _ _ rfl rfl rfl (by kernel_rfl) (by kernel_rfl) (by kernel_rfl) (cell_of_one la4) (cell_of_one lb4) (cell_of_one lc4), A1, c1, A2, c2, rfl, ox4.less (by omega), oy4.less (by omega), bl⟩
end Go.Proofs.YtipmfficjomcoaaDoor.Sh
