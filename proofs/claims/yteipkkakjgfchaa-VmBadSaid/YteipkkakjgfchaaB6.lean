/-
  Package vm's Map, by its contract.
  The first line of stage 11's laws, by its contract.
-/
import Derived.Test.YteipkkakjgfchaaB5
import Derived.Test.YteipkkakjgfchaaB3
set_option linter.unusedVariables false
namespace Go.Proofs.Yteipkkakjgfchaa.Vm
open Go.RowKit Go.Shelf Go.Proofs.Yteipkkakjgfchaa Mem Held Go.Proofs.Yteipkkakjgfchaa.Range Rc Rs Sl
attribute [local irreducible] wpList wpListIn Calls
theorem info_mach : (Try.prog.info? 52).map (·.size) = some 10 := by kernel_rfl
set_option maxRecDepth 100000 in
set_option maxHeartbeats 8000000 in
theorem map_ok (B : Nat) (k : Nat) (A1 A2 A3 : Option Addr) (n1 c1 n2 c2 n3 c3 : Nat) (m f fi : List O) (n key val : Int) (w : World) (hn : (Lit.int .i64 n).wf = true) (hk : (Lit.int .i64 key).wf = true) (hv : (Lit.int .i64 val).wf = true) (h1 : Lst kO w B A1 n1 m) (h2 : Lst kO w B A2 n2 f) (h3 : Lst kO w B A3 n3 fi) (hB : B ≤ w.heap.size) (hC : checkB (k : Int) m f fi = true) :
    Calls Try.prog 11 #[.agg #[.int .i64 (k : Int), .slice A1 n1 c1, .slice A2 n2 c2, .slice A3 n3 c3], .int .i64 n, .agg #[.int .i64 key, .int .i64 val]] w fun e w' => ∃ g, e = .returned (.slice (some ⟨g, 0, none⟩) k k) ∧ Blk w' g 36 (flat kR (mapR (k : Int) m f fi n key val)).toArray ∧ w.heap.size ≤ g ∧ Below w.heap.size w w' := by
  obtain ⟨hK1, hK4, hmm, hmf, hme⟩ := checkB_says hC
  have hk1 : 1 ≤ k := by omega
  have hk4 : k ≤ 4 := by omega
  have HC := Lib.hid (show checkE (k : Int) m f fi = 0 by rw [checkE, if_pos hC])
  have HV := Lib.hid (show mapR (k : Int) m f fi n key val = runOut (wrap64 (n * (k : Int))) m [key, val, n, 0, 0, 0, 0, 0] (List.replicate k RD) by rw [mapR, if_pos hC, Int.toNat_natCast])
  rw [HV.out]
  clear HV hmf hme hK1 hK4 hC
  go_enter Try.func11, Try.ntmps11
  go_wp2_with (first
    | (refine wpList_box_blk (w := w) rfl 27 _ rfl #[.int .i64 (k : Int), .slice A1 n1 c1, .slice A2 n2 c2, .slice A3 n3 c3] rfl ?_; intro u1 qa g1 z1)
    | (refine wpList_box_blk (w := u1) rfl 40 _ rfl #[.int .i64 key, .int .i64 val] rfl ?_; intro u2 qp g2 z2; have qa := qa.grown g2 (by simp); have b1 : Below w.heap.size w u2 := ((Below.refl _ w).grown g1 (Nat.le_refl _) (by simp)).grown g2 g1.size (by simp); have hpl : w.heap.size ≤ u1.heap.size := g1.size; have L1 := h1.below (b1.mono hB); have L2 := h2.below (b1.mono hB); have L3 := h3.below (b1.mono hB); clear h1 h2 h3 g1 z1 g2 z2)
    | (refine wpList_load_blk (w := u2) rfl 27 _ rfl w.heap.size 4 rfl 27 _ qa _ Try.underlying27 rfl info_prog rfl ?_))
  refine (check_any B (k : Int) A1 A2 A3 n1 c1 n2 c2 n3 c3 m f fi u2 L1 L2 L3 (Nat.le_trans hB b1.size)).mono ?_
  rintro e u3 ⟨rfl, b3⟩
  rw [HC.out]
  have qa := qa.after b3
  have qp := qp.after b3
  have L1 := L1.below (b3.mono (Nat.le_trans hB b1.size))
  have b3 := b1.trans (b3.mono b1.size)
  clear b1 L2 L3 HC
  go_wp2_with fail
  refine wp_mono (Q := fun e a' w' => e = .normal ∧ ∃ gb gs gm, a' = { tmps := #[.agg #[.int .i64 (k : Int), .slice A1 n1 c1, .slice A2 n2 c2, .slice A3 n3 c3], .int .i64 n, .agg #[.int .i64 key, .int .i64 val], .pointer (some ⟨w.heap.size, 0, none⟩), undef, .pointer (some ⟨u1.heap.size, 0, none⟩), .slice none 0 0, .pointer (some ⟨gm, 0, none⟩), .agg #[.int .i64 (k : Int), .slice A1 n1 c1, .slice A2 n2 c2, .slice A3 n3 c3], .int .i64 0, .bool false, .agg #[.bool true, .int .i64 0, .int .i64 0, .int .i64 0], .slice (some ⟨gb, 0, none⟩) 1 1, .pointer (some ⟨w.heap.size, 0, none⟩), .int .i64 (k : Int), .slice (some ⟨gs, 0, none⟩) k k, .int .i64 n, .pointer (some ⟨w.heap.size, 0, none⟩), .int .i64 (k : Int), .int .i64 (wrap64 (n * (k : Int))), .agg #[.int .i64 0, .int .i64 0, .int .i64 0, .int .i64 0, .int .i64 0, .int .i64 0, .int .i64 0, .int .i64 0, .slice (some ⟨gs, 0, none⟩) k k, .int .i64 (wrap64 (n * (k : Int)))], undef, undef, undef, undef, undef, undef, undef, undef, undef, undef, undef], defers := [] } ∧ Blk w' gs 36 (flat kR (List.replicate k RD)).toArray ∧ Blk w' gm 52 #[.int .i64 0, .int .i64 0, .int .i64 0, .int .i64 0, .int .i64 0, .int .i64 0, .int .i64 0, .int .i64 0, .slice (some ⟨gs, 0, none⟩) k k, .int .i64 (wrap64 (n * (k : Int)))] ∧ gs ≠ gm ∧ u3.heap.size ≤ gs ∧ u3.heap.size ≤ gm ∧ Below u3.heap.size u3 w') ?_ ?_
  · refine wp_region_held (S := fun W => Below u3.heap.size u3 W) (by kernel_rfl) ?_
    change wpAnyH _ _ _ _ _ _ _ _ u3.drew
    have c0_0 := (Below.refl u3.heap.size u3).drew
    refine Held.take (v := .agg #[.bool true, .int .i64 0, .int .i64 0, .int .i64 0]) 0 (some 11) rfl rfl (by kernel_rfl) (by kernel_rfl) (by kernel_rfl) (fun _ _ _ h => by cases h.1) rfl (Held.y_build rfl (by kernel_rfl)) c0_0 ?_
    simp only [Act.put, Z1, Z2, Z3]
    refine Held.take (v := .pointer (some ⟨w.heap.size, 0, none⟩)) 2 (some 13) rfl rfl (by kernel_rfl) (by kernel_rfl) (by kernel_rfl) (fun _ _ _ h => by cases h.1) rfl (Held.y_field (k := 0) (s := 0) rfl rfl Try.underlying27 rfl (by kernel_rfl) rfl) c0_0 ?_
    simp only [Act.put, Z1, Z2, Z3]
    refine Held.take (v := .int .i64 (k : Int)) 3 (some 14) rfl rfl (by kernel_rfl) (by kernel_rfl) (by kernel_rfl) (fun _ _ _ h => by cases h.1) rfl (Held.y_load rfl rfl (by kernel_rfl) (fun W hW => (qa.below hW qa.lt).cell rfl)) c0_0 ?_
    simp only [Act.put, Z1, Z2, Z3]
    refine Held.take (v := .int .i64 n) 5 (some 16) rfl rfl (by kernel_rfl) (by kernel_rfl) (by kernel_rfl) (fun _ _ _ h => by cases h.1) rfl (Held.y_move rfl rfl) c0_0 ?_
    simp only [Act.put, Z1, Z2, Z3]
    refine Held.take (v := .pointer (some ⟨w.heap.size, 0, none⟩)) 6 (some 17) rfl rfl (by kernel_rfl) (by kernel_rfl) (by kernel_rfl) (fun _ _ _ h => by cases h.1) rfl (Held.y_field (k := 0) (s := 0) rfl rfl Try.underlying27 rfl (by kernel_rfl) rfl) c0_0 ?_
    simp only [Act.put, Z1, Z2, Z3]
    refine Held.take (v := .int .i64 (k : Int)) 7 (some 18) rfl rfl (by kernel_rfl) (by kernel_rfl) (by kernel_rfl) (fun _ _ _ h => by cases h.1) rfl (Held.y_load rfl rfl (by kernel_rfl) (fun W hW => (qa.below hW qa.lt).cell rfl)) c0_0 ?_
    simp only [Act.put, Z1, Z2, Z3]
    refine Held.take (v := .int .i64 (wrap64 (n * (k : Int)))) 8 (some 19) rfl rfl (by kernel_rfl) (by kernel_rfl) (by kernel_rfl) (fun _ _ _ h => by cases h.1) rfl (Held.y_int rfl rfl rfl (Held.run_mul 2 .i64 (w64 _))) c0_0 ?_
    simp only [Act.put, Z1, Z2, Z3]
    refine Held.two 1 10 (by kernel_rfl) ?_ ?_
    · refine op_build_lst (k := kR) 1 (some 12) 34 36 1 _ 32 [RD] rfl rfl rfl rfl Try.underlying34 info_rec3 rfl rfl (by simp [Act.eval, kR, R.cells, RD]) (by omega) (by decide) ?_
      intro gb w1 qb b1 hb1
      have hgb := Nat.le_trans c0_0.size hb1.out
      have c0_1 := c0_0.trans (b1.mono c0_0.size)
      refine ⟨c0_1, ?_⟩
      simp only [Act.put, Z1, Z2, Z3]
      refine Held.two 4 10 (by kernel_rfl) ?_ ?_
      · refine Held.op_call 4 (some 15) 20 #[.slice (some ⟨gb, 0, none⟩) 1 1, .int .i64 (k : Int)] rfl rfl rfl rfl (enters_of Try.func20 (by kernel_rfl) rfl) (by simp [Act.eval])
          (repeat_any _ (some ⟨gb, 0, none⟩) 1 k RD _ (lst_whole qb rfl (fun x hx => by rw [List.mem_singleton.1 hx]; exact ⟨rfl, rfl, rfl⟩)) (Nat.le_refl _) hk1 hk4) ?_
        rintro e w2 ⟨gs, rfl, qs, hgs_, b2⟩
        have c0_2 := c0_1.trans (b2.mono c0_1.size)
        have hgs := Nat.le_trans c0_1.size hgs_
        have qs_lt := qs.lt
        refine ⟨_, rfl, c0_2, ?_⟩
        simp only [Act.put, Z1, Z2, Z3]
        refine Held.take (v := .agg #[.int .i64 0, .int .i64 0, .int .i64 0, .int .i64 0, .int .i64 0, .int .i64 0, .int .i64 0, .int .i64 0, .slice (some ⟨gs, 0, none⟩) k k, .int .i64 (wrap64 (n * (k : Int)))]) 9 (some 20) rfl rfl (by kernel_rfl) (by kernel_rfl) (by kernel_rfl) (fun _ _ _ h => by cases h.1) rfl (Held.y_build rfl (by kernel_rfl)) c0_2 ?_
        simp only [Act.put, Z1, Z2, Z3]
        refine Held.one 10 (by kernel_rfl) ?_
        refine op_alloc_blk 10 (some 7) 52 _ rfl rfl rfl rfl zero_mach ?_
        intro gm w3 qm b3 hb3
        have hgm := Nat.le_trans c0_2.size hb3.out
        have qs := qs.after b3
        have hsm : gs ≠ gm := fun e => absurd (Nat.lt_of_lt_of_le qs_lt hb3.out) (by rw [e]; exact Nat.lt_irrefl _)
        have c0_3 := c0_2.trans (b3.mono c0_2.size)
        refine ⟨c0_3, ?_⟩
        simp only [Act.put, Z1, Z2, Z3]
        refine Held.one 11 (by kernel_rfl) ?_
        refine Held.op_store_blk 11 none 52 gm 10 52 _ #[.int .i64 0, .int .i64 0, .int .i64 0, .int .i64 0, .int .i64 0, .int .i64 0, .int .i64 0, .int .i64 0, .slice (some ⟨gs, 0, none⟩) k k, .int .i64 (wrap64 (n * (k : Int)))] rfl rfl rfl rfl rfl rfl qm info_mach rfl rfl (by kernel_rfl) ?_
        intro w4 qz g4
        have c0_4 := c0_3.grown g4 c0_3.size (fun r e => by cases e; exact hgm)
        have qy := qs.grown g4 (by intro e; injection e with e; exact hsm e)
        refine ⟨c0_4, ?_⟩
        simp only [Act.put]
        refine wpAnyH_done (by kernel_rfl) ?_ _
        exact ⟨rfl, gb, gs, gm, rfl, qy, qz, hsm, hgs, hgm, c0_4⟩
      · refine op_alloc_blk 10 (some 7) 52 _ rfl rfl rfl rfl zero_mach ?_
        intro gm w2 qm b2 hb2
        have hgm := Nat.le_trans c0_1.size hb2.out
        have qb := qb.after b2
        have c0_2 := c0_1.trans (b2.mono c0_1.size)
        refine ⟨c0_2, ?_⟩
        simp only [Act.put, Z1, Z2, Z3]
        refine Held.one 4 (by kernel_rfl) ?_
        refine Held.op_call 4 (some 15) 20 #[.slice (some ⟨gb, 0, none⟩) 1 1, .int .i64 (k : Int)] rfl rfl rfl rfl (enters_of Try.func20 (by kernel_rfl) rfl) (by simp [Act.eval])
          (repeat_any _ (some ⟨gb, 0, none⟩) 1 k RD _ (lst_whole qb rfl (fun x hx => by rw [List.mem_singleton.1 hx]; exact ⟨rfl, rfl, rfl⟩)) (Nat.le_refl _) hk1 hk4) ?_
        rintro e w3 ⟨gs, rfl, qs, hgs_, b3⟩
        have c0_3 := c0_2.trans (b3.mono c0_2.size)
        have hgs := Nat.le_trans c0_2.size hgs_
        have hsm : gs ≠ gm := fun e => absurd qm.lt (by rw [← e]; exact Nat.not_lt.2 hgs_)
        have qm := qm.after b3
        refine ⟨_, rfl, c0_3, ?_⟩
        simp only [Act.put, Z1, Z2, Z3]
        refine Held.take (v := .agg #[.int .i64 0, .int .i64 0, .int .i64 0, .int .i64 0, .int .i64 0, .int .i64 0, .int .i64 0, .int .i64 0, .slice (some ⟨gs, 0, none⟩) k k, .int .i64 (wrap64 (n * (k : Int)))]) 9 (some 20) rfl rfl (by kernel_rfl) (by kernel_rfl) (by kernel_rfl) (fun _ _ _ h => by cases h.1) rfl (Held.y_build rfl (by kernel_rfl)) c0_3 ?_
        simp only [Act.put, Z1, Z2, Z3]
        refine Held.one 11 (by kernel_rfl) ?_
        refine Held.op_store_blk 11 none 52 gm 10 52 _ #[.int .i64 0, .int .i64 0, .int .i64 0, .int .i64 0, .int .i64 0, .int .i64 0, .int .i64 0, .int .i64 0, .slice (some ⟨gs, 0, none⟩) k k, .int .i64 (wrap64 (n * (k : Int)))] rfl rfl rfl rfl rfl rfl qm info_mach rfl rfl (by kernel_rfl) ?_
        intro w4 qz g4
        have c0_4 := c0_3.grown g4 c0_3.size (fun r e => by cases e; exact hgm)
        have qy := qs.grown g4 (by intro e; injection e with e; exact hsm e)
        refine ⟨c0_4, ?_⟩
        simp only [Act.put]
        refine wpAnyH_done (by kernel_rfl) ?_ _
        exact ⟨rfl, gb, gs, gm, rfl, qy, qz, hsm, hgs, hgm, c0_4⟩
    · refine op_alloc_blk 10 (some 7) 52 _ rfl rfl rfl rfl zero_mach ?_
      intro gm w1 qm b1 hb1
      have hgm := Nat.le_trans c0_0.size hb1.out
      have c0_1 := c0_0.trans (b1.mono c0_0.size)
      refine ⟨c0_1, ?_⟩
      simp only [Act.put, Z1, Z2, Z3]
      refine Held.one 1 (by kernel_rfl) ?_
      refine op_build_lst (k := kR) 1 (some 12) 34 36 1 _ 32 [RD] rfl rfl rfl rfl Try.underlying34 info_rec3 rfl rfl (by simp [Act.eval, kR, R.cells, RD]) (by omega) (by decide) ?_
      intro gb w2 qb b2 hb2
      have hgb := Nat.le_trans c0_1.size hb2.out
      have qm := qm.after b2
      have c0_2 := c0_1.trans (b2.mono c0_1.size)
      refine ⟨c0_2, ?_⟩
      simp only [Act.put, Z1, Z2, Z3]
      refine Held.one 4 (by kernel_rfl) ?_
      refine Held.op_call 4 (some 15) 20 #[.slice (some ⟨gb, 0, none⟩) 1 1, .int .i64 (k : Int)] rfl rfl rfl rfl (enters_of Try.func20 (by kernel_rfl) rfl) (by simp [Act.eval])
        (repeat_any _ (some ⟨gb, 0, none⟩) 1 k RD _ (lst_whole qb rfl (fun x hx => by rw [List.mem_singleton.1 hx]; exact ⟨rfl, rfl, rfl⟩)) (Nat.le_refl _) hk1 hk4) ?_
      rintro e w3 ⟨gs, rfl, qs, hgs_, b3⟩
      have c0_3 := c0_2.trans (b3.mono c0_2.size)
      have hgs := Nat.le_trans c0_2.size hgs_
      have hsm : gs ≠ gm := fun e => absurd qm.lt (by rw [← e]; exact Nat.not_lt.2 hgs_)
      have qm := qm.after b3
      refine ⟨_, rfl, c0_3, ?_⟩
      simp only [Act.put, Z1, Z2, Z3]
      refine Held.take (v := .agg #[.int .i64 0, .int .i64 0, .int .i64 0, .int .i64 0, .int .i64 0, .int .i64 0, .int .i64 0, .int .i64 0, .slice (some ⟨gs, 0, none⟩) k k, .int .i64 (wrap64 (n * (k : Int)))]) 9 (some 20) rfl rfl (by kernel_rfl) (by kernel_rfl) (by kernel_rfl) (fun _ _ _ h => by cases h.1) rfl (Held.y_build rfl (by kernel_rfl)) c0_3 ?_
      simp only [Act.put, Z1, Z2, Z3]
      refine Held.one 11 (by kernel_rfl) ?_
      refine Held.op_store_blk 11 none 52 gm 10 52 _ #[.int .i64 0, .int .i64 0, .int .i64 0, .int .i64 0, .int .i64 0, .int .i64 0, .int .i64 0, .int .i64 0, .slice (some ⟨gs, 0, none⟩) k k, .int .i64 (wrap64 (n * (k : Int)))] rfl rfl rfl rfl rfl rfl qm info_mach rfl rfl (by kernel_rfl) ?_
      intro w4 qz g4
      have c0_4 := c0_3.grown g4 c0_3.size (fun r e => by cases e; exact hgm)
      have qy := qs.grown g4 (by intro e; injection e with e; exact hsm e)
      refine ⟨c0_4, ?_⟩
      simp only [Act.put]
      refine wpAnyH_done (by kernel_rfl) ?_ _
      exact ⟨rfl, gb, gs, gm, rfl, qy, qz, hsm, hgs, hgm, c0_4⟩
  · rintro e a' v1 ⟨rfl, gb, gs, gm, rfl, qs, qm, hsm, hgs, hgm, cz⟩
    have qa := qa.after cz
    have qp := qp.after cz
    have L1 := L1.below (cz.mono (Nat.le_trans hB b3.size))
    have bz := b3.trans (cz.mono b3.size)
    have hlm := qm.lt
    have hls := qs.lt
    have hc1 := qa.cell (i := 1) rfl
    have hp0 := qp.cell (i := 0) rfl
    have hp1 := qp.cell (i := 1) rfl
    have s3 := b3.size
    clear cz
    have HWF := Lib.hid (show ∀ z ∈ [key, val, n], (Lit.int .i64 z).wf = true from fun z hz => by
      rcases List.mem_cons.1 hz with rfl | hz
      · exact hk
      · rcases List.mem_cons.1 hz with rfl | hz
        · exact hv
        · rw [List.mem_singleton.1 hz]; exact hn)
    go_wp2_with (first
      | (refine wpList_run (w := v1) rfl (v := .pointer (some ⟨w.heap.size, 1, none⟩)) (Held.y_field (S := fun _ => True) (k := 1) (s := 0) rfl rfl Try.underlying27 rfl (by kernel_rfl) rfl _ trivial) ?_)
      | (refine wpList_run (w := v1) rfl (v := .pointer (some ⟨u1.heap.size, 0, none⟩)) (Held.y_field (S := fun _ => True) (k := 0) (s := 0) rfl rfl Try.underlying40 rfl (by kernel_rfl) rfl _ trivial) ?_)
      | (refine wpList_run (w := v1) rfl (v := .pointer (some ⟨u1.heap.size, 1, none⟩)) (Held.y_field (S := fun _ => True) (k := 1) (s := 0) rfl rfl Try.underlying40 rfl (by kernel_rfl) rfl _ trivial) ?_)
      | (refine Held.wpList_build_row (w := v1) rfl 28 2 3 _ rfl .i64 8 [key, val, n] Try.underlying28 info_i64 (by simp [Act.eval]) rfl (by omega) (by omega) HWF.out ?_; intro w4 r4 g4 z4))
    have b4 : Below u3.heap.size v1 w4 := (Below.refl _ v1).grown g4 (by omega) (by simp)
    have qm4 : Blk w4 gm 52 (mach (List.replicate 8 0) (.slice (some ⟨gs, 0, none⟩) k k) (wrap64 (n * (k : Int)))) := qm.grown g4 (by simp)
    have qs4 := qs.grown g4 (by simp)
    have L4 := L1.below (b4.mono (Nat.le_trans hB s3))
    have b4z := bz.trans (b4.mono s3)
    have l4 := r4.lt
    have s4 := b4z.size
    refine (run_any u3.heap.size B w4.heap.size gm gs A1 (some ⟨v1.heap.size, 0, none⟩) (some ⟨gs, 0, none⟩) n1 c1 3 3 k k m [key, val, n] (wrap64 (n * (k : Int))) (List.replicate k RD) w4 L4 (r4.ints (by simp)) (Nat.le_trans hB s3) hgm (by omega) (Nat.le_refl _) (by omega) (by omega) qm4 (fun _ => ⟨rfl, qs4, hsm, hgs⟩) (by simp) hmm).mono ?_
    rintro e w5 ⟨⟨v, rfl⟩, q5, qs5, b5⟩
    have b5 := b4z.trans (b5.mono s3)
    have qs5 := qs5 (by omega)
    have hrl : (runR m ([key, val, n] ++ List.replicate (8 - 3) 0)).length = 8 := by rw [runR_length]; rfl
    have c5 := q5.cell (mach_8 hrl _ _)
    have hRO := Lib.hid (show runOut (wrap64 (n * (k : Int))) m ([key, val, n] ++ List.replicate (8 - 3) 0) (List.replicate k RD) = runOut (wrap64 (n * (k : Int))) m [key, val, n, 0, 0, 0, 0, 0] (List.replicate k RD) from rfl)
    rw [hRO.out] at qs5
    clear q5 hrl qm qs qm4 qs4 L4 L1 r4 g4 b4 b4z
    go_wp2_with (refine wpList_run (w := w5) rfl (v := .pointer (some ⟨gm, 8, none⟩)) (Held.y_field (S := fun _ => True) (k := 8) (s := 0) rfl rfl Try.underlying52 rfl (by kernel_rfl) rfl _ trivial) ?_)
    go_ret
    exact ⟨gs, rfl, qs5, Nat.le_trans s3 hgs, b5⟩
set_option maxRecDepth 100000 in
set_option maxHeartbeats 8000000 in
theorem map_bad (B : Nat) (K : Int) (A1 A2 A3 : Option Addr) (n1 c1 n2 c2 n3 c3 : Nat) (m f fi : List O) (n key val : Int) (w : World) (h1 : Lst kO w B A1 n1 m) (h2 : Lst kO w B A2 n2 f) (h3 : Lst kO w B A3 n3 fi) (hB : B ≤ w.heap.size) (hC : ¬ checkB K m f fi = true) :
    Calls Try.prog 11 #[.agg #[.int .i64 K, .slice A1 n1 c1, .slice A2 n2 c2, .slice A3 n3 c3], .int .i64 n, .agg #[.int .i64 key, .int .i64 val]] w fun e w' => e = .returned (.slice none 0 0) ∧ Below w.heap.size w w' := by
  have HC := Lib.hid (show checkE K m f fi = 8 by rw [checkE, if_neg hC])
  go_enter Try.func11, Try.ntmps11
  go_wp2_with (first
    | (refine wpList_box_blk (w := w) rfl 27 _ rfl #[.int .i64 K, .slice A1 n1 c1, .slice A2 n2 c2, .slice A3 n3 c3] rfl ?_; intro u1 qa g1 z1)
    | (refine wpList_box_blk (w := u1) rfl 40 _ rfl #[.int .i64 key, .int .i64 val] rfl ?_; intro u2 qp g2 z2; have qa := qa.grown g2 (by simp); have b1 : Below w.heap.size w u2 := ((Below.refl _ w).grown g1 (Nat.le_refl _) (by simp)).grown g2 g1.size (by simp); have L1 := h1.below (b1.mono hB); have L2 := h2.below (b1.mono hB); have L3 := h3.below (b1.mono hB); clear h1 h2 h3 g1 z1 g2 z2)
    | (refine wpList_load_blk (w := u2) rfl 27 _ rfl w.heap.size 4 rfl 27 _ qa _ Try.underlying27 rfl info_prog rfl ?_))
  refine (check_any B K A1 A2 A3 n1 c1 n2 c2 n3 c3 m f fi u2 L1 L2 L3 (Nat.le_trans hB b1.size)).mono ?_
  rintro e u3 ⟨rfl, b3⟩
  rw [HC.out]
  have b3 := b1.trans (b3.mono b1.size)
  clear b1 L1 L2 L3 HC qa qp
  go_wp2_with fail
  go_ret
  exact ⟨rfl, b3⟩
theorem map_any (B : Nat) (K : Int) (A1 A2 A3 : Option Addr) (n1 c1 n2 c2 n3 c3 : Nat) (m f fi : List O) (n key val : Int) (w : World) (hn : (Lit.int .i64 n).wf = true) (hk : (Lit.int .i64 key).wf = true) (hv : (Lit.int .i64 val).wf = true) (h1 : Lst kO w B A1 n1 m) (h2 : Lst kO w B A2 n2 f) (h3 : Lst kO w B A3 n3 fi) (hB : B ≤ w.heap.size) :
    Calls Try.prog 11 #[.agg #[.int .i64 K, .slice A1 n1 c1, .slice A2 n2 c2, .slice A3 n3 c3], .int .i64 n, .agg #[.int .i64 key, .int .i64 val]] w fun e w' => ∃ A' n' c', e = .returned (.slice A' n' c') ∧ OwnR w' w.heap.size (.slice A' n' c') (mapR K m f fi n key val) ∧ Below w.heap.size w w' := by
  by_cases hC : checkB K m f fi = true
  · obtain ⟨hK1, hK4, _⟩ := checkB_says hC
    obtain ⟨k, rfl⟩ : ∃ k : Nat, K = (k : Int) := ⟨K.toNat, by omega⟩
    refine (map_ok B k A1 A2 A3 n1 c1 n2 c2 n3 c3 m f fi n key val w hn hk hv h1 h2 h3 hB hC).mono ?_
    rintro e w' ⟨g, rfl, q, hg, b⟩
    have hl : (mapR (k : Int) m f fi n key val).length = k := by
      rw [mapR, if_pos hC, runOut_length, List.length_replicate, Int.toNat_natCast]
    have ho := own_of_blk (k := kR) q hg (by rw [hl]; simp [maxLen]; omega)
    rw [hl] at ho
    exact ⟨_, k, k, rfl, ho, b⟩
  · refine (map_bad B K A1 A2 A3 n1 c1 n2 c2 n3 c3 m f fi n key val w h1 h2 h3 hB hC).mono ?_
    rintro e w' ⟨rfl, b⟩
    have e0 : mapR K m f fi n key val = [] := by rw [mapR, if_neg hC]
    rw [e0]
    exact ⟨none, 0, 0, rfl, OwnR.nil _ _, b⟩
end Go.Proofs.Yteipkkakjgfchaa.Vm
namespace Go.Proofs.Yteipkkakjgfchaa.Vm
open Go.RowKit Go.Shelf Go.Proofs.Yteipkkakjgfchaa Mem Held Rc Rs Sl
attribute [local irreducible] wpList wpListIn Calls
theorem zero_prog : (Try.prog.info? 27).bind (·.zero) = some (.agg #[.int .i64 0, .slice none 0 0, .slice none 0 0, .slice none 0 0]) := by kernel_rfl
set_option maxRecDepth 100000 in
set_option maxHeartbeats 8000000 in
theorem awake11_any (w : World) : Calls Try.prog 8 #[] w fun e w' => e = .returned (.bool true) ∧ Below w.heap.size w w' := by
  have HC := Lib.hid (show checkE 1 [] [⟨2, 0, 0, 1, 0, 0⟩] [] = 0 by decide +kernel)
  have HF := Lib.hid (show foldV 1 [] [⟨2, 0, 0, 1, 0, 0⟩] [] 2 3 = 5 by decide +kernel)
  have HC0 := Lib.hid (show checkE 0 [] [] [] = 8 by decide +kernel)
  have HM := Lib.hid (show (mapR 1 [] [⟨2, 0, 0, 1, 0, 0⟩] [] 0 0 0).length = 1 by decide +kernel)
  go_enter Try.func8, Try.ntmps8
  go_wp2_with (first
    | (refine wpList_build_blk rfl 24 _ rfl #[.int .i64 2, .int .i64 0, .int .i64 0, .int .i64 1, .int .i64 0, .int .i64 0] (by kernel_rfl) ?_)
    | (refine wpList_build_lst (w := w) (k := kO) rfl 25 24 1 _ rfl Try.underlying25 _ 48 info_op rfl [⟨2, 0, 0, 1, 0, 0⟩] rfl (by kernel_rfl) (by omega) (by decide) ?_; intro w1 q1 g1 z1)
    | (refine wpList_build_blk rfl 27 _ rfl #[.int .i64 1, .slice none 0 0, .slice (some ⟨w.heap.size, 0, none⟩) 1 1, .slice none 0 0] (by kernel_rfl) ?_)
    | (refine wpList_alloc_blk (w := w1) rfl 27 rfl _ zero_prog ?_; intro w2 q2 g2 z2)
    | (refine wpList_store_blk (w := w2) rfl 27 _ _ rfl w1.heap.size 4 rfl 27 _ #[.int .i64 1, .slice none 0 0, .slice (some ⟨w.heap.size, 0, none⟩) 1 1, .slice none 0 0] rfl q2 info_prog rfl rfl (by kernel_rfl) ?_; intro w3 q3 g3 z3)
    | (refine wpList_load_blk (w := w3) rfl 27 _ rfl w1.heap.size 4 rfl 27 _ q3 _ Try.underlying27 rfl (by kernel_rfl) rfl ?_))
  have lw := q1.lt
  have l1 := q3.lt
  have b1 : Below w.heap.size w w1 := (Below.refl _ w).grown g1 (Nat.le_refl _) (by simp)
  have b3 : Below w.heap.size w w3 := (b1.grown g2 b1.size (by simp)).grown g3 (Nat.le_trans b1.size g2.size) (fun r e => by cases e; exact b1.size)
  have q13 : Blk w3 w.heap.size 24 (flat kO [⟨2, 0, 0, 1, 0, 0⟩]).toArray := (q1.grown g2 (by simp)).grown g3 (by intro e; injection e with e; omega)
  have L : Lst kO w3 w3.heap.size (some ⟨w.heap.size, 0, none⟩) 1 [⟨2, 0, 0, 1, 0, 0⟩] := lst_whole q13 rfl (fun x hx => by rw [List.mem_singleton.1 hx]; exact ⟨rfl, rfl, rfl, rfl, rfl, rfl⟩)
  clear q1 q2 q13 g1 g2 g3 z1 z2 z3 b1
  refine (check_any w3.heap.size 1 _ _ _ _ _ _ _ _ _ [] _ [] w3 (Lst.nil _ _ _ _) L (Lst.nil _ _ _ _) (Nat.le_refl _)).mono ?_
  rintro e w4 ⟨rfl, b4⟩
  rw [HC.out]
  have q4 := q3.after b4
  have L4 := (L.below b4).more b4.size
  have b4 := b3.trans (b4.mono b3.size)
  clear q3 L b3
  go_wp2_with (refine wpList_load_blk (w := w4) rfl 27 _ rfl w1.heap.size 4 rfl 27 _ q4 _ Try.underlying27 rfl (by kernel_rfl) rfl ?_)
  refine (fold_any w4.heap.size 1 _ _ _ _ _ _ _ _ _ [] _ [] 2 3 w4 rfl rfl (Lst.nil _ _ _ _) L4 (Lst.nil _ _ _ _) (Nat.le_refl _)).mono ?_
  rintro e w5 ⟨rfl, b5⟩
  rw [HF.out]
  have q5 := q4.after b5
  have L5 := (L4.below b5).more b5.size
  have b5 := b4.trans (b5.mono b4.size)
  clear q4 L4 b4
  go_wp2_with (refine wpList_run (w := w5) rfl (v := .agg #[.int .i64 0, .slice none 0 0, .slice none 0 0, .slice none 0 0]) (y_build (S := fun _ => True) rfl (by kernel_rfl) _ trivial) ?_)
  refine (check_any w5.heap.size 0 _ _ _ _ _ _ _ _ _ [] [] [] w5 (Lst.nil _ _ _ _) (Lst.nil _ _ _ _) (Lst.nil _ _ _ _) (Nat.le_refl _)).mono ?_
  rintro e w6 ⟨rfl, b6⟩
  rw [HC0.out]
  have q6 := q5.after b6
  have L6 := (L5.below b6).more b6.size
  have b6 := b5.trans (b6.mono b5.size)
  clear q5 L5 b5
  go_wp2_with (first
    | (refine wpList_load_blk (w := w6) rfl 27 _ rfl w1.heap.size 4 rfl 27 _ q6 _ Try.underlying27 rfl (by kernel_rfl) rfl ?_)
    | (refine wpList_run (w := w6) rfl (v := .agg #[.int .i64 0, .int .i64 0]) (y_build (S := fun _ => True) rfl (by kernel_rfl) _ trivial) ?_))
  refine (map_any w6.heap.size 1 _ _ _ _ _ _ _ _ _ [] _ [] 0 0 0 w6 rfl rfl rfl (Lst.nil _ _ _ _) L6 (Lst.nil _ _ _ _) (Nat.le_refl _)).mono ?_
  rintro e w7 ⟨A', n', c', rfl, o7, b7⟩
  obtain ⟨A9, c9, e9, _⟩ := o7.form
  rw [HM.out] at e9
  injection e9 with e1 e2 e3
  subst e2
  have b7 := b6.trans (b7.mono b6.size)
  clear b6 q6 L6 o7
  go_wp2_with fail
  go_ret
  exact ⟨rfl, b7⟩
end Go.Proofs.Yteipkkakjgfchaa.Vm
