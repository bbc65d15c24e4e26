/-
  The document's own test of public numbers (package dominoref12's Right), and how many blocks there are (dominoref16's Blocks), by their contracts.
-/
import Derived.Test.YtipmfficjomcoaaDoorB5
import Derived.Test.YtipmfficjomcoaaDoorB4
set_option linter.unusedVariables false
namespace Go.Proofs.YtipmfficjomcoaaDoor.Sh
open Go.RowKit Go.Shelf Mem Held Go.Proofs.YtipmfficjomcoaaDoor.Range Sl
attribute [local go_sem] Oper.semAt_some
attribute [local irreducible] wpList wpListIn Calls
set_option maxRecDepth 100000 in
set_option maxHeartbeats 16000000 in
theorem rright_any (r k b wk : Int) (w : World) :
    Calls Tryd.prog 31 #[.agg #[.int .i64 r, .int .i64 k, .int .i64 b, .int .i64 wk]] w fun e w' => e = .returned (.int .i64 (Sp.rightE r k b wk)) ∧ Below w.heap.size w w' := by
  go_enter Tryd.func31, Tryd.ntmps31
  go_wp2_with (first
    | (refine wpList_box_blk (w := w) rfl 23 _ rfl _ rfl ?_; intro u1 qu1 gu1 zu1; have bo1 : Below w.heap.size w u1 := (Below.refl _ w).grown gu1 (Nat.le_refl _) (by simp)))
  refine wp_region_held (S := fun W => Below u1.heap.size u1 W) (by kernel_rfl) ?_
  change wpAnyH _ _ _ _ _ _ _ _ u1.drew
  have c0_0 := (Below.refl u1.heap.size u1).drew
  refine Held.tk (v := .pointer (some ⟨w.heap.size, 0, none⟩)) 0 (some 3) rfl (Held.y_field (k := 0) (s := 0) rfl rfl Tryd.underlying23 rfl (by kernel_rfl) rfl) c0_0 ?_
  simp only [Act.put, Z1, Z2, Z3]
  refine Held.tk (v := .int .i64 r) 1 (some 4) rfl (Held.y_load rfl rfl (by kernel_rfl) (fun W hW => (qu1.after hW).cell rfl)) c0_0 ?_
  simp only [Act.put, Z1, Z2, Z3]
  obtain ⟨bq2, hbq2⟩ : ∃ tt_, decide (r < 1) = tt_ := ⟨_, rfl⟩
  have Hbq2 := Lib.hid hbq2
  clear hbq2
  refine Held.tk (v := .bool bq2) 2 (some 5) rfl (Held.y_lss rfl rfl rfl Hbq2.out) c0_0 ?_
  simp only [Act.put, Z1, Z2, Z3]
  refine Held.tk (v := .bool bq2) 3 (some 6) rfl (Held.y_move rfl rfl) c0_0 ?_
  simp only [Act.put, Z1, Z2, Z3]
  cases bq2
  · have f2 := of_decide_eq_false Hbq2.out
    have G2 := Lib.hid f2
    clear f2
    refine Held.tk (v := .pointer (some ⟨w.heap.size, 0, none⟩)) 4 (some 7) rfl (Held.y_field (k := 0) (s := 0) rfl rfl Tryd.underlying23 rfl (by kernel_rfl) rfl) c0_0 ?_
    simp only [Act.put, Z1, Z2, Z3]
    refine Held.tk (v := .int .i64 r) 5 (some 8) rfl (Held.y_load rfl rfl (by kernel_rfl) (fun W hW => (qu1.after hW).cell rfl)) c0_0 ?_
    simp only [Act.put, Z1, Z2, Z3]
    obtain ⟨bq6, hbq6⟩ : ∃ tt_, decide (64 < r) = tt_ := ⟨_, rfl⟩
    have Hbq6 := Lib.hid hbq6
    clear hbq6
    refine Held.tk (v := .bool bq6) 6 (some 9) rfl (Held.y_gtr rfl rfl rfl Hbq6.out) c0_0 ?_
    simp only [Act.put, Z1, Z2, Z3]
    refine Held.tk (v := .bool bq6) 7 (some 10) rfl (Held.y_pickF rfl rfl rfl) c0_0 ?_
    simp only [Act.put, Z1, Z2, Z3]
    refine Held.tk (v := .bool bq6) 8 (some 11) rfl (Held.y_move rfl rfl) c0_0 ?_
    simp only [Act.put, Z1, Z2, Z3]
    cases bq6
    · have f6 := of_decide_eq_false Hbq6.out
      have G6 := Lib.hid f6
      clear f6
      refine Held.tk (v := .pointer (some ⟨w.heap.size, 1, none⟩)) 9 (some 12) rfl (Held.y_field (k := 1) (s := 0) rfl rfl Tryd.underlying23 rfl (by kernel_rfl) rfl) c0_0 ?_
      simp only [Act.put, Z1, Z2, Z3]
      refine Held.tk (v := .int .i64 k) 10 (some 13) rfl (Held.y_load rfl rfl (by kernel_rfl) (fun W hW => (qu1.after hW).cell rfl)) c0_0 ?_
      simp only [Act.put, Z1, Z2, Z3]
      obtain ⟨bq11, hbq11⟩ : ∃ tt_, decide (k < 1) = tt_ := ⟨_, rfl⟩
      have Hbq11 := Lib.hid hbq11
      clear hbq11
      refine Held.tk (v := .bool bq11) 11 (some 14) rfl (Held.y_lss rfl rfl rfl Hbq11.out) c0_0 ?_
      simp only [Act.put, Z1, Z2, Z3]
      refine Held.tk (v := .bool bq11) 12 (some 15) rfl (Held.y_pickF rfl rfl rfl) c0_0 ?_
      simp only [Act.put, Z1, Z2, Z3]
      refine Held.tk (v := .bool bq11) 13 (some 16) rfl (Held.y_move rfl rfl) c0_0 ?_
      simp only [Act.put, Z1, Z2, Z3]
      cases bq11
      · have f11 := of_decide_eq_false Hbq11.out
        have G11 := Lib.hid f11
        clear f11
        refine Held.tk (v := .pointer (some ⟨w.heap.size, 1, none⟩)) 14 (some 17) rfl (Held.y_field (k := 1) (s := 0) rfl rfl Tryd.underlying23 rfl (by kernel_rfl) rfl) c0_0 ?_
        simp only [Act.put, Z1, Z2, Z3]
        refine Held.tk (v := .int .i64 k) 15 (some 18) rfl (Held.y_load rfl rfl (by kernel_rfl) (fun W hW => (qu1.after hW).cell rfl)) c0_0 ?_
        simp only [Act.put, Z1, Z2, Z3]
        obtain ⟨bq16, hbq16⟩ : ∃ tt_, decide (4 < k) = tt_ := ⟨_, rfl⟩
        have Hbq16 := Lib.hid hbq16
        clear hbq16
        refine Held.tk (v := .bool bq16) 16 (some 19) rfl (Held.y_gtr rfl rfl rfl Hbq16.out) c0_0 ?_
        simp only [Act.put, Z1, Z2, Z3]
        refine Held.tk (v := .bool bq16) 17 (some 20) rfl (Held.y_pickF rfl rfl rfl) c0_0 ?_
        simp only [Act.put, Z1, Z2, Z3]
        refine Held.tk (v := .bool bq16) 18 (some 21) rfl (Held.y_move rfl rfl) c0_0 ?_
        simp only [Act.put, Z1, Z2, Z3]
        cases bq16
        · have f16 := of_decide_eq_false Hbq16.out
          have G16 := Lib.hid f16
          clear f16
          refine Held.tk (v := .pointer (some ⟨w.heap.size, 2, none⟩)) 19 (some 22) rfl (Held.y_field (k := 2) (s := 0) rfl rfl Tryd.underlying23 rfl (by kernel_rfl) rfl) c0_0 ?_
          simp only [Act.put, Z1, Z2, Z3]
          refine Held.tk (v := .int .i64 b) 20 (some 23) rfl (Held.y_load rfl rfl (by kernel_rfl) (fun W hW => (qu1.after hW).cell rfl)) c0_0 ?_
          simp only [Act.put, Z1, Z2, Z3]
          obtain ⟨bq21, hbq21⟩ : ∃ tt_, decide (b < 1) = tt_ := ⟨_, rfl⟩
          have Hbq21 := Lib.hid hbq21
          clear hbq21
          refine Held.tk (v := .bool bq21) 21 (some 24) rfl (Held.y_lss rfl rfl rfl Hbq21.out) c0_0 ?_
          simp only [Act.put, Z1, Z2, Z3]
          refine Held.tk (v := .bool bq21) 22 (some 25) rfl (Held.y_pickF rfl rfl rfl) c0_0 ?_
          simp only [Act.put, Z1, Z2, Z3]
          refine Held.tk (v := .bool bq21) 23 (some 26) rfl (Held.y_move rfl rfl) c0_0 ?_
          simp only [Act.put, Z1, Z2, Z3]
          cases bq21
          · have f21 := of_decide_eq_false Hbq21.out
            have G21 := Lib.hid f21
            clear f21
            refine Held.tk (v := .pointer (some ⟨w.heap.size, 2, none⟩)) 24 (some 27) rfl (Held.y_field (k := 2) (s := 0) rfl rfl Tryd.underlying23 rfl (by kernel_rfl) rfl) c0_0 ?_
            simp only [Act.put, Z1, Z2, Z3]
            refine Held.tk (v := .int .i64 b) 25 (some 28) rfl (Held.y_load rfl rfl (by kernel_rfl) (fun W hW => (qu1.after hW).cell rfl)) c0_0 ?_
            simp only [Act.put, Z1, Z2, Z3]
            obtain ⟨bq26, hbq26⟩ : ∃ tt_, decide (8 < b) = tt_ := ⟨_, rfl⟩
            have Hbq26 := Lib.hid hbq26
            clear hbq26
            refine Held.tk (v := .bool bq26) 26 (some 29) rfl (Held.y_gtr rfl rfl rfl Hbq26.out) c0_0 ?_
            simp only [Act.put, Z1, Z2, Z3]
            refine Held.tk (v := .bool bq26) 27 (some 30) rfl (Held.y_pickF rfl rfl rfl) c0_0 ?_
            simp only [Act.put, Z1, Z2, Z3]
            refine Held.tk (v := .bool bq26) 28 (some 31) rfl (Held.y_move rfl rfl) c0_0 ?_
            simp only [Act.put, Z1, Z2, Z3]
            cases bq26
            · have f26 := of_decide_eq_false Hbq26.out
              have G26 := Lib.hid f26
              clear f26
              refine Held.tk (v := .pointer (some ⟨w.heap.size, 3, none⟩)) 29 (some 32) rfl (Held.y_field (k := 3) (s := 0) rfl rfl Tryd.underlying23 rfl (by kernel_rfl) rfl) c0_0 ?_
              simp only [Act.put, Z1, Z2, Z3]
              refine Held.tk (v := .int .i64 wk) 30 (some 33) rfl (Held.y_load rfl rfl (by kernel_rfl) (fun W hW => (qu1.after hW).cell rfl)) c0_0 ?_
              simp only [Act.put, Z1, Z2, Z3]
              obtain ⟨bq31, hbq31⟩ : ∃ tt_, decide (wk < 1) = tt_ := ⟨_, rfl⟩
              have Hbq31 := Lib.hid hbq31
              clear hbq31
              refine Held.tk (v := .bool bq31) 31 (some 34) rfl (Held.y_lss rfl rfl rfl Hbq31.out) c0_0 ?_
              simp only [Act.put, Z1, Z2, Z3]
              refine Held.tk (v := .bool bq31) 32 (some 35) rfl (Held.y_pickF rfl rfl rfl) c0_0 ?_
              simp only [Act.put, Z1, Z2, Z3]
              refine Held.tk (v := .bool bq31) 33 (some 36) rfl (Held.y_move rfl rfl) c0_0 ?_
              simp only [Act.put, Z1, Z2, Z3]
              cases bq31
              · have f31 := of_decide_eq_false Hbq31.out
                have G31 := Lib.hid f31
                clear f31
                refine Held.tk (v := .pointer (some ⟨w.heap.size, 3, none⟩)) 34 (some 37) rfl (Held.y_field (k := 3) (s := 0) rfl rfl Tryd.underlying23 rfl (by kernel_rfl) rfl) c0_0 ?_
                simp only [Act.put, Z1, Z2, Z3]
                refine Held.tk (v := .int .i64 wk) 35 (some 38) rfl (Held.y_load rfl rfl (by kernel_rfl) (fun W hW => (qu1.after hW).cell rfl)) c0_0 ?_
                simp only [Act.put, Z1, Z2, Z3]
                obtain ⟨bq36, hbq36⟩ : ∃ tt_, decide (4 < wk) = tt_ := ⟨_, rfl⟩
                have Hbq36 := Lib.hid hbq36
                clear hbq36
                refine Held.tk (v := .bool bq36) 36 (some 39) rfl (Held.y_gtr rfl rfl rfl Hbq36.out) c0_0 ?_
                simp only [Act.put, Z1, Z2, Z3]
                refine Held.tk (v := .bool bq36) 37 (some 40) rfl (Held.y_pickF rfl rfl rfl) c0_0 ?_
                simp only [Act.put, Z1, Z2, Z3]
                refine Held.tk (v := .bool bq36) 38 (some 41) rfl (Held.y_move rfl rfl) c0_0 ?_
                simp only [Act.put, Z1, Z2, Z3]
                cases bq36
                · have f36 := of_decide_eq_false Hbq36.out
                  have G36 := Lib.hid f36
                  clear f36
                  have hall : (1 ≤ r ∧ r ≤ 64) ∧ (1 ≤ k ∧ k ≤ 4) ∧ (1 ≤ b ∧ b ≤ 8) ∧ (1 ≤ wk ∧ wk ≤ 4) := by
                    have := G2.out; have := G6.out; have := G11.out; have := G16.out; have := G21.out; have := G26.out; have := G31.out; have := G36.out
                    omega
                  obtain ⟨⟨hr1, hr⟩, ⟨hk1, hk⟩, ⟨hb1, hb⟩, hw1, hw⟩ := hall
                  have hb0 : b ≠ 0 := by omega
                  have hi0 : 0 ≤ (r + b - 1) / b := Int.ediv_nonneg (by omega) (by omega)
                  have hi1 : (r + b - 1) / b ≤ 71 := by have h2 : (r + b - 1) / b ≤ r + b - 1 := Int.ediv_le_self _ (by omega); omega
                  have E1 := Lib.hid (show IntKind.i64.wrap (r + b) = r + b by rw [IntKind.wrap_i64]; omega)
                  have E2 := Lib.hid (show IntKind.i64.wrap (r + b - 1) = r + b - 1 by rw [IntKind.wrap_i64]; omega)
                  have E3 := Lib.hid (show IntKind.i64.wrap ((r + b - 1).tdiv b) = (r + b - 1) / b by
                    rw [show (r + b - 1).tdiv b = (r + b - 1) / b from Int.tdiv_eq_ediv_of_nonneg (by omega), IntKind.wrap_i64]; omega)
                  have E4 := Lib.hid (show IntKind.i64.wrap (k * ((r + b - 1) / b)) = k * ((r + b - 1) / b) by
                    rw [IntKind.wrap_i64]
                    have h1 : 0 ≤ k * ((r + b - 1) / b) := Int.mul_nonneg (by omega) hi0
                    have h2 : k * ((r + b - 1) / b) ≤ 4 * 71 := Int.mul_le_mul hk hi1 hi0 (by omega)
                    omega)
                  obtain ⟨GB, hGB⟩ : ∃ GB, decide (32 ≤ k * ((r + b - 1) / b)) = GB := ⟨_, rfl⟩
                  have HG := Lib.hid hGB
                  have HE := Lib.hid (show Sp.rightE r k b wk = if GB = true then 1 else 0 by
                    rw [Sp.rightE, Sp.rightB_of, ← hGB]
                    have e1 : Sp.inB r 64 = true := by simp [Sp.inB]; omega
                    have e2 : Sp.inB k 4 = true := by simp [Sp.inB]; omega
                    have e3 : Sp.inB b 8 = true := by simp [Sp.inB]; omega
                    have e4 : Sp.inB wk 4 = true := by simp [Sp.inB]; omega
                    rw [e1, e2, e3, e4]
                    by_cases h : 32 ≤ k * ((r + b - 1) / b)
                    · rw [decide_eq_true h, decide_eq_false (show ¬ k * ((r + b - 1) / b) < 32 by omega)]; rfl
                    · rw [decide_eq_false h, decide_eq_true (show k * ((r + b - 1) / b) < 32 by omega)]; rfl)
                  clear hGB hi0 hi1 hr1 hr hk1 hk hb1 hb hw1 hw
                  refine Held.tk (v := .pointer (some ⟨w.heap.size, 1, none⟩)) 39 (some 42) rfl (Held.y_field (k := 1) (s := 0) rfl rfl Tryd.underlying23 rfl (by kernel_rfl) rfl) c0_0 ?_
                  simp only [Act.put, Z1, Z2, Z3]
                  refine Held.tk (v := .int .i64 k) 40 (some 43) rfl (Held.y_load rfl rfl (by kernel_rfl) (fun W hW => (qu1.after hW).cell rfl)) c0_0 ?_
                  simp only [Act.put, Z1, Z2, Z3]
                  refine Held.tk (v := .pointer (some ⟨w.heap.size, 0, none⟩)) 41 (some 44) rfl (Held.y_field (k := 0) (s := 0) rfl rfl Tryd.underlying23 rfl (by kernel_rfl) rfl) c0_0 ?_
                  simp only [Act.put, Z1, Z2, Z3]
                  refine Held.tk (v := .int .i64 r) 42 (some 45) rfl (Held.y_load rfl rfl (by kernel_rfl) (fun W hW => (qu1.after hW).cell rfl)) c0_0 ?_
                  simp only [Act.put, Z1, Z2, Z3]
                  refine Held.tk (v := .pointer (some ⟨w.heap.size, 2, none⟩)) 43 (some 46) rfl (Held.y_field (k := 2) (s := 0) rfl rfl Tryd.underlying23 rfl (by kernel_rfl) rfl) c0_0 ?_
                  simp only [Act.put, Z1, Z2, Z3]
                  refine Held.tk (v := .int .i64 b) 44 (some 47) rfl (Held.y_load rfl rfl (by kernel_rfl) (fun W hW => (qu1.after hW).cell rfl)) c0_0 ?_
                  simp only [Act.put, Z1, Z2, Z3]
                  refine Held.tk (v := .int .i64 ((r + b))) 45 (some 48) rfl (Held.y_int rfl rfl rfl (Held.run_add 3 .i64 (E1.out))) c0_0 ?_
                  simp only [Act.put, Z1, Z2, Z3]
                  refine Held.tk (v := .int .i64 ((r + b - 1))) 46 (some 49) rfl (Held.y_int rfl rfl rfl (Held.run_sub 3 .i64 (E2.out))) c0_0 ?_
                  simp only [Act.put, Z1, Z2, Z3]
                  refine Held.tk (v := .pointer (some ⟨w.heap.size, 2, none⟩)) 47 (some 50) rfl (Held.y_field (k := 2) (s := 0) rfl rfl Tryd.underlying23 rfl (by kernel_rfl) rfl) c0_0 ?_
                  simp only [Act.put, Z1, Z2, Z3]
                  refine Held.tk (v := .int .i64 b) 48 (some 51) rfl (Held.y_load rfl rfl (by kernel_rfl) (fun W hW => (qu1.after hW).cell rfl)) c0_0 ?_
                  simp only [Act.put, Z1, Z2, Z3]
                  refine Held.tk (v := .int .i64 ((r + b - 1) / b)) 49 (some 52) rfl (Bi.y_quo (r + b - 1) b rfl rfl rfl (Held.run_quo 3 .i64 hb0 E3.out)) c0_0 ?_
                  simp only [Act.put, Z1, Z2, Z3]
                  refine Held.tk (v := .int .i64 ((k * ((r + b - 1) / b)))) 50 (some 53) rfl (Held.y_int rfl rfl rfl (Held.run_mul 3 .i64 (E4.out))) c0_0 ?_
                  simp only [Act.put, Z1, Z2, Z3]
                  refine Held.tk (v := .bool GB) 51 (some 54) rfl (Sp.y_geq rfl rfl rfl HG.out) c0_0 ?_
                  simp only [Act.put, Z1, Z2, Z3]
                  refine Held.tk (v := .bool GB) 52 (some 55) rfl (Held.y_pickF rfl rfl rfl) c0_0 ?_
                  simp only [Act.put, Z1, Z2, Z3]
                  refine wpAnyH_done (by kernel_rfl) ?_ _
                  have bz := bo1.trans (c0_0.mono bo1.size)
                  cases GB
                  all_goals
                    go_wp2_with fail
                    go_ret
                    exact ⟨(by rw [HE.out]; rfl), bz⟩
                · have hx := of_decide_eq_true Hbq36.out
                  have HE := Lib.hid (show Sp.rightE r k b wk = 1 by rw [Sp.rightE, if_neg (fun h => by have := right_says h; omega)])
                  clear hx
                  refine Held.skip 39 (some 42) rfl rfl (by kernel_rfl) (by kernel_rfl) (by kernel_rfl) (fun _ _ _ h => h) rfl c0_0 ?_
                  simp only [Act.put, Z1, Z2, Z3]
                  refine Held.skip 40 (some 43) rfl rfl (by kernel_rfl) (by kernel_rfl) (by kernel_rfl) (fun _ _ _ h => h) rfl c0_0 ?_
                  simp only [Act.put, Z1, Z2, Z3]
                  refine Held.skip 41 (some 44) rfl rfl (by kernel_rfl) (by kernel_rfl) (by kernel_rfl) (fun _ _ _ h => h) rfl c0_0 ?_
                  simp only [Act.put, Z1, Z2, Z3]
                  refine Held.skip 42 (some 45) rfl rfl (by kernel_rfl) (by kernel_rfl) (by kernel_rfl) (fun _ _ _ h => h) rfl c0_0 ?_
                  simp only [Act.put, Z1, Z2, Z3]
                  refine Held.skip 43 (some 46) rfl rfl (by kernel_rfl) (by kernel_rfl) (by kernel_rfl) (fun _ _ _ h => h) rfl c0_0 ?_
                  simp only [Act.put, Z1, Z2, Z3]
                  refine Held.skip 44 (some 47) rfl rfl (by kernel_rfl) (by kernel_rfl) (by kernel_rfl) (fun _ _ _ h => h) rfl c0_0 ?_
                  simp only [Act.put, Z1, Z2, Z3]
                  refine Held.skip 45 (some 48) rfl rfl (by kernel_rfl) (by kernel_rfl) (by kernel_rfl) (fun _ _ _ h => h) rfl c0_0 ?_
                  simp only [Act.put, Z1, Z2, Z3]
                  refine Held.skip 46 (some 49) rfl rfl (by kernel_rfl) (by kernel_rfl) (by kernel_rfl) (fun _ _ _ h => h) rfl c0_0 ?_
                  simp only [Act.put, Z1, Z2, Z3]
                  refine Held.skip 47 (some 50) rfl rfl (by kernel_rfl) (by kernel_rfl) (by kernel_rfl) (fun _ _ _ h => h) rfl c0_0 ?_
                  simp only [Act.put, Z1, Z2, Z3]
                  refine Held.skip 48 (some 51) rfl rfl (by kernel_rfl) (by kernel_rfl) (by kernel_rfl) (fun _ _ _ h => h) rfl c0_0 ?_
                  simp only [Act.put, Z1, Z2, Z3]
                  refine Held.skip 49 (some 52) rfl rfl (by kernel_rfl) (by kernel_rfl) (by kernel_rfl) (fun _ _ _ h => h) rfl c0_0 ?_
                  simp only [Act.put, Z1, Z2, Z3]
                  refine Held.skip 50 (some 53) rfl rfl (by kernel_rfl) (by kernel_rfl) (by kernel_rfl) (fun _ _ _ h => h) rfl c0_0 ?_
                  simp only [Act.put, Z1, Z2, Z3]
                  refine Held.skip 51 (some 54) rfl rfl (by kernel_rfl) (by kernel_rfl) (by kernel_rfl) (fun _ _ _ h => h) rfl c0_0 ?_
                  simp only [Act.put, Z1, Z2, Z3]
                  refine Held.tk (v := (.bool true)) 52 (some 55) rfl (Held.y_pick rfl rfl rfl) c0_0 ?_
                  simp only [Act.put, Z1, Z2, Z3]
                  refine wpAnyH_done (by kernel_rfl) ?_ _
                  have bz := bo1.trans (c0_0.mono bo1.size)
                  go_wp2_with fail
                  go_ret
                  exact ⟨(by rw [HE.out]; rfl), bz⟩
              · have hx := of_decide_eq_true Hbq31.out
                have HE := Lib.hid (show Sp.rightE r k b wk = 1 by rw [Sp.rightE, if_neg (fun h => by have := right_says h; omega)])
                clear hx
                refine Held.skip 34 (some 37) rfl rfl (by kernel_rfl) (by kernel_rfl) (by kernel_rfl) (fun _ _ _ h => h) rfl c0_0 ?_
                simp only [Act.put, Z1, Z2, Z3]
                refine Held.skip 35 (some 38) rfl rfl (by kernel_rfl) (by kernel_rfl) (by kernel_rfl) (fun _ _ _ h => h) rfl c0_0 ?_
                simp only [Act.put, Z1, Z2, Z3]
                refine Held.skip 36 (some 39) rfl rfl (by kernel_rfl) (by kernel_rfl) (by kernel_rfl) (fun _ _ _ h => h) rfl c0_0 ?_
                simp only [Act.put, Z1, Z2, Z3]
                refine Held.tk (v := (.bool true)) 37 (some 40) rfl (Held.y_pick rfl rfl rfl) c0_0 ?_
                simp only [Act.put, Z1, Z2, Z3]
                refine Held.tk (v := (.bool true)) 38 (some 41) rfl (Held.y_move rfl rfl) c0_0 ?_
                simp only [Act.put, Z1, Z2, Z3]
                refine Held.skip 39 (some 42) rfl rfl (by kernel_rfl) (by kernel_rfl) (by kernel_rfl) (fun _ _ _ h => h) rfl c0_0 ?_
                simp only [Act.put, Z1, Z2, Z3]
                refine Held.skip 40 (some 43) rfl rfl (by kernel_rfl) (by kernel_rfl) (by kernel_rfl) (fun _ _ _ h => h) rfl c0_0 ?_
                simp only [Act.put, Z1, Z2, Z3]
                refine Held.skip 41 (some 44) rfl rfl (by kernel_rfl) (by kernel_rfl) (by kernel_rfl) (fun _ _ _ h => h) rfl c0_0 ?_
                simp only [Act.put, Z1, Z2, Z3]
                refine Held.skip 42 (some 45) rfl rfl (by kernel_rfl) (by kernel_rfl) (by kernel_rfl) (fun _ _ _ h => h) rfl c0_0 ?_
                simp only [Act.put, Z1, Z2, Z3]
                refine Held.skip 43 (some 46) rfl rfl (by kernel_rfl) (by kernel_rfl) (by kernel_rfl) (fun _ _ _ h => h) rfl c0_0 ?_
                simp only [Act.put, Z1, Z2, Z3]
                refine Held.skip 44 (some 47) rfl rfl (by kernel_rfl) (by kernel_rfl) (by kernel_rfl) (fun _ _ _ h => h) rfl c0_0 ?_
                simp only [Act.put, Z1, Z2, Z3]
                refine Held.skip 45 (some 48) rfl rfl (by kernel_rfl) (by kernel_rfl) (by kernel_rfl) (fun _ _ _ h => h) rfl c0_0 ?_
                simp only [Act.put, Z1, Z2, Z3]
                refine Held.skip 46 (some 49) rfl rfl (by kernel_rfl) (by kernel_rfl) (by kernel_rfl) (fun _ _ _ h => h) rfl c0_0 ?_
                simp only [Act.put, Z1, Z2, Z3]
                refine Held.skip 47 (some 50) rfl rfl (by kernel_rfl) (by kernel_rfl) (by kernel_rfl) (fun _ _ _ h => h) rfl c0_0 ?_
                simp only [Act.put, Z1, Z2, Z3]
                refine Held.skip 48 (some 51) rfl rfl (by kernel_rfl) (by kernel_rfl) (by kernel_rfl) (fun _ _ _ h => h) rfl c0_0 ?_
                simp only [Act.put, Z1, Z2, Z3]
                refine Held.skip 49 (some 52) rfl rfl (by kernel_rfl) (by kernel_rfl) (by kernel_rfl) (fun _ _ _ h => h) rfl c0_0 ?_
                simp only [Act.put, Z1, Z2, Z3]
                refine Held.skip 50 (some 53) rfl rfl (by kernel_rfl) (by kernel_rfl) (by kernel_rfl) (fun _ _ _ h => h) rfl c0_0 ?_
                simp only [Act.put, Z1, Z2, Z3]
                refine Held.skip 51 (some 54) rfl rfl (by kernel_rfl) (by kernel_rfl) (by kernel_rfl) (fun _ _ _ h => h) rfl c0_0 ?_
                simp only [Act.put, Z1, Z2, Z3]
                refine Held.tk (v := (.bool true)) 52 (some 55) rfl (Held.y_pick rfl rfl rfl) c0_0 ?_
                simp only [Act.put, Z1, Z2, Z3]
                refine wpAnyH_done (by kernel_rfl) ?_ _
                have bz := bo1.trans (c0_0.mono bo1.size)
                go_wp2_with fail
                go_ret
                exact ⟨(by rw [HE.out]; rfl), bz⟩
            · have hx := of_decide_eq_true Hbq26.out
              have HE := Lib.hid (show Sp.rightE r k b wk = 1 by rw [Sp.rightE, if_neg (fun h => by have := right_says h; omega)])
              clear hx
              refine Held.skip 29 (some 32) rfl rfl (by kernel_rfl) (by kernel_rfl) (by kernel_rfl) (fun _ _ _ h => h) rfl c0_0 ?_
              simp only [Act.put, Z1, Z2, Z3]
              refine Held.skip 30 (some 33) rfl rfl (by kernel_rfl) (by kernel_rfl) (by kernel_rfl) (fun _ _ _ h => h) rfl c0_0 ?_
              simp only [Act.put, Z1, Z2, Z3]
              refine Held.skip 31 (some 34) rfl rfl (by kernel_rfl) (by kernel_rfl) (by kernel_rfl) (fun _ _ _ h => h) rfl c0_0 ?_
              simp only [Act.put, Z1, Z2, Z3]
              refine Held.tk (v := (.bool true)) 32 (some 35) rfl (Held.y_pick rfl rfl rfl) c0_0 ?_
              simp only [Act.put, Z1, Z2, Z3]
              refine Held.tk (v := (.bool true)) 33 (some 36) rfl (Held.y_move rfl rfl) c0_0 ?_
              simp only [Act.put, Z1, Z2, Z3]
              refine Held.skip 34 (some 37) rfl rfl (by kernel_rfl) (by kernel_rfl) (by kernel_rfl) (fun _ _ _ h => h) rfl c0_0 ?_
              simp only [Act.put, Z1, Z2, Z3]
              refine Held.skip 35 (some 38) rfl rfl (by kernel_rfl) (by kernel_rfl) (by kernel_rfl) (fun _ _ _ h => h) rfl c0_0 ?_
              simp only [Act.put, Z1, Z2, Z3]
              refine Held.skip 36 (some 39) rfl rfl (by kernel_rfl) (by kernel_rfl) (by kernel_rfl) (fun _ _ _ h => h) rfl c0_0 ?_
              simp only [Act.put, Z1, Z2, Z3]
              refine Held.tk (v := (.bool true)) 37 (some 40) rfl (Held.y_pick rfl rfl rfl) c0_0 ?_
              simp only [Act.put, Z1, Z2, Z3]
              refine Held.tk (v := (.bool true)) 38 (some 41) rfl (Held.y_move rfl rfl) c0_0 ?_
              simp only [Act.put, Z1, Z2, Z3]
              refine Held.skip 39 (some 42) rfl rfl (by kernel_rfl) (by kernel_rfl) (by kernel_rfl) (fun _ _ _ h => h) rfl c0_0 ?_
              simp only [Act.put, Z1, Z2, Z3]
              refine Held.skip 40 (some 43) rfl rfl (by kernel_rfl) (by kernel_rfl) (by kernel_rfl) (fun _ _ _ h => h) rfl c0_0 ?_
              simp only [Act.put, Z1, Z2, Z3]
              refine Held.skip 41 (some 44) rfl rfl (by kernel_rfl) (by kernel_rfl) (by kernel_rfl) (fun _ _ _ h => h) rfl c0_0 ?_
              simp only [Act.put, Z1, Z2, Z3]
              refine Held.skip 42 (some 45) rfl rfl (by kernel_rfl) (by kernel_rfl) (by kernel_rfl) (fun _ _ _ h => h) rfl c0_0 ?_
              simp only [Act.put, Z1, Z2, Z3]
              refine Held.skip 43 (some 46) rfl rfl (by kernel_rfl) (by kernel_rfl) (by kernel_rfl) (fun _ _ _ h => h) rfl c0_0 ?_
              simp only [Act.put, Z1, Z2, Z3]
              refine Held.skip 44 (some 47) rfl rfl (by kernel_rfl) (by kernel_rfl) (by kernel_rfl) (fun _ _ _ h => h) rfl c0_0 ?_
              simp only [Act.put, Z1, Z2, Z3]
              refine Held.skip 45 (some 48) rfl rfl (by kernel_rfl) (by kernel_rfl) (by kernel_rfl) (fun _ _ _ h => h) rfl c0_0 ?_
              simp only [Act.put, Z1, Z2, Z3]
              refine Held.skip 46 (some 49) rfl rfl (by kernel_rfl) (by kernel_rfl) (by kernel_rfl) (fun _ _ _ h => h) rfl c0_0 ?_
              simp only [Act.put, Z1, Z2, Z3]
              refine Held.skip 47 (some 50) rfl rfl (by kernel_rfl) (by kernel_rfl) (by kernel_rfl) (fun _ _ _ h => h) rfl c0_0 ?_
              simp only [Act.put, Z1, Z2, Z3]
              refine Held.skip 48 (some 51) rfl rfl (by kernel_rfl) (by kernel_rfl) (by kernel_rfl) (fun _ _ _ h => h) rfl c0_0 ?_
              simp only [Act.put, Z1, Z2, Z3]
              refine Held.skip 49 (some 52) rfl rfl (by kernel_rfl) (by kernel_rfl) (by kernel_rfl) (fun _ _ _ h => h) rfl c0_0 ?_
              simp only [Act.put, Z1, Z2, Z3]
              refine Held.skip 50 (some 53) rfl rfl (by kernel_rfl) (by kernel_rfl) (by kernel_rfl) (fun _ _ _ h => h) rfl c0_0 ?_
              simp only [Act.put, Z1, Z2, Z3]
              refine Held.skip 51 (some 54) rfl rfl (by kernel_rfl) (by kernel_rfl) (by kernel_rfl) (fun _ _ _ h => h) rfl c0_0 ?_
              simp only [Act.put, Z1, Z2, Z3]
              refine Held.tk (v := (.bool true)) 52 (some 55) rfl (Held.y_pick rfl rfl rfl) c0_0 ?_
              simp only [Act.put, Z1, Z2, Z3]
              refine wpAnyH_done (by kernel_rfl) ?_ _
              have bz := bo1.trans (c0_0.mono bo1.size)
              go_wp2_with fail
              go_ret
              exact ⟨(by rw [HE.out]; rfl), bz⟩
          · have hx := of_decide_eq_true Hbq21.out
            have HE := Lib.hid (show Sp.rightE r k b wk = 1 by rw [Sp.rightE, if_neg (fun h => by have := right_says h; omega)])
            clear hx
            refine Held.skip 24 (some 27) rfl rfl (by kernel_rfl) (by kernel_rfl) (by kernel_rfl) (fun _ _ _ h => h) rfl c0_0 ?_
            simp only [Act.put, Z1, Z2, Z3]
            refine Held.skip 25 (some 28) rfl rfl (by kernel_rfl) (by kernel_rfl) (by kernel_rfl) (fun _ _ _ h => h) rfl c0_0 ?_
            simp only [Act.put, Z1, Z2, Z3]
            refine Held.skip 26 (some 29) rfl rfl (by kernel_rfl) (by kernel_rfl) (by kernel_rfl) (fun _ _ _ h => h) rfl c0_0 ?_
            simp only [Act.put, Z1, Z2, Z3]
            refine Held.tk (v := (.bool true)) 27 (some 30) rfl (Held.y_pick rfl rfl rfl) c0_0 ?_
            simp only [Act.put, Z1, Z2, Z3]
            refine Held.tk (v := (.bool true)) 28 (some 31) rfl (Held.y_move rfl rfl) c0_0 ?_
            simp only [Act.put, Z1, Z2, Z3]
            refine Held.skip 29 (some 32) rfl rfl (by kernel_rfl) (by kernel_rfl) (by kernel_rfl) (fun _ _ _ h => h) rfl c0_0 ?_
            simp only [Act.put, Z1, Z2, Z3]
            refine Held.skip 30 (some 33) rfl rfl (by kernel_rfl) (by kernel_rfl) (by kernel_rfl) (fun _ _ _ h => h) rfl c0_0 ?_
            simp only [Act.put, Z1, Z2, Z3]
            refine Held.skip 31 (some 34) rfl rfl (by kernel_rfl) (by kernel_rfl) (by kernel_rfl) (fun _ _ _ h => h) rfl c0_0 ?_
            simp only [Act.put, Z1, Z2, Z3]
            refine Held.tk (v := (.bool true)) 32 (some 35) rfl (Held.y_pick rfl rfl rfl) c0_0 ?_
            simp only [Act.put, Z1, Z2, Z3]
            refine Held.tk (v := (.bool true)) 33 (some 36) rfl (Held.y_move rfl rfl) c0_0 ?_
            simp only [Act.put, Z1, Z2, Z3]
            refine Held.skip 34 (some 37) rfl rfl (by kernel_rfl) (by kernel_rfl) (by kernel_rfl) (fun _ _ _ h => h) rfl c0_0 ?_
            simp only [Act.put, Z1, Z2, Z3]
            refine Held.skip 35 (some 38) rfl rfl (by kernel_rfl) (by kernel_rfl) (by kernel_rfl) (fun _ _ _ h => h) rfl c0_0 ?_
            simp only [Act.put, Z1, Z2, Z3]
            refine Held.skip 36 (some 39) rfl rfl (by kernel_rfl) (by kernel_rfl) (by kernel_rfl) (fun _ _ _ h => h) rfl c0_0 ?_
            simp only [Act.put, Z1, Z2, Z3]
            refine Held.tk (v := (.bool true)) 37 (some 40) rfl (Held.y_pick rfl rfl rfl) c0_0 ?_
            simp only [Act.put, Z1, Z2, Z3]
            refine Held.tk (v := (.bool true)) 38 (some 41) rfl (Held.y_move rfl rfl) c0_0 ?_
            simp only [Act.put, Z1, Z2, Z3]
            refine Held.skip 39 (some 42) rfl rfl (by kernel_rfl) (by kernel_rfl) (by kernel_rfl) (fun _ _ _ h => h) rfl c0_0 ?_
            simp only [Act.put, Z1, Z2, Z3]
            refine Held.skip 40 (some 43) rfl rfl (by kernel_rfl) (by kernel_rfl) (by kernel_rfl) (fun _ _ _ h => h) rfl c0_0 ?_
            simp only [Act.put, Z1, Z2, Z3]
            refine Held.skip 41 (some 44) rfl rfl (by kernel_rfl) (by kernel_rfl) (by kernel_rfl) (fun _ _ _ h => h) rfl c0_0 ?_
            simp only [Act.put, Z1, Z2, Z3]
            refine Held.skip 42 (some 45) rfl rfl (by kernel_rfl) (by kernel_rfl) (by kernel_rfl) (fun _ _ _ h => h) rfl c0_0 ?_
            simp only [Act.put, Z1, Z2, Z3]
            refine Held.skip 43 (some 46) rfl rfl (by kernel_rfl) (by kernel_rfl) (by kernel_rfl) (fun _ _ _ h => h) rfl c0_0 ?_
            simp only [Act.put, Z1, Z2, Z3]
            refine Held.skip 44 (some 47) rfl rfl (by kernel_rfl) (by kernel_rfl) (by kernel_rfl) (fun _ _ _ h => h) rfl c0_0 ?_
            simp only [Act.put, Z1, Z2, Z3]
            refine Held.skip 45 (some 48) rfl rfl (by kernel_rfl) (by kernel_rfl) (by kernel_rfl) (fun _ _ _ h => h) rfl c0_0 ?_
            simp only [Act.put, Z1, Z2, Z3]
            refine Held.skip 46 (some 49) rfl rfl (by kernel_rfl) (by kernel_rfl) (by kernel_rfl) (fun _ _ _ h => h) rfl c0_0 ?_
            simp only [Act.put, Z1, Z2, Z3]
            refine Held.skip 47 (some 50) rfl rfl (by kernel_rfl) (by kernel_rfl) (by kernel_rfl) (fun _ _ _ h => h) rfl c0_0 ?_
            simp only [Act.put, Z1, Z2, Z3]
            refine Held.skip 48 (some 51) rfl rfl (by kernel_rfl) (by kernel_rfl) (by kernel_rfl) (fun _ _ _ h => h) rfl c0_0 ?_
            simp only [Act.put, Z1, Z2, Z3]
            refine Held.skip 49 (some 52) rfl rfl (by kernel_rfl) (by kernel_rfl) (by kernel_rfl) (fun _ _ _ h => h) rfl c0_0 ?_
            simp only [Act.put, Z1, Z2, Z3]
            refine Held.skip 50 (some 53) rfl rfl (by kernel_rfl) (by kernel_rfl) (by kernel_rfl) (fun _ _ _ h => h) rfl c0_0 ?_
            simp only [Act.put, Z1, Z2, Z3]
            refine Held.skip 51 (some 54) rfl rfl (by kernel_rfl) (by kernel_rfl) (by kernel_rfl) (fun _ _ _ h => h) rfl c0_0 ?_
            simp only [Act.put, Z1, Z2, Z3]
            refine Held.tk (v := (.bool true)) 52 (some 55) rfl (Held.y_pick rfl rfl rfl) c0_0 ?_
            simp only [Act.put, Z1, Z2, Z3]
            refine wpAnyH_done (by kernel_rfl) ?_ _
            have bz := bo1.trans (c0_0.mono bo1.size)
            go_wp2_with fail
            go_ret
            exact ⟨(by rw [HE.out]; rfl), bz⟩
        · have hx := of_decide_eq_true Hbq16.out
          have HE := Lib.hid (show Sp.rightE r k b wk = 1 by rw [Sp.rightE, if_neg (fun h => by have := right_says h; omega)])
          clear hx
          refine Held.skip 19 (some 22) rfl rfl (by kernel_rfl) (by kernel_rfl) (by kernel_rfl) (fun _ _ _ h => h) rfl c0_0 ?_
          simp only [Act.put, Z1, Z2, Z3]
          refine Held.skip 20 (some 23) rfl rfl (by kernel_rfl) (by kernel_rfl) (by kernel_rfl) (fun _ _ _ h => h) rfl c0_0 ?_
          simp only [Act.put, Z1, Z2, Z3]
          refine Held.skip 21 (some 24) rfl rfl (by kernel_rfl) (by kernel_rfl) (by kernel_rfl) (fun _ _ _ h => h) rfl c0_0 ?_
          simp only [Act.put, Z1, Z2, Z3]
          refine Held.tk (v := (.bool true)) 22 (some 25) rfl (Held.y_pick rfl rfl rfl) c0_0 ?_
          simp only [Act.put, Z1, Z2, Z3]
          refine Held.tk (v := (.bool true)) 23 (some 26) rfl (Held.y_move rfl rfl) c0_0 ?_
          simp only [Act.put, Z1, Z2, Z3]
          refine Held.skip 24 (some 27) rfl rfl (by kernel_rfl) (by kernel_rfl) (by kernel_rfl) (fun _ _ _ h => h) rfl c0_0 ?_
          simp only [Act.put, Z1, Z2, Z3]
          refine Held.skip 25 (some 28) rfl rfl (by kernel_rfl) (by kernel_rfl) (by kernel_rfl) (fun _ _ _ h => h) rfl c0_0 ?_
          simp only [Act.put, Z1, Z2, Z3]
          refine Held.skip 26 (some 29) rfl rfl (by kernel_rfl) (by kernel_rfl) (by kernel_rfl) (fun _ _ _ h => h) rfl c0_0 ?_
          simp only [Act.put, Z1, Z2, Z3]
          refine Held.tk (v := (.bool true)) 27 (some 30) rfl (Held.y_pick rfl rfl rfl) c0_0 ?_
          simp only [Act.put, Z1, Z2, Z3]
          refine Held.tk (v := (.bool true)) 28 (some 31) rfl (Held.y_move rfl rfl) c0_0 ?_
          simp only [Act.put, Z1, Z2, Z3]
          refine Held.skip 29 (some 32) rfl rfl (by kernel_rfl) (by kernel_rfl) (by kernel_rfl) (fun _ _ _ h => h) rfl c0_0 ?_
          simp only [Act.put, Z1, Z2, Z3]
          refine Held.skip 30 (some 33) rfl rfl (by kernel_rfl) (by kernel_rfl) (by kernel_rfl) (fun _ _ _ h => h) rfl c0_0 ?_
          simp only [Act.put, Z1, Z2, Z3]
          refine Held.skip 31 (some 34) rfl rfl (by kernel_rfl) (by kernel_rfl) (by kernel_rfl) (fun _ _ _ h => h) rfl c0_0 ?_
          simp only [Act.put, Z1, Z2, Z3]
          refine Held.tk (v := (.bool true)) 32 (some 35) rfl (Held.y_pick rfl rfl rfl) c0_0 ?_
          simp only [Act.put, Z1, Z2, Z3]
          refine Held.tk (v := (.bool true)) 33 (some 36) rfl (Held.y_move rfl rfl) c0_0 ?_
          simp only [Act.put, Z1, Z2, Z3]
          refine Held.skip 34 (some 37) rfl rfl (by kernel_rfl) (by kernel_rfl) (by kernel_rfl) (fun _ _ _ h => h) rfl c0_0 ?_
          simp only [Act.put, Z1, Z2, Z3]
          refine Held.skip 35 (some 38) rfl rfl (by kernel_rfl) (by kernel_rfl) (by kernel_rfl) (fun _ _ _ h => h) rfl c0_0 ?_
          simp only [Act.put, Z1, Z2, Z3]
          refine Held.skip 36 (some 39) rfl rfl (by kernel_rfl) (by kernel_rfl) (by kernel_rfl) (fun _ _ _ h => h) rfl c0_0 ?_
          simp only [Act.put, Z1, Z2, Z3]
          refine Held.tk (v := (.bool true)) 37 (some 40) rfl (Held.y_pick rfl rfl rfl) c0_0 ?_
          simp only [Act.put, Z1, Z2, Z3]
          refine Held.tk (v := (.bool true)) 38 (some 41) rfl (Held.y_move rfl rfl) c0_0 ?_
          simp only [Act.put, Z1, Z2, Z3]
          refine Held.skip 39 (some 42) rfl rfl (by kernel_rfl) (by kernel_rfl) (by kernel_rfl) (fun _ _ _ h => h) rfl c0_0 ?_
          simp only [Act.put, Z1, Z2, Z3]
          refine Held.skip 40 (some 43) rfl rfl (by kernel_rfl) (by kernel_rfl) (by kernel_rfl) (fun _ _ _ h => h) rfl c0_0 ?_
          simp only [Act.put, Z1, Z2, Z3]
          refine Held.skip 41 (some 44) rfl rfl (by kernel_rfl) (by kernel_rfl) (by kernel_rfl) (fun _ _ _ h => h) rfl c0_0 ?_
          simp only [Act.put, Z1, Z2, Z3]
          refine Held.skip 42 (some 45) rfl rfl (by kernel_rfl) (by kernel_rfl) (by kernel_rfl) (fun _ _ _ h => h) rfl c0_0 ?_
          simp only [Act.put, Z1, Z2, Z3]
          refine Held.skip 43 (some 46) rfl rfl (by kernel_rfl) (by kernel_rfl) (by kernel_rfl) (fun _ _ _ h => h) rfl c0_0 ?_
          simp only [Act.put, Z1, Z2, Z3]
          refine Held.skip 44 (some 47) rfl rfl (by kernel_rfl) (by kernel_rfl) (by kernel_rfl) (fun _ _ _ h => h) rfl c0_0 ?_
          simp only [Act.put, Z1, Z2, Z3]
          refine Held.skip 45 (some 48) rfl rfl (by kernel_rfl) (by kernel_rfl) (by kernel_rfl) (fun _ _ _ h => h) rfl c0_0 ?_
          simp only [Act.put, Z1, Z2, Z3]
          refine Held.skip 46 (some 49) rfl rfl (by kernel_rfl) (by kernel_rfl) (by kernel_rfl) (fun _ _ _ h => h) rfl c0_0 ?_
          simp only [Act.put, Z1, Z2, Z3]
          refine Held.skip 47 (some 50) rfl rfl (by kernel_rfl) (by kernel_rfl) (by kernel_rfl) (fun _ _ _ h => h) rfl c0_0 ?_
          simp only [Act.put, Z1, Z2, Z3]
          refine Held.skip 48 (some 51) rfl rfl (by kernel_rfl) (by kernel_rfl) (by kernel_rfl) (fun _ _ _ h => h) rfl c0_0 ?_
          simp only [Act.put, Z1, Z2, Z3]
          refine Held.skip 49 (some 52) rfl rfl (by kernel_rfl) (by kernel_rfl) (by kernel_rfl) (fun _ _ _ h => h) rfl c0_0 ?_
          simp only [Act.put, Z1, Z2, Z3]
          refine Held.skip 50 (some 53) rfl rfl (by kernel_rfl) (by kernel_rfl) (by kernel_rfl) (fun _ _ _ h => h) rfl c0_0 ?_
          simp only [Act.put, Z1, Z2, Z3]
          refine Held.skip 51 (some 54) rfl rfl (by kernel_rfl) (by kernel_rfl) (by kernel_rfl) (fun _ _ _ h => h) rfl c0_0 ?_
          simp only [Act.put, Z1, Z2, Z3]
          refine Held.tk (v := (.bool true)) 52 (some 55) rfl (Held.y_pick rfl rfl rfl) c0_0 ?_
          simp only [Act.put, Z1, Z2, Z3]
          refine wpAnyH_done (by kernel_rfl) ?_ _
          have bz := bo1.trans (c0_0.mono bo1.size)
          go_wp2_with fail
          go_ret
          exact ⟨(by rw [HE.out]; rfl), bz⟩
      · have hx := of_decide_eq_true Hbq11.out
        have HE := Lib.hid (show Sp.rightE r k b wk = 1 by rw [Sp.rightE, if_neg (fun h => by have := right_says h; omega)])
        clear hx
        refine Held.skip 14 (some 17) rfl rfl (by kernel_rfl) (by kernel_rfl) (by kernel_rfl) (fun _ _ _ h => h) rfl c0_0 ?_
        simp only [Act.put, Z1, Z2, Z3]
        refine Held.skip 15 (some 18) rfl rfl (by kernel_rfl) (by kernel_rfl) (by kernel_rfl) (fun _ _ _ h => h) rfl c0_0 ?_
        simp only [Act.put, Z1, Z2, Z3]
        refine Held.skip 16 (some 19) rfl rfl (by kernel_rfl) (by kernel_rfl) (by kernel_rfl) (fun _ _ _ h => h) rfl c0_0 ?_
        simp only [Act.put, Z1, Z2, Z3]
        refine Held.tk (v := (.bool true)) 17 (some 20) rfl (Held.y_pick rfl rfl rfl) c0_0 ?_
        simp only [Act.put, Z1, Z2, Z3]
        refine Held.tk (v := (.bool true)) 18 (some 21) rfl (Held.y_move rfl rfl) c0_0 ?_
        simp only [Act.put, Z1, Z2, Z3]
        refine Held.skip 19 (some 22) rfl rfl (by kernel_rfl) (by kernel_rfl) (by kernel_rfl) (fun _ _ _ h => h) rfl c0_0 ?_
        simp only [Act.put, Z1, Z2, Z3]
        refine Held.skip 20 (some 23) rfl rfl (by kernel_rfl) (by kernel_rfl) (by kernel_rfl) (fun _ _ _ h => h) rfl c0_0 ?_
        simp only [Act.put, Z1, Z2, Z3]
        refine Held.skip 21 (some 24) rfl rfl (by kernel_rfl) (by kernel_rfl) (by kernel_rfl) (fun _ _ _ h => h) rfl c0_0 ?_
        simp only [Act.put, Z1, Z2, Z3]
        refine Held.tk (v := (.bool true)) 22 (some 25) rfl (Held.y_pick rfl rfl rfl) c0_0 ?_
        simp only [Act.put, Z1, Z2, Z3]
        refine Held.tk (v := (.bool true)) 23 (some 26) rfl (Held.y_move rfl rfl) c0_0 ?_
        simp only [Act.put, Z1, Z2, Z3]
        refine Held.skip 24 (some 27) rfl rfl (by kernel_rfl) (by kernel_rfl) (by kernel_rfl) (fun _ _ _ h => h) rfl c0_0 ?_
        simp only [Act.put, Z1, Z2, Z3]
        refine Held.skip 25 (some 28) rfl rfl (by kernel_rfl) (by kernel_rfl) (by kernel_rfl) (fun _ _ _ h => h) rfl c0_0 ?_
        simp only [Act.put, Z1, Z2, Z3]
        refine Held.skip 26 (some 29) rfl rfl (by kernel_rfl) (by kernel_rfl) (by kernel_rfl) (fun _ _ _ h => h) rfl c0_0 ?_
        simp only [Act.put, Z1, Z2, Z3]
        refine Held.tk (v := (.bool true)) 27 (some 30) rfl (Held.y_pick rfl rfl rfl) c0_0 ?_
        simp only [Act.put, Z1, Z2, Z3]
        refine Held.tk (v := (.bool true)) 28 (some 31) rfl (Held.y_move rfl rfl) c0_0 ?_
        simp only [Act.put, Z1, Z2, Z3]
        refine Held.skip 29 (some 32) rfl rfl (by kernel_rfl) (by kernel_rfl) (by kernel_rfl) (fun _ _ _ h => h) rfl c0_0 ?_
        simp only [Act.put, Z1, Z2, Z3]
        refine Held.skip 30 (some 33) rfl rfl (by kernel_rfl) (by kernel_rfl) (by kernel_rfl) (fun _ _ _ h => h) rfl c0_0 ?_
        simp only [Act.put, Z1, Z2, Z3]
        refine Held.skip 31 (some 34) rfl rfl (by kernel_rfl) (by kernel_rfl) (by kernel_rfl) (fun _ _ _ h => h) rfl c0_0 ?_
        simp only [Act.put, Z1, Z2, Z3]
        refine Held.tk (v := (.bool true)) 32 (some 35) rfl (Held.y_pick rfl rfl rfl) c0_0 ?_
        simp only [Act.put, Z1, Z2, Z3]
        refine Held.tk (v := (.bool true)) 33 (some 36) rfl (Held.y_move rfl rfl) c0_0 ?_
        simp only [Act.put, Z1, Z2, Z3]
        refine Held.skip 34 (some 37) rfl rfl (by kernel_rfl) (by kernel_rfl) (by kernel_rfl) (fun _ _ _ h => h) rfl c0_0 ?_
        simp only [Act.put, Z1, Z2, Z3]
        refine Held.skip 35 (some 38) rfl rfl (by kernel_rfl) (by kernel_rfl) (by kernel_rfl) (fun _ _ _ h => h) rfl c0_0 ?_
        simp only [Act.put, Z1, Z2, Z3]
        refine Held.skip 36 (some 39) rfl rfl (by kernel_rfl) (by kernel_rfl) (by kernel_rfl) (fun _ _ _ h => h) rfl c0_0 ?_
        simp only [Act.put, Z1, Z2, Z3]
        refine Held.tk (v := (.bool true)) 37 (some 40) rfl (Held.y_pick rfl rfl rfl) c0_0 ?_
        simp only [Act.put, Z1, Z2, Z3]
        refine Held.tk (v := (.bool true)) 38 (some 41) rfl (Held.y_move rfl rfl) c0_0 ?_
        simp only [Act.put, Z1, Z2, Z3]
        refine Held.skip 39 (some 42) rfl rfl (by kernel_rfl) (by kernel_rfl) (by kernel_rfl) (fun _ _ _ h => h) rfl c0_0 ?_
        simp only [Act.put, Z1, Z2, Z3]
        refine Held.skip 40 (some 43) rfl rfl (by kernel_rfl) (by kernel_rfl) (by kernel_rfl) (fun _ _ _ h => h) rfl c0_0 ?_
        simp only [Act.put, Z1, Z2, Z3]
        refine Held.skip 41 (some 44) rfl rfl (by kernel_rfl) (by kernel_rfl) (by kernel_rfl) (fun _ _ _ h => h) rfl c0_0 ?_
        simp only [Act.put, Z1, Z2, Z3]
        refine Held.skip 42 (some 45) rfl rfl (by kernel_rfl) (by kernel_rfl) (by kernel_rfl) (fun _ _ _ h => h) rfl c0_0 ?_
        simp only [Act.put, Z1, Z2, Z3]
        refine Held.skip 43 (some 46) rfl rfl (by kernel_rfl) (by kernel_rfl) (by kernel_rfl) (fun _ _ _ h => h) rfl c0_0 ?_
        simp only [Act.put, Z1, Z2, Z3]
        refine Held.skip 44 (some 47) rfl rfl (by kernel_rfl) (by kernel_rfl) (by kernel_rfl) (fun _ _ _ h => h) rfl c0_0 ?_
        simp only [Act.put, Z1, Z2, Z3]
        refine Held.skip 45 (some 48) rfl rfl (by kernel_rfl) (by kernel_rfl) (by kernel_rfl) (fun _ _ _ h => h) rfl c0_0 ?_
        simp only [Act.put, Z1, Z2, Z3]
        refine Held.skip 46 (some 49) rfl rfl (by kernel_rfl) (by kernel_rfl) (by kernel_rfl) (fun _ _ _ h => h) rfl c0_0 ?_
        simp only [Act.put, Z1, Z2, Z3]
        refine Held.skip 47 (some 50) rfl rfl (by kernel_rfl) (by kernel_rfl) (by kernel_rfl) (fun _ _ _ h => h) rfl c0_0 ?_
        simp only [Act.put, Z1, Z2, Z3]
        refine Held.skip 48 (some 51) rfl rfl (by kernel_rfl) (by kernel_rfl) (by kernel_rfl) (fun _ _ _ h => h) rfl c0_0 ?_
        simp only [Act.put, Z1, Z2, Z3]
        refine Held.skip 49 (some 52) rfl rfl (by kernel_rfl) (by kernel_rfl) (by kernel_rfl) (fun _ _ _ h => h) rfl c0_0 ?_
        simp only [Act.put, Z1, Z2, Z3]
        refine Held.skip 50 (some 53) rfl rfl (by kernel_rfl) (by kernel_rfl) (by kernel_rfl) (fun _ _ _ h => h) rfl c0_0 ?_
        simp only [Act.put, Z1, Z2, Z3]
        refine Held.skip 51 (some 54) rfl rfl (by kernel_rfl) (by kernel_rfl) (by kernel_rfl) (fun _ _ _ h => h) rfl c0_0 ?_
        simp only [Act.put, Z1, Z2, Z3]
        refine Held.tk (v := (.bool true)) 52 (some 55) rfl (Held.y_pick rfl rfl rfl) c0_0 ?_
        simp only [Act.put, Z1, Z2, Z3]
        refine wpAnyH_done (by kernel_rfl) ?_ _
        have bz := bo1.trans (c0_0.mono bo1.size)
        go_wp2_with fail
        go_ret
        exact ⟨(by rw [HE.out]; rfl), bz⟩
    · have hx := of_decide_eq_true Hbq6.out
      have HE := Lib.hid (show Sp.rightE r k b wk = 1 by rw [Sp.rightE, if_neg (fun h => by have := right_says h; omega)])
      clear hx
      refine Held.skip 9 (some 12) rfl rfl (by kernel_rfl) (by kernel_rfl) (by kernel_rfl) (fun _ _ _ h => h) rfl c0_0 ?_
      simp only [Act.put, Z1, Z2, Z3]
      refine Held.skip 10 (some 13) rfl rfl (by kernel_rfl) (by kernel_rfl) (by kernel_rfl) (fun _ _ _ h => h) rfl c0_0 ?_
      simp only [Act.put, Z1, Z2, Z3]
      refine Held.skip 11 (some 14) rfl rfl (by kernel_rfl) (by kernel_rfl) (by kernel_rfl) (fun _ _ _ h => h) rfl c0_0 ?_
      simp only [Act.put, Z1, Z2, Z3]
      refine Held.tk (v := (.bool true)) 12 (some 15) rfl (Held.y_pick rfl rfl rfl) c0_0 ?_
      simp only [Act.put, Z1, Z2, Z3]
      refine Held.tk (v := (.bool true)) 13 (some 16) rfl (Held.y_move rfl rfl) c0_0 ?_
      simp only [Act.put, Z1, Z2, Z3]
      refine Held.skip 14 (some 17) rfl rfl (by kernel_rfl) (by kernel_rfl) (by kernel_rfl) (fun _ _ _ h => h) rfl c0_0 ?_
      simp only [Act.put, Z1, Z2, Z3]
      refine Held.skip 15 (some 18) rfl rfl (by kernel_rfl) (by kernel_rfl) (by kernel_rfl) (fun _ _ _ h => h) rfl c0_0 ?_
      simp only [Act.put, Z1, Z2, Z3]
      refine Held.skip 16 (some 19) rfl rfl (by kernel_rfl) (by kernel_rfl) (by kernel_rfl) (fun _ _ _ h => h) rfl c0_0 ?_
      simp only [Act.put, Z1, Z2, Z3]
      refine Held.tk (v := (.bool true)) 17 (some 20) rfl (Held.y_pick rfl rfl rfl) c0_0 ?_
      simp only [Act.put, Z1, Z2, Z3]
      refine Held.tk (v := (.bool true)) 18 (some 21) rfl (Held.y_move rfl rfl) c0_0 ?_
      simp only [Act.put, Z1, Z2, Z3]
      refine Held.skip 19 (some 22) rfl rfl (by kernel_rfl) (by kernel_rfl) (by kernel_rfl) (fun _ _ _ h => h) rfl c0_0 ?_
      simp only [Act.put, Z1, Z2, Z3]
      refine Held.skip 20 (some 23) rfl rfl (by kernel_rfl) (by kernel_rfl) (by kernel_rfl) (fun _ _ _ h => h) rfl c0_0 ?_
      simp only [Act.put, Z1, Z2, Z3]
      refine Held.skip 21 (some 24) rfl rfl (by kernel_rfl) (by kernel_rfl) (by kernel_rfl) (fun _ _ _ h => h) rfl c0_0 ?_
      simp only [Act.put, Z1, Z2, Z3]
      refine Held.tk (v := (.bool true)) 22 (some 25) rfl (Held.y_pick rfl rfl rfl) c0_0 ?_
      simp only [Act.put, Z1, Z2, Z3]
      refine Held.tk (v := (.bool true)) 23 (some 26) rfl (Held.y_move rfl rfl) c0_0 ?_
      simp only [Act.put, Z1, Z2, Z3]
      refine Held.skip 24 (some 27) rfl rfl (by kernel_rfl) (by kernel_rfl) (by kernel_rfl) (fun _ _ _ h => h) rfl c0_0 ?_
      simp only [Act.put, Z1, Z2, Z3]
      refine Held.skip 25 (some 28) rfl rfl (by kernel_rfl) (by kernel_rfl) (by kernel_rfl) (fun _ _ _ h => h) rfl c0_0 ?_
      simp only [Act.put, Z1, Z2, Z3]
      refine Held.skip 26 (some 29) rfl rfl (by kernel_rfl) (by kernel_rfl) (by kernel_rfl) (fun _ _ _ h => h) rfl c0_0 ?_
      simp only [Act.put, Z1, Z2, Z3]
      refine Held.tk (v := (.bool true)) 27 (some 30) rfl (Held.y_pick rfl rfl rfl) c0_0 ?_
      simp only [Act.put, Z1, Z2, Z3]
      refine Held.tk (v := (.bool true)) 28 (some 31) rfl (Held.y_move rfl rfl) c0_0 ?_
      simp only [Act.put, Z1, Z2, Z3]
      refine Held.skip 29 (some 32) rfl rfl (by kernel_rfl) (by kernel_rfl) (by kernel_rfl) (fun _ _ _ h => h) rfl c0_0 ?_
      simp only [Act.put, Z1, Z2, Z3]
      refine Held.skip 30 (some 33) rfl rfl (by kernel_rfl) (by kernel_rfl) (by kernel_rfl) (fun _ _ _ h => h) rfl c0_0 ?_
      simp only [Act.put, Z1, Z2, Z3]
      refine Held.skip 31 (some 34) rfl rfl (by kernel_rfl) (by kernel_rfl) (by kernel_rfl) (fun _ _ _ h => h) rfl c0_0 ?_
      simp only [Act.put, Z1, Z2, Z3]
      refine Held.tk (v := (.bool true)) 32 (some 35) rfl (Held.y_pick rfl rfl rfl) c0_0 ?_
      simp only [Act.put, Z1, Z2, Z3]
      refine Held.tk (v := (.bool true)) 33 (some 36) rfl (Held.y_move rfl rfl) c0_0 ?_
      simp only [Act.put, Z1, Z2, Z3]
      refine Held.skip 34 (some 37) rfl rfl (by kernel_rfl) (by kernel_rfl) (by kernel_rfl) (fun _ _ _ h => h) rfl c0_0 ?_
      simp only [Act.put, Z1, Z2, Z3]
      refine Held.skip 35 (some 38) rfl rfl (by kernel_rfl) (by kernel_rfl) (by kernel_rfl) (fun _ _ _ h => h) rfl c0_0 ?_
      simp only [Act.put, Z1, Z2, Z3]
      refine Held.skip 36 (some 39) rfl rfl (by kernel_rfl) (by kernel_rfl) (by kernel_rfl) (fun _ _ _ h => h) rfl c0_0 ?_
      simp only [Act.put, Z1, Z2, Z3]
      refine Held.tk (v := (.bool true)) 37 (some 40) rfl (Held.y_pick rfl rfl rfl) c0_0 ?_
      simp only [Act.put, Z1, Z2, Z3]
      refine Held.tk (v := (.bool true)) 38 (some 41) rfl (Held.y_move rfl rfl) c0_0 ?_
      simp only [Act.put, Z1, Z2, Z3]
      refine Held.skip 39 (some 42) rfl rfl (by kernel_rfl) (by kernel_rfl) (by kernel_rfl) (fun _ _ _ h => h) rfl c0_0 ?_
      simp only [Act.put, Z1, Z2, Z3]
      refine Held.skip 40 (some 43) rfl rfl (by kernel_rfl) (by kernel_rfl) (by kernel_rfl) (fun _ _ _ h => h) rfl c0_0 ?_
      simp only [Act.put, Z1, Z2, Z3]
      refine Held.skip 41 (some 44) rfl rfl (by kernel_rfl) (by kernel_rfl) (by kernel_rfl) (fun _ _ _ h => h) rfl c0_0 ?_
      simp only [Act.put, Z1, Z2, Z3]
      refine Held.skip 42 (some 45) rfl rfl (by kernel_rfl) (by kernel_rfl) (by kernel_rfl) (fun _ _ _ h => h) rfl c0_0 ?_
      simp only [Act.put, Z1, Z2, Z3]
      refine Held.skip 43 (some 46) rfl rfl (by kernel_rfl) (by kernel_rfl) (by kernel_rfl) (fun _ _ _ h => h) rfl c0_0 ?_
      simp only [Act.put, Z1, Z2, Z3]
      refine Held.skip 44 (some 47) rfl rfl (by kernel_rfl) (by kernel_rfl) (by kernel_rfl) (fun _ _ _ h => h) rfl c0_0 ?_
      simp only [Act.put, Z1, Z2, Z3]
      refine Held.skip 45 (some 48) rfl rfl (by kernel_rfl) (by kernel_rfl) (by kernel_rfl) (fun _ _ _ h => h) rfl c0_0 ?_
      simp only [Act.put, Z1, Z2, Z3]
      refine Held.skip 46 (some 49) rfl rfl (by kernel_rfl) (by kernel_rfl) (by kernel_rfl) (fun _ _ _ h => h) rfl c0_0 ?_
      simp only [Act.put, Z1, Z2, Z3]
      refine Held.skip 47 (some 50) rfl rfl (by kernel_rfl) (by kernel_rfl) (by kernel_rfl) (fun _ _ _ h => h) rfl c0_0 ?_
      simp only [Act.put, Z1, Z2, Z3]
      refine Held.skip 48 (some 51) rfl rfl (by kernel_rfl) (by kernel_rfl) (by kernel_rfl) (fun _ _ _ h => h) rfl c0_0 ?_
      simp only [Act.put, Z1, Z2, Z3]
      refine Held.skip 49 (some 52) rfl rfl (by kernel_rfl) (by kernel_rfl) (by kernel_rfl) (fun _ _ _ h => h) rfl c0_0 ?_
      simp only [Act.put, Z1, Z2, Z3]
      refine Held.skip 50 (some 53) rfl rfl (by kernel_rfl) (by kernel_rfl) (by kernel_rfl) (fun _ _ _ h => h) rfl c0_0 ?_
      simp only [Act.put, Z1, Z2, Z3]
      refine Held.skip 51 (some 54) rfl rfl (by kernel_rfl) (by kernel_rfl) (by kernel_rfl) (fun _ _ _ h => h) rfl c0_0 ?_
      simp only [Act.put, Z1, Z2, Z3]
      refine Held.tk (v := (.bool true)) 52 (some 55) rfl (Held.y_pick rfl rfl rfl) c0_0 ?_
      simp only [Act.put, Z1, Z2, Z3]
      refine wpAnyH_done (by kernel_rfl) ?_ _
      have bz := bo1.trans (c0_0.mono bo1.size)
      go_wp2_with fail
      go_ret
      exact ⟨(by rw [HE.out]; rfl), bz⟩
  · have hx := of_decide_eq_true Hbq2.out
    have HE := Lib.hid (show Sp.rightE r k b wk = 1 by rw [Sp.rightE, if_neg (fun h => by have := right_says h; omega)])
    clear hx
    refine Held.skip 4 (some 7) rfl rfl (by kernel_rfl) (by kernel_rfl) (by kernel_rfl) (fun _ _ _ h => h) rfl c0_0 ?_
    simp only [Act.put, Z1, Z2, Z3]
    refine Held.skip 5 (some 8) rfl rfl (by kernel_rfl) (by kernel_rfl) (by kernel_rfl) (fun _ _ _ h => h) rfl c0_0 ?_
    simp only [Act.put, Z1, Z2, Z3]
    refine Held.skip 6 (some 9) rfl rfl (by kernel_rfl) (by kernel_rfl) (by kernel_rfl) (fun _ _ _ h => h) rfl c0_0 ?_
    simp only [Act.put, Z1, Z2, Z3]
    refine Held.tk (v := (.bool true)) 7 (some 10) rfl (Held.y_pick rfl rfl rfl) c0_0 ?_
    simp only [Act.put, Z1, Z2, Z3]
    refine Held.tk (v := (.bool true)) 8 (some 11) rfl (Held.y_move rfl rfl) c0_0 ?_
    simp only [Act.put, Z1, Z2, Z3]
    refine Held.skip 9 (some 12) rfl rfl (by kernel_rfl) (by kernel_rfl) (by kernel_rfl) (fun _ _ _ h => h) rfl c0_0 ?_
    simp only [Act.put, Z1, Z2, Z3]
    refine Held.skip 10 (some 13) rfl rfl (by kernel_rfl) (by kernel_rfl) (by kernel_rfl) (fun _ _ _ h => h) rfl c0_0 ?_
    simp only [Act.put, Z1, Z2, Z3]
    refine Held.skip 11 (some 14) rfl rfl (by kernel_rfl) (by kernel_rfl) (by kernel_rfl) (fun _ _ _ h => h) rfl c0_0 ?_
    simp only [Act.put, Z1, Z2, Z3]
    refine Held.tk (v := (.bool true)) 12 (some 15) rfl (Held.y_pick rfl rfl rfl) c0_0 ?_
    simp only [Act.put, Z1, Z2, Z3]
    refine Held.tk (v := (.bool true)) 13 (some 16) rfl (Held.y_move rfl rfl) c0_0 ?_
    simp only [Act.put, Z1, Z2, Z3]
    refine Held.skip 14 (some 17) rfl rfl (by kernel_rfl) (by kernel_rfl) (by kernel_rfl) (fun _ _ _ h => h) rfl c0_0 ?_
    simp only [Act.put, Z1, Z2, Z3]
    refine Held.skip 15 (some 18) rfl rfl (by kernel_rfl) (by kernel_rfl) (by kernel_rfl) (fun _ _ _ h => h) rfl c0_0 ?_
    simp only [Act.put, Z1, Z2, Z3]
    refine Held.skip 16 (some 19) rfl rfl (by kernel_rfl) (by kernel_rfl) (by kernel_rfl) (fun _ _ _ h => h) rfl c0_0 ?_
    simp only [Act.put, Z1, Z2, Z3]
    refine Held.tk (v := (.bool true)) 17 (some 20) rfl (Held.y_pick rfl rfl rfl) c0_0 ?_
    simp only [Act.put, Z1, Z2, Z3]
    refine Held.tk (v := (.bool true)) 18 (some 21) rfl (Held.y_move rfl rfl) c0_0 ?_
    simp only [Act.put, Z1, Z2, Z3]
    refine Held.skip 19 (some 22) rfl rfl (by kernel_rfl) (by kernel_rfl) (by kernel_rfl) (fun _ _ _ h => h) rfl c0_0 ?_
    simp only [Act.put, Z1, Z2, Z3]
    refine Held.skip 20 (some 23) rfl rfl (by kernel_rfl) (by kernel_rfl) (by kernel_rfl) (fun _ _ _ h => h) rfl c0_0 ?_
    simp only [Act.put, Z1, Z2, Z3]
    refine Held.skip 21 (some 24) rfl rfl (by kernel_rfl) (by kernel_rfl) (by kernel_rfl) (fun _ _ _ h => h) rfl c0_0 ?_
    simp only [Act.put, Z1, Z2, Z3]
    refine Held.tk (v := (.bool true)) 22 (some 25) rfl (Held.y_pick rfl rfl rfl) c0_0 ?_
    simp only [Act.put, Z1, Z2, Z3]
    refine Held.tk (v := (.bool true)) 23 (some 26) rfl (Held.y_move rfl rfl) c0_0 ?_
    simp only [Act.put, Z1, Z2, Z3]
    refine Held.skip 24 (some 27) rfl rfl (by kernel_rfl) (by kernel_rfl) (by kernel_rfl) (fun _ _ _ h => h) rfl c0_0 ?_
    simp only [Act.put, Z1, Z2, Z3]
    refine Held.skip 25 (some 28) rfl rfl (by kernel_rfl) (by kernel_rfl) (by kernel_rfl) (fun _ _ _ h => h) rfl c0_0 ?_
    simp only [Act.put, Z1, Z2, Z3]
    refine Held.skip 26 (some 29) rfl rfl (by kernel_rfl) (by kernel_rfl) (by kernel_rfl) (fun _ _ _ h => h) rfl c0_0 ?_
    simp only [Act.put, Z1, Z2, Z3]
    refine Held.tk (v := (.bool true)) 27 (some 30) rfl (Held.y_pick rfl rfl rfl) c0_0 ?_
    simp only [Act.put, Z1, Z2, Z3]
    refine Held.tk (v := (.bool true)) 28 (some 31) rfl (Held.y_move rfl rfl) c0_0 ?_
    simp only [Act.put, Z1, Z2, Z3]
    refine Held.skip 29 (some 32) rfl rfl (by kernel_rfl) (by kernel_rfl) (by kernel_rfl) (fun _ _ _ h => h) rfl c0_0 ?_
    simp only [Act.put, Z1, Z2, Z3]
    refine Held.skip 30 (some 33) rfl rfl (by kernel_rfl) (by kernel_rfl) (by kernel_rfl) (fun _ _ _ h => h) rfl c0_0 ?_
    simp only [Act.put, Z1, Z2, Z3]
    refine Held.skip 31 (some 34) rfl rfl (by kernel_rfl) (by kernel_rfl) (by kernel_rfl) (fun _ _ _ h => h) rfl c0_0 ?_
    simp only [Act.put, Z1, Z2, Z3]
    refine Held.tk (v := (.bool true)) 32 (some 35) rfl (Held.y_pick rfl rfl rfl) c0_0 ?_
    simp only [Act.put, Z1, Z2, Z3]
    refine Held.tk (v := (.bool true)) 33 (some 36) rfl (Held.y_move rfl rfl) c0_0 ?_
    simp only [Act.put, Z1, Z2, Z3]
    refine Held.skip 34 (some 37) rfl rfl (by kernel_rfl) (by kernel_rfl) (by kernel_rfl) (fun _ _ _ h => h) rfl c0_0 ?_
    simp only [Act.put, Z1, Z2, Z3]
    refine Held.skip 35 (some 38) rfl rfl (by kernel_rfl) (by kernel_rfl) (by kernel_rfl) (fun _ _ _ h => h) rfl c0_0 ?_
    simp only [Act.put, Z1, Z2, Z3]
    refine Held.skip 36 (some 39) rfl rfl (by kernel_rfl) (by kernel_rfl) (by kernel_rfl) (fun _ _ _ h => h) rfl c0_0 ?_
    simp only [Act.put, Z1, Z2, Z3]
    refine Held.tk (v := (.bool true)) 37 (some 40) rfl (Held.y_pick rfl rfl rfl) c0_0 ?_
    simp only [Act.put, Z1, Z2, Z3]
    refine Held.tk (v := (.bool true)) 38 (some 41) rfl (Held.y_move rfl rfl) c0_0 ?_
    simp only [Act.put, Z1, Z2, Z3]
    refine Held.skip 39 (some 42) rfl rfl (by kernel_rfl) (by kernel_rfl) (by kernel_rfl) (fun _ _ _ h => h) rfl c0_0 ?_
    simp only [Act.put, Z1, Z2, Z3]
    refine Held.skip 40 (some 43) rfl rfl (by kernel_rfl) (by kernel_rfl) (by kernel_rfl) (fun _ _ _ h => h) rfl c0_0 ?_
    simp only [Act.put, Z1, Z2, Z3]
    refine Held.skip 41 (some 44) rfl rfl (by kernel_rfl) (by kernel_rfl) (by kernel_rfl) (fun _ _ _ h => h) rfl c0_0 ?_
    simp only [Act.put, Z1, Z2, Z3]
    refine Held.skip 42 (some 45) rfl rfl (by kernel_rfl) (by kernel_rfl) (by kernel_rfl) (fun _ _ _ h => h) rfl c0_0 ?_
    simp only [Act.put, Z1, Z2, Z3]
    refine Held.skip 43 (some 46) rfl rfl (by kernel_rfl) (by kernel_rfl) (by kernel_rfl) (fun _ _ _ h => h) rfl c0_0 ?_
    simp only [Act.put, Z1, Z2, Z3]
    refine Held.skip 44 (some 47) rfl rfl (by kernel_rfl) (by kernel_rfl) (by kernel_rfl) (fun _ _ _ h => h) rfl c0_0 ?_
    simp only [Act.put, Z1, Z2, Z3]
    refine Held.skip 45 (some 48) rfl rfl (by kernel_rfl) (by kernel_rfl) (by kernel_rfl) (fun _ _ _ h => h) rfl c0_0 ?_
    simp only [Act.put, Z1, Z2, Z3]
    refine Held.skip 46 (some 49) rfl rfl (by kernel_rfl) (by kernel_rfl) (by kernel_rfl) (fun _ _ _ h => h) rfl c0_0 ?_
    simp only [Act.put, Z1, Z2, Z3]
    refine Held.skip 47 (some 50) rfl rfl (by kernel_rfl) (by kernel_rfl) (by kernel_rfl) (fun _ _ _ h => h) rfl c0_0 ?_
    simp only [Act.put, Z1, Z2, Z3]
    refine Held.skip 48 (some 51) rfl rfl (by kernel_rfl) (by kernel_rfl) (by kernel_rfl) (fun _ _ _ h => h) rfl c0_0 ?_
    simp only [Act.put, Z1, Z2, Z3]
    refine Held.skip 49 (some 52) rfl rfl (by kernel_rfl) (by kernel_rfl) (by kernel_rfl) (fun _ _ _ h => h) rfl c0_0 ?_
    simp only [Act.put, Z1, Z2, Z3]
    refine Held.skip 50 (some 53) rfl rfl (by kernel_rfl) (by kernel_rfl) (by kernel_rfl) (fun _ _ _ h => h) rfl c0_0 ?_
    simp only [Act.put, Z1, Z2, Z3]
    refine Held.skip 51 (some 54) rfl rfl (by kernel_rfl) (by kernel_rfl) (by kernel_rfl) (fun _ _ _ h => h) rfl c0_0 ?_
    simp only [Act.put, Z1, Z2, Z3]
    refine Held.tk (v := (.bool true)) 52 (some 55) rfl (Held.y_pick rfl rfl rfl) c0_0 ?_
    simp only [Act.put, Z1, Z2, Z3]
    refine wpAnyH_done (by kernel_rfl) ?_ _
    have bz := bo1.trans (c0_0.mono bo1.size)
    go_wp2_with fail
    go_ret
    exact ⟨(by rw [HE.out]; rfl), bz⟩
set_option maxRecDepth 100000 in
set_option maxHeartbeats 4000000 in
theorem rblocks_any (r k b wk : Int) (w : World) :
    Calls Tryd.prog 29 #[.agg #[.int .i64 r, .int .i64 k, .int .i64 b, .int .i64 wk]] w fun e w' => e = .returned (.tuple #[.int .i64 (inN r k b wk : Int), .int .i64 (mN r k b wk : Int)]) ∧ Below w.heap.size w w' := by
  by_cases hR : Sp.rightB r k b wk = true
  · have HI := Lib.hid (show (inN r k b wk : Int) = (r + b - 1) / b by
      obtain ⟨_, _, _, _, h, _⟩ := right_says hR
      rw [inN, if_pos hR]; omega)
    have HM := Lib.hid (show (mN r k b wk : Int) = Bi.padV (k * ((r + b - 1) / b) + 1) by
      rw [mN, if_pos hR]; unfold Bi.padV; have := Bi.two_pos (Bi.padS (k * ((r + b - 1) / b) + 1)); omega)
    obtain ⟨⟨hr1, hr⟩, ⟨hk1, hk⟩, ⟨hb1, hb⟩, ⟨hw1, hw4⟩, ⟨hi1, hi⟩, hq1, hq⟩ := right_says hR
    have HR := Lib.hid (show Sp.rightE r k b wk = 0 by rw [Sp.rightE, if_pos hR])
    have e1 : IntKind.i64.wrap (r + b) = r + b := by rw [IntKind.wrap_i64]; omega
    have e2 : IntKind.i64.wrap (r + b - 1) = r + b - 1 := by rw [IntKind.wrap_i64]; omega
    have hb0 : ¬ b = 0 := by omega
    have hb0' : b ≠ 0 := by omega
    have e3 : Int.tdiv (r + b - 1) b = (r + b - 1) / b := Int.tdiv_eq_ediv_of_nonneg (by omega)
    have e4 : IntKind.i64.wrap ((r + b - 1) / b) = (r + b - 1) / b := by rw [IntKind.wrap_i64]; omega
    have E5 := Lib.hid (show IntKind.i64.wrap ((r + b - 1) / b * k) = k * ((r + b - 1) / b) by rw [Int.mul_comm, IntKind.wrap_i64]; omega)
    have e6 : IntKind.i64.wrap (k * ((r + b - 1) / b) + 1) = k * ((r + b - 1) / b) + 1 := by rw [IntKind.wrap_i64]; omega
    have HP := fun W => Bi.rpadded_any (k * ((r + b - 1) / b) + 1) W (by omega) (by omega)
    rw [HI.out, HM.out]
    clear HI HM
    generalize Bi.padV (k * ((r + b - 1) / b) + 1) = M at *
    generalize (r + b - 1) / b = q at *
    clear hR hq1 hq hi1 hi hw1 hw4
    go_enter Tryd.func29, Tryd.ntmps29
    go_wp2_with (first
      | (refine wpList_box_blk (w := w) rfl 23 _ rfl _ rfl ?_; intro u1 qu1 gu1 zu1; have b1 : Below w.heap.size w u1 := (Below.refl _ w).grown gu1 (Nat.le_refl _) (by simp); clear gu1 zu1)
      | (refine wpList_load_blk (w := u1) rfl 23 _ rfl (w.heap.size) 4 rfl 23 _ qu1 _ Tryd.underlying23 rfl (by kernel_rfl) rfl ?_))
    refine (rright_any r k b wk u1).mono ?_
    rintro e w2 ⟨rfl, b2⟩
    rw [HR.out]
    have q1 := qu1.after b2
    have b2 := b1.trans (b2.mono b1.size)
    have hc0 := q1.cell (i := 0) rfl
    have hc1 := q1.cell (i := 1) rfl
    have hc2 := q1.cell (i := 2) rfl
    clear b1 q1 qu1
    go_wp2_with (first
      | (refine wpList_fld0 (w := w2) rfl rfl rfl Tryd.underlying23 rfl (by kernel_rfl) ?_)
      | (refine Held.wpList_run (w := w2) rfl (v := .int .i64 (k * q)) (Held.y_int (S := fun _ => True) (a := q) (b := k) rfl rfl rfl (Held.run_mul 3 .i64 E5.out) _ trivial) ?_))
    refine (HP w2).mono ?_
    rintro e w3 ⟨rfl, rfl⟩
    go_wp2_with fail
    go_ret2
    exact ⟨rfl, b2⟩
  · have HR := Lib.hid (show Sp.rightE r k b wk = 1 by rw [Sp.rightE, if_neg hR])
    have HI := Lib.hid (show inN r k b wk = 0 by rw [inN, if_neg hR])
    have HM := Lib.hid (show mN r k b wk = 0 by rw [mN, if_neg hR])
    rw [HI.out, HM.out]
    clear HI HM hR
    go_enter Tryd.func29, Tryd.ntmps29
    go_wp2_with (first
      | (refine wpList_box_blk (w := w) rfl 23 _ rfl _ rfl ?_; intro u1 qu1 gu1 zu1; have b1 : Below w.heap.size w u1 := (Below.refl _ w).grown gu1 (Nat.le_refl _) (by simp); clear gu1 zu1)
      | (refine wpList_load_blk (w := u1) rfl 23 _ rfl (w.heap.size) 4 rfl 23 _ qu1 _ Tryd.underlying23 rfl (by kernel_rfl) rfl ?_))
    refine (rright_any r k b wk u1).mono ?_
    rintro e w2 ⟨rfl, b2⟩
    rw [HR.out]
    have b2 := b1.trans (b2.mono b1.size)
    clear b1 qu1
    go_wp2_with fail
    go_ret2
    exact ⟨rfl, b2⟩
end Go.Proofs.YtipmfficjomcoaaDoor.Sh
