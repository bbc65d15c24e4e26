/-
  The document's own Fold and Finish, by their contracts.
  The document's own test of public numbers (package dominoref12's Right), by its contract, where nothing is refused.
  The document's own Map, of a program that may be, and its May, of a job that may be, by their contracts.
  The document's own way to what a job is to tell, plainly: key by key, the least one above what has come, each with its values as one: it tells just what is to be told.
  A region that draws its order and stores into what it has loaded: what hangs on no memory may be taken first, whatever waits for it.
  A list of pairs of the call's own: one value stored, in a region or outside one; what a range over records keeps of such a list in a variable: no program here but types.
-/
import Derived.Test.YtlinmcgmkpkpaaaDoorB15
import Derived.Test.YtlinmcgmkpkpaaaDoorB22
import Derived.Test.YtlinmcgmkpkpaaaDoorB6
import Derived.Test.YtlinmcgmkpkpaaaDoorB14
import Derived.Test.YtlinmcgmkpkpaaaDoorB9
import Derived.Test.YtlinmcgmkpkpaaaDoorB23
import Derived.Test.YtlinmcgmkpkpaaaDoorB12
import Derived.Test.YtlinmcgmkpkpaaaDoorB7
import Derived.Test.YtlinmcgmkpkpaaaDoorB5
import Derived.Test.YtlinmcgmkpkpaaaDoorB1
set_option linter.unusedVariables false
namespace Go.Proofs.YtlinmcgmkpkpaaaDoor.Cn
open Go.RowKit Go.Shelf Go.Proofs.YtlinmcgmkpkpaaaDoor Mem Held Ct Rc Rs Sl Vm
attribute [local irreducible] wpList wpListIn Calls
set_option maxRecDepth 100000 in
set_option maxHeartbeats 8000000 in
theorem rfold_any (B : Nat) (K : Int) (A1 A2 A3 : Option Addr) (n1 c1 n2 c2 n3 c3 : Nat) (m f fi : List O) (x y : Int) (w : World) (hx : (Lit.int .i64 x).wf = true) (hy : (Lit.int .i64 y).wf = true) (h1 : Lst kO w B A1 n1 m) (h2 : Lst kO w B A2 n2 f) (h3 : Lst kO w B A3 n3 fi) (hB : B ≤ w.heap.size) (l1 : n1 ≤ 1048576) (l2 : n2 ≤ 1048576) (l3 : n3 ≤ 1048576) :
    Calls Tryd.prog 24 #[.agg #[.int .i64 K, .slice A1 n1 c1, .slice A2 n2 c2, .slice A3 n3 c3], .int .i64 x, .int .i64 y] w fun e w' => e = .returned (.int .i64 (foldV K m f fi x y)) ∧ Below w.heap.size w w' := by
  go_enter Tryd.func24, Tryd.ntmps24
  by_cases hC : checkB K m f fi = true
  · obtain ⟨_, _, hmm, hmf, hme⟩ := checkB_says hC
    have HC := Lib.hid (show checkE K m f fi = 0 by rw [checkE, if_pos hC])
    have HV := Lib.hid (show foldV K m f fi x y = reg (runR f [x, y, 0, 0, 0, 0, 0, 0]) 0 by rw [foldV, if_pos hC])
    have HMP := Lib.hid (show ∀ o ∈ f, mayO o 0 = true from fun o ho => by
      have hh := hmf
      unfold mayP at hh
      rw [Bool.and_eq_true] at hh
      exact List.all_eq_true.1 hh.2 o ho)
    clear hmm hmf hme hC
    go_wp2_with (first
      | (refine wpList_box_blk (w := w) rfl 26 _ rfl #[.int .i64 K, .slice A1 n1 c1, .slice A2 n2 c2, .slice A3 n3 c3] rfl ?_; intro w1 q1 g1 z1; have b1 : Below w.heap.size w w1 := (Below.refl _ w).grown g1 (Nat.le_refl _) (by simp); have L1 := h1.below (b1.mono hB); have L2 := h2.below (b1.mono hB); have L3 := h3.below (b1.mono hB); clear h1 h2 h3 g1 z1)
      | (refine wpList_load_blk (w := w1) rfl 26 _ rfl w.heap.size 4 rfl 26 _ q1 _ Tryd.underlying26 rfl info_prog rfl ?_))
    refine (rcheck_any B K A1 A2 A3 n1 c1 n2 c2 n3 c3 m f fi w1 L1 L2 L3 (Nat.le_trans hB b1.size) (by omega) (by omega) (by omega)).mono ?_
    rintro e w2 ⟨rfl, b2⟩
    rw [HC.out]
    have q2 := q1.after b2
    have LP := L2.below (b2.mono (Nat.le_trans hB b1.size))
    have b2 := b1.trans (b2.mono b1.size)
    clear q1 b1 L1 L2 L3
    have hcP := q2.cell (i := 2) rfl
    have HWF : Fit [x, y, 0, 0, 0, 0, 0, 0] := Sp.fit_of hx hy
    go_wp2_with (first
      | (refine wpList_run (w := w2) rfl (v := .pointer (some ⟨w.heap.size, 2, none⟩)) (Held.y_field (S := fun _ => True) (k := 2) (s := 0) rfl rfl Tryd.underlying26 rfl (by kernel_rfl) rfl _ trivial) ?_)
      | (refine wpList_build_blk rfl 75 _ rfl (arr .i64 [x, y, 0, 0, 0, 0, 0, 0]) (by kernel_rfl) ?_))
    refine (rrun_any B A2 n2 c2 f [x, y, 0, 0, 0, 0, 0, 0] w2 LP (Nat.le_trans hB b2.size) rfl HWF HMP.out l2).mono ?_
    rintro e w3 ⟨rfl, b3⟩
    have b3 := b2.trans (b3.mono b2.size)
    have hrl := Lib.hid (show (runR f [x, y, 0, 0, 0, 0, 0, 0]).length = 8 from (runR_length _ _).trans rfl)
    have hrf : Fit (runR f [x, y, 0, 0, 0, 0, 0, 0]) := Fit.run HWF LP.2.1
    generalize runR f [x, y, 0, 0, 0, 0, 0, 0] = zs at hrl hrf HV ⊢
    go_wp2_with (first
      | (refine wpList_alloc_Row (w := w3) rfl 75 rfl .i64 8 zero_regs ?_; intro w4 r4 g4 z4)
      | (refine wpList_store_RowTo (w := w4) rfl 75 _ _ rfl w3.heap.size rfl 75 .i64 _ zs rfl r4 8 info_regs hrl.out (by simp) hrf ?_; intro w5 r5 g5 z5; have hc5 := r5.cell (i := 0) (by rw [hrl.out]; omega))
      | (refine wpList_run (w := w5) rfl (v := .pointer (some ⟨w3.heap.size, 0, none⟩)) (Held.y_addr (S := fun _ => True) rfl rfl rfl (Held.run_addr_arr (P := Tryd.prog) 75 2 8 w3.heap.size 0 .i64 Tryd.underlying75 (by kernel_rfl) (by omega)) _ trivial) ?_))
    go_ret
    exact ⟨Mem.ret_int (by rw [HV.out]; rfl), (b3.grown g4 b3.size (by simp)).grown g5 (by have := g4.size; have := b3.size; omega) (fun r ee => by cases ee; exact b3.size)⟩
  · have HC := Lib.hid (show checkE K m f fi = 8 by rw [checkE, if_neg hC])
    have HV := Lib.hid (show foldV K m f fi x y = 0 by rw [foldV, if_neg hC])
    rw [HV.out]
    clear HV hC
    go_wp2_with (first
      | (refine wpList_box_blk (w := w) rfl 26 _ rfl #[.int .i64 K, .slice A1 n1 c1, .slice A2 n2 c2, .slice A3 n3 c3] rfl ?_; intro w1 q1 g1 z1; have b1 : Below w.heap.size w w1 := (Below.refl _ w).grown g1 (Nat.le_refl _) (by simp); have L1 := h1.below (b1.mono hB); have L2 := h2.below (b1.mono hB); have L3 := h3.below (b1.mono hB); clear h1 h2 h3 g1 z1)
      | (refine wpList_load_blk (w := w1) rfl 26 _ rfl w.heap.size 4 rfl 26 _ q1 _ Tryd.underlying26 rfl info_prog rfl ?_))
    refine (rcheck_any B K A1 A2 A3 n1 c1 n2 c2 n3 c3 m f fi w1 L1 L2 L3 (Nat.le_trans hB b1.size) (by omega) (by omega) (by omega)).mono ?_
    rintro e w2 ⟨rfl, b2⟩
    rw [HC.out]
    have b2 := b1.trans (b2.mono b1.size)
    clear q1 b1 L1 L2 L3
    go_wp2_with fail
    go_ret
    exact ⟨rfl, b2⟩
set_option maxRecDepth 100000 in
set_option maxHeartbeats 8000000 in
theorem rfinish_any (B : Nat) (K : Int) (A1 A2 A3 : Option Addr) (n1 c1 n2 c2 n3 c3 : Nat) (m f fi : List O) (x y : Int) (w : World) (hx : (Lit.int .i64 x).wf = true) (hy : (Lit.int .i64 y).wf = true) (h1 : Lst kO w B A1 n1 m) (h2 : Lst kO w B A2 n2 f) (h3 : Lst kO w B A3 n3 fi) (hB : B ≤ w.heap.size) (l1 : n1 ≤ 1048576) (l2 : n2 ≤ 1048576) (l3 : n3 ≤ 1048576) :
    Calls Tryd.prog 25 #[.agg #[.int .i64 K, .slice A1 n1 c1, .slice A2 n2 c2, .slice A3 n3 c3], .int .i64 x, .int .i64 y] w fun e w' => e = .returned (.int .i64 (finishV K m f fi x y)) ∧ Below w.heap.size w w' := by
  go_enter Tryd.func25, Tryd.ntmps25
  by_cases hC : checkB K m f fi = true
  · obtain ⟨_, _, hmm, hmf, hme⟩ := checkB_says hC
    have HC := Lib.hid (show checkE K m f fi = 0 by rw [checkE, if_pos hC])
    have HV := Lib.hid (show finishV K m f fi x y = reg (runR fi [y, x, 0, 0, 0, 0, 0, 0]) 0 by rw [finishV, if_pos hC])
    have HMP := Lib.hid (show ∀ o ∈ fi, mayO o 0 = true from fun o ho => by
      have hh := hme
      unfold mayP at hh
      rw [Bool.and_eq_true] at hh
      exact List.all_eq_true.1 hh.2 o ho)
    clear hmm hmf hme hC
    go_wp2_with (first
      | (refine wpList_box_blk (w := w) rfl 26 _ rfl #[.int .i64 K, .slice A1 n1 c1, .slice A2 n2 c2, .slice A3 n3 c3] rfl ?_; intro w1 q1 g1 z1; have b1 : Below w.heap.size w w1 := (Below.refl _ w).grown g1 (Nat.le_refl _) (by simp); have L1 := h1.below (b1.mono hB); have L2 := h2.below (b1.mono hB); have L3 := h3.below (b1.mono hB); clear h1 h2 h3 g1 z1)
      | (refine wpList_load_blk (w := w1) rfl 26 _ rfl w.heap.size 4 rfl 26 _ q1 _ Tryd.underlying26 rfl info_prog rfl ?_))
    refine (rcheck_any B K A1 A2 A3 n1 c1 n2 c2 n3 c3 m f fi w1 L1 L2 L3 (Nat.le_trans hB b1.size) (by omega) (by omega) (by omega)).mono ?_
    rintro e w2 ⟨rfl, b2⟩
    rw [HC.out]
    have q2 := q1.after b2
    have LP := L3.below (b2.mono (Nat.le_trans hB b1.size))
    have b2 := b1.trans (b2.mono b1.size)
    clear q1 b1 L1 L2 L3
    have hcP := q2.cell (i := 3) rfl
    have HWF : Fit [y, x, 0, 0, 0, 0, 0, 0] := Sp.fit_of hy hx
    go_wp2_with (first
      | (refine wpList_run (w := w2) rfl (v := .pointer (some ⟨w.heap.size, 3, none⟩)) (Held.y_field (S := fun _ => True) (k := 3) (s := 0) rfl rfl Tryd.underlying26 rfl (by kernel_rfl) rfl _ trivial) ?_)
      | (refine wpList_build_blk rfl 75 _ rfl (arr .i64 [y, x, 0, 0, 0, 0, 0, 0]) (by kernel_rfl) ?_))
    refine (rrun_any B A3 n3 c3 fi [y, x, 0, 0, 0, 0, 0, 0] w2 LP (Nat.le_trans hB b2.size) rfl HWF HMP.out l3).mono ?_
    rintro e w3 ⟨rfl, b3⟩
    have b3 := b2.trans (b3.mono b2.size)
    have hrl := Lib.hid (show (runR fi [y, x, 0, 0, 0, 0, 0, 0]).length = 8 from (runR_length _ _).trans rfl)
    have hrf : Fit (runR fi [y, x, 0, 0, 0, 0, 0, 0]) := Fit.run HWF LP.2.1
    generalize runR fi [y, x, 0, 0, 0, 0, 0, 0] = zs at hrl hrf HV ⊢
    go_wp2_with (first
      | (refine wpList_alloc_Row (w := w3) rfl 75 rfl .i64 8 zero_regs ?_; intro w4 r4 g4 z4)
      | (refine wpList_store_RowTo (w := w4) rfl 75 _ _ rfl w3.heap.size rfl 75 .i64 _ zs rfl r4 8 info_regs hrl.out (by simp) hrf ?_; intro w5 r5 g5 z5; have hc5 := r5.cell (i := 0) (by rw [hrl.out]; omega))
      | (refine wpList_run (w := w5) rfl (v := .pointer (some ⟨w3.heap.size, 0, none⟩)) (Held.y_addr (S := fun _ => True) rfl rfl rfl (Held.run_addr_arr (P := Tryd.prog) 75 2 8 w3.heap.size 0 .i64 Tryd.underlying75 (by kernel_rfl) (by omega)) _ trivial) ?_))
    go_ret
    exact ⟨Mem.ret_int (by rw [HV.out]; rfl), (b3.grown g4 b3.size (by simp)).grown g5 (by have := g4.size; have := b3.size; omega) (fun r ee => by cases ee; exact b3.size)⟩
  · have HC := Lib.hid (show checkE K m f fi = 8 by rw [checkE, if_neg hC])
    have HV := Lib.hid (show finishV K m f fi x y = 0 by rw [finishV, if_neg hC])
    rw [HV.out]
    clear HV hC
    go_wp2_with (first
      | (refine wpList_box_blk (w := w) rfl 26 _ rfl #[.int .i64 K, .slice A1 n1 c1, .slice A2 n2 c2, .slice A3 n3 c3] rfl ?_; intro w1 q1 g1 z1; have b1 : Below w.heap.size w w1 := (Below.refl _ w).grown g1 (Nat.le_refl _) (by simp); have L1 := h1.below (b1.mono hB); have L2 := h2.below (b1.mono hB); have L3 := h3.below (b1.mono hB); clear h1 h2 h3 g1 z1)
      | (refine wpList_load_blk (w := w1) rfl 26 _ rfl w.heap.size 4 rfl 26 _ q1 _ Tryd.underlying26 rfl info_prog rfl ?_))
    refine (rcheck_any B K A1 A2 A3 n1 c1 n2 c2 n3 c3 m f fi w1 L1 L2 L3 (Nat.le_trans hB b1.size) (by omega) (by omega) (by omega)).mono ?_
    rintro e w2 ⟨rfl, b2⟩
    rw [HC.out]
    have b2 := b1.trans (b2.mono b1.size)
    clear q1 b1 L1 L2 L3
    go_wp2_with fail
    go_ret
    exact ⟨rfl, b2⟩
end Go.Proofs.YtlinmcgmkpkpaaaDoor.Cn
namespace Go.Proofs.YtlinmcgmkpkpaaaDoor.Pi
open Go.RowKit Go.Shelf Mem Held Ct Rc Rs Sl Vm Sp Mg
attribute [local irreducible] wpList wpListIn Calls
set_option maxRecDepth 100000 in
set_option maxHeartbeats 8000000 in
theorem rright_ok (r k b wk : Int) (w : World) (hR : rightB r k b wk = true) :
    Calls Tryd.prog 18 #[.agg #[.int .i64 r, .int .i64 k, .int .i64 b, .int .i64 wk]] w fun e w' => e = .returned (.int .i64 0) ∧ Below w.heap.size w w' := by
  obtain ⟨⟨hr1, hr⟩, ⟨hk1, hk⟩, ⟨hb1, hb⟩, ⟨hi1, hi⟩, hq1, hq⟩ := right_says hR
  have hw : 1 ≤ wk ∧ wk ≤ 4 := by
    rw [rightB_of] at hR
    simp only [Bool.and_eq_true, decide_eq_true_eq] at hR
    exact inB_says hR.1.2
  obtain ⟨hw1, hw⟩ := hw
  have hb0 : b ≠ 0 := by omega
  have E1 := Lib.hid (show IntKind.i64.wrap (r + b) = r + b by rw [IntKind.wrap_i64]; omega)
  have E2 := Lib.hid (show IntKind.i64.wrap (r + b - 1) = r + b - 1 by rw [IntKind.wrap_i64]; omega)
  have E3 := Lib.hid (show IntKind.i64.wrap ((r + b - 1).tdiv b) = inI r b by
    rw [show (r + b - 1).tdiv b = inI r b from Int.tdiv_eq_ediv_of_nonneg (by omega), IntKind.wrap_i64]; omega)
  have E4 := Lib.hid (show IntKind.i64.wrap (k * inI r b) = k * inI r b by rw [IntKind.wrap_i64]; omega)
  have F0 := Lib.hid (show decide (r < 1) = false by simp; omega)
  have F1 := Lib.hid (show decide (64 < r) = false by simp; omega)
  have F2 := Lib.hid (show decide (k < 1) = false by simp; omega)
  have F3 := Lib.hid (show decide (4 < k) = false by simp; omega)
  have F4 := Lib.hid (show decide (b < 1) = false by simp; omega)
  have F5 := Lib.hid (show decide (8 < b) = false by simp; omega)
  have F6 := Lib.hid (show decide (wk < 1) = false by simp; omega)
  have F7 := Lib.hid (show decide (4 < wk) = false by simp; omega)
  have F8 := Lib.hid (show decide (32 ≤ k * inI r b) = false by simp; omega)
  generalize inI r b = q at *
  clear hR hq1 hq hi1 hi hr1 hr hk1 hk hb1 hb hw1 hw
  go_enter Tryd.func18, Tryd.ntmps18
  go_wp2_with (refine wpList_box_blk (w := w) rfl 28 _ rfl #[.int .i64 r, .int .i64 k, .int .i64 b, .int .i64 wk] rfl ?_; intro u1 q1 g1 z1; have b1 : Below w.heap.size w u1 := (Below.refl _ w).grown g1 (Nat.le_refl _) (by simp))
  refine wp_region_held (S := fun W => Below u1.heap.size u1 W) (by kernel_rfl) ?_
  change wpAnyH _ _ _ _ _ _ _ _ u1.drew
  have c0_0 := (Below.refl u1.heap.size u1).drew
  refine Held.tk (v := .pointer (some ⟨w.heap.size, 0, none⟩)) 0 (some 3) rfl (Held.y_field (k := 0) (s := 0) rfl rfl Tryd.underlying28 rfl (by kernel_rfl) rfl) c0_0 ?_
  simp only [Act.put, Z1, Z2, Z3]
  refine Held.tk (v := .int .i64 r) 1 (some 4) rfl (Held.y_load rfl rfl (by kernel_rfl) (fun W hW => (q1.after hW).cell rfl)) c0_0 ?_
  simp only [Act.put, Z1, Z2, Z3]
  refine Held.tk (v := .bool false) 2 (some 5) rfl (Held.y_lss rfl rfl rfl (F0.out)) c0_0 ?_
  simp only [Act.put, Z1, Z2, Z3]
  refine Held.tk (v := .bool false) 3 (some 6) rfl (Held.y_move rfl rfl) c0_0 ?_
  simp only [Act.put, Z1, Z2, Z3]
  refine Held.tk (v := .pointer (some ⟨w.heap.size, 0, none⟩)) 4 (some 7) rfl (Held.y_field (k := 0) (s := 0) rfl rfl Tryd.underlying28 rfl (by kernel_rfl) rfl) c0_0 ?_
  simp only [Act.put, Z1, Z2, Z3]
  refine Held.tk (v := .int .i64 r) 5 (some 8) rfl (Held.y_load rfl rfl (by kernel_rfl) (fun W hW => (q1.after hW).cell rfl)) c0_0 ?_
  simp only [Act.put, Z1, Z2, Z3]
  refine Held.tk (v := .bool false) 6 (some 9) rfl (Held.y_gtr rfl rfl rfl (F1.out)) c0_0 ?_
  simp only [Act.put, Z1, Z2, Z3]
  refine Held.tk (v := .bool false) 7 (some 10) rfl (Held.y_pickF rfl rfl rfl) c0_0 ?_
  simp only [Act.put, Z1, Z2, Z3]
  refine Held.tk (v := .bool false) 8 (some 11) rfl (Held.y_move rfl rfl) c0_0 ?_
  simp only [Act.put, Z1, Z2, Z3]
  refine Held.tk (v := .pointer (some ⟨w.heap.size, 1, none⟩)) 9 (some 12) rfl (Held.y_field (k := 1) (s := 0) rfl rfl Tryd.underlying28 rfl (by kernel_rfl) rfl) c0_0 ?_
  simp only [Act.put, Z1, Z2, Z3]
  refine Held.tk (v := .int .i64 k) 10 (some 13) rfl (Held.y_load rfl rfl (by kernel_rfl) (fun W hW => (q1.after hW).cell rfl)) c0_0 ?_
  simp only [Act.put, Z1, Z2, Z3]
  refine Held.tk (v := .bool false) 11 (some 14) rfl (Held.y_lss rfl rfl rfl (F2.out)) c0_0 ?_
  simp only [Act.put, Z1, Z2, Z3]
  refine Held.tk (v := .bool false) 12 (some 15) rfl (Held.y_pickF rfl rfl rfl) c0_0 ?_
  simp only [Act.put, Z1, Z2, Z3]
  refine Held.tk (v := .bool false) 13 (some 16) rfl (Held.y_move rfl rfl) c0_0 ?_
  simp only [Act.put, Z1, Z2, Z3]
  refine Held.tk (v := .pointer (some ⟨w.heap.size, 1, none⟩)) 14 (some 17) rfl (Held.y_field (k := 1) (s := 0) rfl rfl Tryd.underlying28 rfl (by kernel_rfl) rfl) c0_0 ?_
  simp only [Act.put, Z1, Z2, Z3]
  refine Held.tk (v := .int .i64 k) 15 (some 18) rfl (Held.y_load rfl rfl (by kernel_rfl) (fun W hW => (q1.after hW).cell rfl)) c0_0 ?_
  simp only [Act.put, Z1, Z2, Z3]
  refine Held.tk (v := .bool false) 16 (some 19) rfl (Held.y_gtr rfl rfl rfl (F3.out)) c0_0 ?_
  simp only [Act.put, Z1, Z2, Z3]
  refine Held.tk (v := .bool false) 17 (some 20) rfl (Held.y_pickF rfl rfl rfl) c0_0 ?_
  simp only [Act.put, Z1, Z2, Z3]
  refine Held.tk (v := .bool false) 18 (some 21) rfl (Held.y_move rfl rfl) c0_0 ?_
  simp only [Act.put, Z1, Z2, Z3]
  refine Held.tk (v := .pointer (some ⟨w.heap.size, 2, none⟩)) 19 (some 22) rfl (Held.y_field (k := 2) (s := 0) rfl rfl Tryd.underlying28 rfl (by kernel_rfl) rfl) c0_0 ?_
  simp only [Act.put, Z1, Z2, Z3]
  refine Held.tk (v := .int .i64 b) 20 (some 23) rfl (Held.y_load rfl rfl (by kernel_rfl) (fun W hW => (q1.after hW).cell rfl)) c0_0 ?_
  simp only [Act.put, Z1, Z2, Z3]
  refine Held.tk (v := .bool false) 21 (some 24) rfl (Held.y_lss rfl rfl rfl (F4.out)) c0_0 ?_
  simp only [Act.put, Z1, Z2, Z3]
  refine Held.tk (v := .bool false) 22 (some 25) rfl (Held.y_pickF rfl rfl rfl) c0_0 ?_
  simp only [Act.put, Z1, Z2, Z3]
  refine Held.tk (v := .bool false) 23 (some 26) rfl (Held.y_move rfl rfl) c0_0 ?_
  simp only [Act.put, Z1, Z2, Z3]
  refine Held.tk (v := .pointer (some ⟨w.heap.size, 2, none⟩)) 24 (some 27) rfl (Held.y_field (k := 2) (s := 0) rfl rfl Tryd.underlying28 rfl (by kernel_rfl) rfl) c0_0 ?_
  simp only [Act.put, Z1, Z2, Z3]
  refine Held.tk (v := .int .i64 b) 25 (some 28) rfl (Held.y_load rfl rfl (by kernel_rfl) (fun W hW => (q1.after hW).cell rfl)) c0_0 ?_
  simp only [Act.put, Z1, Z2, Z3]
  refine Held.tk (v := .bool false) 26 (some 29) rfl (Held.y_gtr rfl rfl rfl (F5.out)) c0_0 ?_
  simp only [Act.put, Z1, Z2, Z3]
  refine Held.tk (v := .bool false) 27 (some 30) rfl (Held.y_pickF rfl rfl rfl) c0_0 ?_
  simp only [Act.put, Z1, Z2, Z3]
  refine Held.tk (v := .bool false) 28 (some 31) rfl (Held.y_move rfl rfl) c0_0 ?_
  simp only [Act.put, Z1, Z2, Z3]
  refine Held.tk (v := .pointer (some ⟨w.heap.size, 3, none⟩)) 29 (some 32) rfl (Held.y_field (k := 3) (s := 0) rfl rfl Tryd.underlying28 rfl (by kernel_rfl) rfl) c0_0 ?_
  simp only [Act.put, Z1, Z2, Z3]
  refine Held.tk (v := .int .i64 wk) 30 (some 33) rfl (Held.y_load rfl rfl (by kernel_rfl) (fun W hW => (q1.after hW).cell rfl)) c0_0 ?_
  simp only [Act.put, Z1, Z2, Z3]
  refine Held.tk (v := .bool false) 31 (some 34) rfl (Held.y_lss rfl rfl rfl (F6.out)) c0_0 ?_
  simp only [Act.put, Z1, Z2, Z3]
  refine Held.tk (v := .bool false) 32 (some 35) rfl (Held.y_pickF rfl rfl rfl) c0_0 ?_
  simp only [Act.put, Z1, Z2, Z3]
  refine Held.tk (v := .bool false) 33 (some 36) rfl (Held.y_move rfl rfl) c0_0 ?_
  simp only [Act.put, Z1, Z2, Z3]
  refine Held.tk (v := .pointer (some ⟨w.heap.size, 3, none⟩)) 34 (some 37) rfl (Held.y_field (k := 3) (s := 0) rfl rfl Tryd.underlying28 rfl (by kernel_rfl) rfl) c0_0 ?_
  simp only [Act.put, Z1, Z2, Z3]
  refine Held.tk (v := .int .i64 wk) 35 (some 38) rfl (Held.y_load rfl rfl (by kernel_rfl) (fun W hW => (q1.after hW).cell rfl)) c0_0 ?_
  simp only [Act.put, Z1, Z2, Z3]
  refine Held.tk (v := .bool false) 36 (some 39) rfl (Held.y_gtr rfl rfl rfl (F7.out)) c0_0 ?_
  simp only [Act.put, Z1, Z2, Z3]
  refine Held.tk (v := .bool false) 37 (some 40) rfl (Held.y_pickF rfl rfl rfl) c0_0 ?_
  simp only [Act.put, Z1, Z2, Z3]
  refine Held.tk (v := .bool false) 38 (some 41) rfl (Held.y_move rfl rfl) c0_0 ?_
  simp only [Act.put, Z1, Z2, Z3]
  refine Held.tk (v := .pointer (some ⟨w.heap.size, 1, none⟩)) 39 (some 42) rfl (Held.y_field (k := 1) (s := 0) rfl rfl Tryd.underlying28 rfl (by kernel_rfl) rfl) c0_0 ?_
  simp only [Act.put, Z1, Z2, Z3]
  refine Held.tk (v := .int .i64 k) 40 (some 43) rfl (Held.y_load rfl rfl (by kernel_rfl) (fun W hW => (q1.after hW).cell rfl)) c0_0 ?_
  simp only [Act.put, Z1, Z2, Z3]
  refine Held.tk (v := .pointer (some ⟨w.heap.size, 0, none⟩)) 41 (some 44) rfl (Held.y_field (k := 0) (s := 0) rfl rfl Tryd.underlying28 rfl (by kernel_rfl) rfl) c0_0 ?_
  simp only [Act.put, Z1, Z2, Z3]
  refine Held.tk (v := .int .i64 r) 42 (some 45) rfl (Held.y_load rfl rfl (by kernel_rfl) (fun W hW => (q1.after hW).cell rfl)) c0_0 ?_
  simp only [Act.put, Z1, Z2, Z3]
  refine Held.tk (v := .pointer (some ⟨w.heap.size, 2, none⟩)) 43 (some 46) rfl (Held.y_field (k := 2) (s := 0) rfl rfl Tryd.underlying28 rfl (by kernel_rfl) rfl) c0_0 ?_
  simp only [Act.put, Z1, Z2, Z3]
  refine Held.tk (v := .int .i64 b) 44 (some 47) rfl (Held.y_load rfl rfl (by kernel_rfl) (fun W hW => (q1.after hW).cell rfl)) c0_0 ?_
  simp only [Act.put, Z1, Z2, Z3]
  refine Held.tk (v := .int .i64 ((r + b))) 45 (some 48) rfl (Held.y_int rfl rfl rfl (Held.run_add 3 .i64 (E1.out))) c0_0 ?_
  simp only [Act.put, Z1, Z2, Z3]
  refine Held.tk (v := .int .i64 ((r + b - 1))) 46 (some 49) rfl (Held.y_int rfl rfl rfl (Held.run_sub 3 .i64 (E2.out))) c0_0 ?_
  simp only [Act.put, Z1, Z2, Z3]
  refine Held.tk (v := .pointer (some ⟨w.heap.size, 2, none⟩)) 47 (some 50) rfl (Held.y_field (k := 2) (s := 0) rfl rfl Tryd.underlying28 rfl (by kernel_rfl) rfl) c0_0 ?_
  simp only [Act.put, Z1, Z2, Z3]
  refine Held.tk (v := .int .i64 b) 48 (some 51) rfl (Held.y_load rfl rfl (by kernel_rfl) (fun W hW => (q1.after hW).cell rfl)) c0_0 ?_
  simp only [Act.put, Z1, Z2, Z3]
  refine Held.tk (v := .int .i64 q) 49 (some 52) rfl (Bi.y_quo (r + b - 1) b rfl rfl rfl (Held.run_quo 3 .i64 hb0 E3.out)) c0_0 ?_
  simp only [Act.put, Z1, Z2, Z3]
  refine Held.tk (v := .int .i64 ((k * q))) 50 (some 53) rfl (Held.y_int rfl rfl rfl (Held.run_mul 3 .i64 (E4.out))) c0_0 ?_
  simp only [Act.put, Z1, Z2, Z3]
  refine Held.tk (v := .bool false) 51 (some 54) rfl (Sp.y_geq rfl rfl rfl F8.out) c0_0 ?_
  simp only [Act.put, Z1, Z2, Z3]
  refine Held.tk (v := .bool false) 52 (some 55) rfl (Held.y_pickF rfl rfl rfl) c0_0 ?_
  simp only [Act.put, Z1, Z2, Z3]
  refine wpAnyH_done (by kernel_rfl) ?_ _
  have b2 := b1.trans (c0_0.mono b1.size)
  go_wp2_with fail
  go_ret
  exact ⟨rfl, b2⟩
end Go.Proofs.YtlinmcgmkpkpaaaDoor.Pi
namespace Go.Proofs.YtlinmcgmkpkpaaaDoor.Pi
open Go.RowKit Go.Shelf Go.Proofs.YtlinmcgmkpkpaaaDoor Mem Held Ct Rc Rs Sl Vm Sp Mg Cn
attribute [local irreducible] wpList wpListIn Calls
set_option maxRecDepth 100000 in
set_option maxHeartbeats 8000000 in
theorem rmap_ok (B K : Nat) (A1 A2 A3 : Option Addr) (n1 c1 n2 c2 n3 c3 : Nat) (m f fi : List O) (num key val : Int) (w : World) (hn : (Lit.int .i64 num).wf = true) (hk : (Lit.int .i64 key).wf = true) (hv : (Lit.int .i64 val).wf = true) (h1 : Lst kO w B A1 n1 m) (h2 : Lst kO w B A2 n2 f) (h3 : Lst kO w B A3 n3 fi) (hB : B ≤ w.heap.size) (l1 : n1 ≤ 1048576) (l2 : n2 ≤ 1048576) (l3 : n3 ≤ 1048576) (hC : checkB (K : Int) m f fi = true) :
    Calls Tryd.prog 23 #[.agg #[.int .i64 (K : Int), .slice A1 n1 c1, .slice A2 n2 c2, .slice A3 n3 c3], .int .i64 num, .agg #[.int .i64 key, .int .i64 val]] w fun e w' => ∃ A' n' c', e = .returned (.slice A' n' c') ∧ OwnL kRec 51 w' w.heap.size (.slice A' n' c') (mapR (K : Int) m f fi num key val) ∧ Below w.heap.size w w' := by
  have HC := Lib.hid (show checkE (K : Int) m f fi = 0 by rw [checkE, if_pos hC])
  have HV := Lib.hid (show mapR (K : Int) m f fi num key val = runOut (wrap64 (num * (K : Int))) m [key, val, num, 0, 0, 0, 0, 0] (List.replicate K RD) by rw [mapR, if_pos hC, Int.toNat_natCast])
  obtain ⟨hK1, hK4, hmm, hmf, hme⟩ := checkB_says hC
  have HMP := Lib.hid (show ∀ o ∈ m, mayO o (K : Int) = true from fun o ho => by
    have hh := hmm
    unfold mayP at hh
    rw [Bool.and_eq_true] at hh
    exact List.all_eq_true.1 hh.2 o ho)
  have hFit : Fit [key, val, num, 0, 0, 0, 0, 0] := fun z hz => by
    simp only [List.mem_cons, List.not_mem_nil, or_false] at hz
    rcases hz with rfl | rfl | rfl | rfl | rfl | rfl | rfl | rfl
    · exact hk
    · exact hv
    · exact hn
    all_goals rfl
  clear hmm hmf hme hC
  go_enter Tryd.func23, Tryd.ntmps23
  go_wp2_with (first
    | (refine on 3 ?_; refine wpList_box_blk (w := w) rfl 26 _ rfl #[.int .i64 (K : Int), .slice A1 n1 c1, .slice A2 n2 c2, .slice A3 n3 c3] rfl ?_; intro w1 q1 g1 z1)
    | (refine on 5 ?_; refine wpList_box_blk (w := w1) rfl 39 _ rfl #[.int .i64 key, .int .i64 val] rfl ?_; intro w2 q2 g2 z2; have b1 : Below w.heap.size w w1 := (Below.refl _ w).grown g1 (Nat.le_refl _) (by simp); have s1 : w.heap.size < w1.heap.size := q1.lt; have b2 := b1.grown g2 b1.size (by simp); have q1 := q1.grown g2 (by simp); have s2 : w1.heap.size < w2.heap.size := q2.lt; clear g1 g2 z1 z2)
    | (refine on 9 ?_; refine wpList_load_blk (w := w2) rfl 26 _ rfl w.heap.size 4 rfl 26 _ q1 _ Tryd.underlying26 rfl info_prog rfl ?_))
  refine (rcheck_any B (K : Int) A1 A2 A3 n1 c1 n2 c2 n3 c3 m f fi w2 (h1.below (b2.mono hB)) (h2.below (b2.mono hB)) (h3.below (b2.mono hB)) (Nat.le_trans hB b2.size) (by omega) (by omega) (by omega)).mono ?_
  rintro e w3 ⟨rfl, b3⟩
  rw [HC.out]
  have q1 := q1.after b3
  have q2 := q2.after b3
  have s3 := b3.size
  have b3 := b2.trans (b3.mono b2.size)
  clear b2 b1
  go_wp2_with fail
  go_loopw [7, 8] (fun sv iv wr => ∃ (i : Nat) (Av : Option Addr) (cv : Nat), i ≤ K ∧ iv = .int .i64 i ∧ sv = .slice Av i cv ∧ OwnL kRec 51 wr w3.heap.size (.slice Av i cv) (List.replicate i RD) ∧ Below w3.heap.size w3 wr) (fun _ t _ => K - (intOf t).toNat)
  case atStart => exact ⟨0, none, 0, by omega, rfl, rfl, OwnL.nil _ _ _ _, Below.refl _ _⟩
  case round =>
    obtain ⟨i, Av, cv, hi, rfl, rfl, o, bw⟩ := hrel
    have q1 := q1.after bw
    have q2 := q2.after bw
    have d0 := q1.cell (i := 0) rfl
    have sw := bw.size
    by_cases hlt : i < K
    · have hlt' : (i : Int) < (K : Int) := by omega
      go_wp2_with (refine on 13 ?_; refine wpList_run (w := wr) rfl (v := .pointer (some ⟨w.heap.size, 0, none⟩)) (Held.y_field (S := fun _ => True) (k := 0) (s := 0) rfl rfl Tryd.underlying26 rfl (by kernel_rfl) rfl _ trivial) ?_)
      refine (rdead_ok wr).mono ?_
      rintro e w5 ⟨rfl, b5⟩
      have o5 := OwnL.below o b5
      have s5 := b5.size
      have hs5 : w3.heap.size ≤ w5.heap.size := Nat.le_trans sw s5
      have b5' := bw.trans (b5.mono sw)
      go_wp2_with (first
        | (refine on 20 ?_; refine wpList_build_lst (k := kRec) (w := w5) rfl 48 51 1 _ rfl Tryd.underlying48 _ 32 info_kRec rfl [RD] rfl (by kernel_rfl) (by omega) (by decide) ?_; intro w6 q6 g6 z6; have o6 := OwnL.below o5 ((Below.refl _ _).grown g6 (Nat.le_refl _) (by simp)); have l6 : Lst kRec w6 w6.heap.size (some ⟨w5.heap.size, 0, none⟩) 1 [RD] := lst_whole q6 rfl (fun x hx => by rw [List.mem_singleton.1 hx]; exact ⟨rfl, rfl, rfl⟩))
        | (refine on 21 ?_; refine wpList_append_all (k := kRec) (w := w6) rfl _ _ 48 51 rfl Tryd.underlying48 _ 32 info_kRec rfl w3.heap.size w6.heap.size 1 1 (some ⟨w5.heap.size, 0, none⟩) (.slice Av i cv) (List.replicate i RD) [RD] rfl rfl o6 l6 (by rw [List.length_replicate]; omega) (by omega) (Nat.le_trans hs5 g6.size) ?_; intro V w7 o7 g7 me7; obtain ⟨A7, n7, c7, rfl, hn7, _⟩ := OwnL.form2 o7; have b6 := b5'.grown g6 hs5 (by simp); have b7 := b6.grown g7 (Nat.le_trans hs5 g6.size) (fun r e => (OwnL.lt o6 r e).1)))
      rw [show List.replicate i RD ++ [RD] = List.replicate (i + 1) RD from List.replicate_succ'.symm] at o7 hn7
      have hn7' : i + 1 = n7 := by rw [← hn7.out, List.length_replicate]
      subst hn7'
      go_roundw
      case rel => exact ⟨i + 1, A7, c7, by omega, by go_num, rfl, o7, b7⟩
      case measure => simp [intOf]; omega
    · obtain rfl : i = K := by omega
      obtain ⟨go, rfl, hgo, hgw, _⟩ := own_at0 o (by omega)
      have b4 := b3.trans (bw.mono (by omega))
      have e1 := q2.cell (i := 0) rfl
      have e2 := q2.cell (i := 1) rfl
      have d1 := q1.cell (i := 1) rfl
      have hlr := h1.below (b4.mono hB)
      obtain ⟨z, hz⟩ : ∃ z, IntKind.i64.wrap (num * (i : Int)) = z := ⟨_, rfl⟩
      have HZ := Lib.hid hz
      rw [← w64, hz] at HV
      clear hz bw h1 h2 h3
      go_wp2_with (first
        | (refine on 13 ?_; refine wpList_run (w := wr) rfl (v := .pointer (some ⟨w.heap.size, 0, none⟩)) (Held.y_field (S := fun _ => True) (k := 0) (s := 0) rfl rfl Tryd.underlying26 rfl (by kernel_rfl) rfl _ trivial) ?_)
        | (refine on 23 ?_; refine wpList_run (w := wr) rfl (v := .pointer (some ⟨w.heap.size, 1, none⟩)) (Held.y_field (S := fun _ => True) (k := 1) (s := 0) rfl rfl Tryd.underlying26 rfl (by kernel_rfl) rfl _ trivial) ?_)
        | (refine on 25 ?_; refine wpList_run (w := wr) rfl (v := .pointer (some ⟨w1.heap.size, 0, none⟩)) (Held.y_field (S := fun _ => True) (k := 0) (s := 0) rfl rfl Tryd.underlying39 rfl (by kernel_rfl) rfl _ trivial) ?_)
        | (refine on 27 ?_; refine wpList_run (w := wr) rfl (v := .pointer (some ⟨w1.heap.size, 1, none⟩)) (Held.y_field (S := fun _ => True) (k := 1) (s := 0) rfl rfl Tryd.underlying39 rfl (by kernel_rfl) rfl _ trivial) ?_)
        | (refine on 30 ?_; refine wpList_build_blk rfl 75 _ rfl (arr .i64 [key, val, num, 0, 0, 0, 0, 0]) (by kernel_rfl) ?_)
        | (refine on 33 ?_; refine wpList_run (w := wr) rfl (v := .pointer (some ⟨w.heap.size, 0, none⟩)) (Held.y_field (S := fun _ => True) (k := 0) (s := 0) rfl rfl Tryd.underlying26 rfl (by kernel_rfl) rfl _ trivial) ?_)
        | (refine on 35 ?_; refine wpList_run (w := wr) rfl (v := .int .i64 z) (Held.y_int (S := fun _ => True) rfl rfl rfl (Held.run_mul 2 .i64 HZ.out) _ trivial) ?_))
      refine (rrunm_any B w3.heap.size A1 n1 c1 m [key, val, num, 0, 0, 0, 0, 0] go i cv (List.replicate i RD) z wr hlr (by omega) sw rfl hFit HMP.out l1 o).mono ?_
      rintro e w5 ⟨rfl, o5, b5⟩
      have b5 := b4.trans (b5.mono (by omega))
      go_wp2_with fail
      go_ret
      exact ⟨_, _, _, rfl, by rw [HV.out]; exact OwnL.less o5 (by omega), b5⟩
set_option maxRecDepth 100000 in
set_option maxHeartbeats 8000000 in
theorem rmay_ok (B : Nat) (K n : Nat) (b wk : Int) (A1 A2 A3 A : Option Addr) (n1 c1 n2 c2 n3 c3 c : Nat) (m f fi : List O) (w : World) (h1 : Lst kO w B A1 n1 m) (h2 : Lst kO w B A2 n2 f) (h3 : Lst kO w B A3 n3 fi) (hB : B ≤ w.heap.size) (l1 : n1 ≤ 1048576) (l2 : n2 ≤ 1048576) (l3 : n3 ≤ 1048576) (hC : checkB (K : Int) m f fi = true) (hR : rightB (n : Int) (K : Int) b wk = true) :
    Calls Tryd.prog 22 #[.agg #[.int .i64 (K : Int), .slice A1 n1 c1, .slice A2 n2 c2, .slice A3 n3 c3], .agg #[.int .i64 (n : Int), .int .i64 (K : Int), .int .i64 b, .int .i64 wk], .slice A n c] w fun e w' => e = .returned (.int .i64 0) ∧ Below w.heap.size w w' := by
  have HC := Lib.hid (show checkE (K : Int) m f fi = 0 by rw [checkE, if_pos hC])
  have HR := Lib.hid hR
  clear hC hR
  go_enter Tryd.func22, Tryd.ntmps22
  go_wp2_with (first
    | (refine on 3 ?_; refine wpList_box_blk (w := w) rfl 26 _ rfl #[.int .i64 (K : Int), .slice A1 n1 c1, .slice A2 n2 c2, .slice A3 n3 c3] rfl ?_; intro w1 q1 g1 z1)
    | (refine on 4 ?_; refine wpList_box_blk (w := w1) rfl 28 _ rfl #[.int .i64 (n : Int), .int .i64 (K : Int), .int .i64 b, .int .i64 wk] rfl ?_; intro w2 q2 g2 z2; have b1 : Below w.heap.size w w1 := (Below.refl _ w).grown g1 (Nat.le_refl _) (by simp); have s1 : w.heap.size < w1.heap.size := q1.lt; have b2 := b1.grown g2 b1.size (by simp); have q1 := q1.grown g2 (by simp); have s2 : w1.heap.size < w2.heap.size := q2.lt; clear g1 g2 z1 z2)
    | (refine on 7 ?_; refine wpList_load_blk (w := w2) rfl 28 _ rfl w1.heap.size 4 rfl 28 _ q2 _ Tryd.underlying28 rfl size_params rfl ?_))
  refine (rright_ok (n : Int) (K : Int) b wk w2 HR.out).mono ?_
  rintro e w3 ⟨rfl, b3⟩
  have q1 := q1.after b3
  have q2 := q2.after b3
  have s3 := b3.size
  have b3 := b2.trans (b3.mono b2.size)
  go_wp2_with (refine on 10 ?_; refine wpList_load_blk (w := w3) rfl 26 _ rfl w.heap.size 4 rfl 26 _ q1 _ Tryd.underlying26 rfl info_prog rfl ?_)
  refine (rcheck_any B (K : Int) A1 A2 A3 n1 c1 n2 c2 n3 c3 m f fi w3 (h1.below (b3.mono hB)) (h2.below (b3.mono hB)) (h3.below (b3.mono hB)) (Nat.le_trans hB b3.size) (by omega) (by omega) (by omega)).mono ?_
  rintro e w4 ⟨rfl, b4⟩
  rw [HC.out]
  have q1 := q1.after b4
  have q2 := q2.after b4
  have b4 := b3.trans (b4.mono b3.size)
  have d0 := q1.cell (i := 0) rfl
  have p0 := q2.cell (i := 0) rfl
  have p1 := q2.cell (i := 1) rfl
  clear b2 b1
  go_wp2_with (first
    | (refine on 14 ?_; refine wpList_run (w := w4) rfl (v := .pointer (some ⟨w.heap.size, 0, none⟩)) (Held.y_field (S := fun _ => True) (k := 0) (s := 0) rfl rfl Tryd.underlying26 rfl (by kernel_rfl) rfl _ trivial) ?_)
    | (refine on 16 ?_; refine wpList_run (w := w4) rfl (v := .pointer (some ⟨w1.heap.size, 1, none⟩)) (Held.y_field (S := fun _ => True) (k := 1) (s := 0) rfl rfl Tryd.underlying28 rfl (by kernel_rfl) rfl _ trivial) ?_)
    | (refine on 22 ?_; refine wpList_run (w := w4) rfl (v := .pointer (some ⟨w1.heap.size, 0, none⟩)) (Held.y_field (S := fun _ => True) (k := 0) (s := 0) rfl rfl Tryd.underlying28 rfl (by kernel_rfl) rfl _ trivial) ?_))
  go_ret
  exact ⟨rfl, b4⟩
end Go.Proofs.YtlinmcgmkpkpaaaDoor.Pi
namespace Go.Proofs.YtlinmcgmkpkpaaaDoor.Pi
open Go.RowKit Rc Rs
def laterB (out : List (Int × Int)) (r : R) : Bool := out.isEmpty || decide ((out.getLast?.getD (0, 0)).1 < r.k)
def nextS1 (out : List (Int × Int)) (s : Bool × Int) (r : R) : Bool × Int := if laterB out r = true ∧ (s.1 = false ∨ r.k < s.2) then (true, r.k) else s
def nextOf (out : List (Int × Int)) (l : List R) : Bool × Int := l.foldl (nextS1 out) (false, 0)
theorem nextOf_snoc (out : List (Int × Int)) (l : List R) (r : R) : nextOf out (l ++ [r]) = nextS1 out (nextOf out l) r := by simp [nextOf]
theorem nextOf_says (out : List (Int × Int)) (l : List R) : ((nextOf out l).1 = false → ∀ r ∈ l, laterB out r = false) ∧ ((nextOf out l).1 = true → (∃ r ∈ l, laterB out r = true ∧ r.k = (nextOf out l).2) ∧ ∀ r ∈ l, laterB out r = true → (nextOf out l).2 ≤ r.k) := by
  have go : ∀ (l pre : List R) (s : Bool × Int), ((s.1 = false → ∀ r ∈ pre, laterB out r = false) ∧ (s.1 = true → (∃ r ∈ pre, laterB out r = true ∧ r.k = s.2) ∧ ∀ r ∈ pre, laterB out r = true → s.2 ≤ r.k)) →
      (((l.foldl (nextS1 out) s).1 = false → ∀ r ∈ pre ++ l, laterB out r = false) ∧ ((l.foldl (nextS1 out) s).1 = true → (∃ r ∈ pre ++ l, laterB out r = true ∧ r.k = (l.foldl (nextS1 out) s).2) ∧ ∀ r ∈ pre ++ l, laterB out r = true → (l.foldl (nextS1 out) s).2 ≤ r.k)) := fun l => by
    induction l with
    | nil => intro pre s h; simpa using h
    | cons q l ih =>
      intro pre s h
      have := ih (pre ++ [q]) (nextS1 out s q) ?_
      · simpa using this
      obtain ⟨b, k⟩ := s
      obtain ⟨h1, h2⟩ := h
      dsimp only at h1 h2
      unfold nextS1
      dsimp only
      split
      · rename_i hq
        refine ⟨(fun e => by cases e), fun _ => ⟨⟨q, by simp, hq.1, rfl⟩, fun r hr hl => ?_⟩⟩
        rcases List.mem_append.1 hr with hr | hr
        · rcases hq.2 with hb | hb
          · rw [h1 hb r hr] at hl; cases hl
          · cases b with
            | false => rw [h1 rfl r hr] at hl; cases hl
            | true =>
              have := (h2 rfl).2 r hr hl
              show q.k ≤ r.k
              omega
        · rw [List.mem_singleton.1 hr]; exact Int.le_refl _
      · rename_i hq
        refine ⟨fun e r hr => ?_, fun e => ⟨?_, fun r hr hl => ?_⟩⟩
        · rcases List.mem_append.1 hr with hr | hr
          · exact h1 e r hr
          · rw [List.mem_singleton.1 hr]
            cases hx : laterB out q with
            | false => rfl
            | true => exact absurd ⟨hx, .inl e⟩ hq
        · obtain ⟨r, hr, hh⟩ := (h2 e).1
          exact ⟨r, by simp [hr], hh⟩
        · rcases List.mem_append.1 hr with hr | hr
          · exact (h2 e).2 r hr hl
          · rw [List.mem_singleton.1 hr] at hl ⊢
            dsimp only
            rcases Int.lt_or_le q.k k with hx | hx
            · exact absurd ⟨hl, .inr hx⟩ hq
            · exact hx
  have := go l [] (false, 0) ⟨(fun _ r hr => by cases hr), (fun e => by cases e)⟩
  simpa [nextOf] using this
def oneS (F : Int → Int → Int) (c : Int) (s : Bool × Int) (r : R) : Bool × Int := if r.k = c then (true, if s.1 = true then F s.2 r.v else r.v) else s
def oneOf (F : Int → Int → Int) (c : Int) (l : List R) : Bool × Int := l.foldl (oneS F c) (false, 0)
theorem oneOf_snoc (F : Int → Int → Int) (c : Int) (l : List R) (r : R) : oneOf F c (l ++ [r]) = oneS F c (oneOf F c l) r := by simp [oneOf]
theorem oneOf_true (F : Int → Int → Int) (c : Int) : ∀ (l : List R) (a : Int), l.foldl (oneS F c) (true, a) = (true, (valsOf l c).foldl F a)
  | [], a => rfl
  | r :: l, a => by
    rw [List.foldl_cons, oneS]
    by_cases h : r.k = c
    · rw [if_pos h, if_pos rfl, oneOf_true F c l, valsOf_pos h]; rfl
    · rw [if_neg h, oneOf_true F c l, valsOf_neg h]
theorem oneOf_val (F : Int → Int → Int) (c : Int) : ∀ l : List R, val F (valsOf l c) = if (oneOf F c l).1 = true then some (oneOf F c l).2 else none
  | [] => rfl
  | r :: l => by
    by_cases h : r.k = c
    · rw [valsOf_pos h, oneOf, List.foldl_cons, oneS, if_pos h, show (if ((false, (0 : Int)) : Bool × Int).1 = true then F ((false, (0 : Int)) : Bool × Int).2 r.v else r.v) = r.v from rfl, oneOf_true, if_pos rfl]; rfl
    · rw [valsOf_neg h, oneOf, List.foldl_cons, oneS, if_neg h]
      exact oneOf_val F c l
theorem oneOf_wf {F : Int → Int → Int} (hF : ∀ a b, (Lit.int .i64 a).wf = true → (Lit.int .i64 b).wf = true → (Lit.int .i64 (F a b)).wf = true) (c : Int) : ∀ (l : List R), (∀ r ∈ l, r.wf) → (Lit.int .i64 (oneOf F c l).2).wf = true := fun l hl => by
  have go : ∀ (l : List R) (s : Bool × Int), (∀ r ∈ l, r.wf) → (Lit.int .i64 s.2).wf = true → (Lit.int .i64 (l.foldl (oneS F c) s).2).wf = true := fun l => by
    induction l with
    | nil => intro s _ h; exact h
    | cons r l ih =>
      intro s hl hs
      refine ih _ (fun x hx => hl x (by simp [hx])) ?_
      have hr := (hl r (by simp)).2.1
      unfold oneS
      split
      · dsimp only
        split
        · exact hF _ _ hs hr
        · exact hr
      · exact hs
  exact go l (false, 0) hl rfl
theorem countP_lt {α : Type} {p q : α → Bool} (hpq : ∀ x, p x = true → q x = true) : ∀ {l : List α} {x : α}, x ∈ l → q x = true → p x = false → l.countP p + 1 ≤ l.countP q
  | y :: l, x, hx, h1, h2 => by
    rw [List.countP_cons, List.countP_cons]
    have hle : l.countP p ≤ l.countP q := List.countP_mono_left fun z _ => hpq z
    rcases List.mem_cons.1 hx with rfl | hx
    · rw [h1, h2]; simp; omega
    · have := countP_lt hpq hx h1 h2
      cases hy : p y with
      | true => rw [hpq y hy]; simp; omega
      | false => simp; split <;> omega
structure ToldTo (F : Int → Int → Int) (L : List R) (out : List (Int × Int)) : Prop where
  rise : out.Pairwise (fun a b => a.1 < b.1)
  val : ∀ p ∈ out, Pi.val F (valsOf L p.1) = some p.2
  seen : ∀ r ∈ L, laterB out r = false → r.k ∈ out.map (·.1)
  few : out.length + L.countP (laterB out) ≤ L.length
theorem ToldTo.none (F : Int → Int → Int) (L : List R) : ToldTo F L [] := ⟨List.Pairwise.nil, (fun _ h => by cases h), (fun r _ h => by cases h), (by rw [List.length_nil, Nat.zero_add]; exact List.countP_le_length)⟩
theorem laterB_snoc (out : List (Int × Int)) (p : Int × Int) (r : R) : laterB (out ++ [p]) r = decide (p.1 < r.k) := by
  simp [laterB]
theorem last_top {out : List (Int × Int)} (h : out.Pairwise (fun a b => a.1 < b.1)) : ∀ p ∈ out, p.1 ≤ (out.getLast?.getD (0, 0)).1 := fun p hp => by
  rcases List.eq_nil_or_concat out with rfl | ⟨l, q, rfl⟩
  · cases hp
  · rw [List.concat_eq_append] at *
    simp only [List.getLast?_append, List.getLast?_singleton, Option.some_or, Option.getD_some]
    rcases List.mem_append.1 hp with hp | hp
    · exact Int.le_of_lt ((List.pairwise_append.1 h).2.2 p hp q (by simp))
    · rw [List.mem_singleton.1 hp]; exact Int.le_refl _
theorem laterB_above {out : List (Int × Int)} (h : out.Pairwise (fun a b => a.1 < b.1)) {r : R} (hr : laterB out r = true) : ∀ p ∈ out, p.1 < r.k := fun p hp => by
  unfold laterB at hr
  rcases List.eq_nil_or_concat out with rfl | ⟨l, q, rfl⟩
  · cases hp
  · have := last_top h p hp
    simp at hr this
    omega
theorem ToldTo.step {F : Int → Int → Int} {L : List R} {out : List (Int × Int)} (h : ToldTo F L out) (hn : (nextOf out L).1 = true) : ToldTo F L (out ++ [((nextOf out L).2, (oneOf F (nextOf out L).2 L).2)]) := by
  obtain ⟨⟨r, hr, hl, hk⟩, hmin⟩ := (nextOf_says out L).2 hn
  generalize (nextOf out L).2 = c at *
  subst hk
  have hup := laterB_above h.rise hl
  have hv : Pi.val F (valsOf L r.k) = some (oneOf F r.k L).2 := by
    rw [oneOf_val]
    rw [if_pos]
    cases hx : (oneOf F r.k L).1 with
    | true => rfl
    | false =>
      have h0 := oneOf_val F r.k L
      rw [hx, if_neg (by simp)] at h0
      have : valsOf L r.k ≠ [] := by
        unfold valsOf
        intro e
        have hm : r ∈ L.filter fun x => decide (x.k = r.k) := List.mem_filter.2 ⟨hr, by simp⟩
        rw [List.map_eq_nil_iff.1 e] at hm
        cases hm
      cases hy : valsOf L r.k with
      | nil => exact absurd hy this
      | cons a l => rw [hy] at h0; cases h0
  refine ⟨?_, ?_, ?_, ?_⟩
  · rw [List.pairwise_append]
    exact ⟨h.rise, List.pairwise_singleton _ _, fun a ha b hb => by rw [List.mem_singleton.1 hb]; exact hup a ha⟩
  · intro p hp
    rcases List.mem_append.1 hp with hp | hp
    · exact h.val p hp
    · rw [List.mem_singleton.1 hp]; exact hv
  · intro x hx hlx
    rw [laterB_snoc] at hlx
    rw [List.map_append, List.mem_append]
    cases ho : laterB out x with
    | false => exact .inl (h.seen x hx ho)
    | true =>
      have h1 := hmin x hx ho
      have h2 : ¬ r.k < x.k := by simpa using hlx
      exact .inr (by simp; omega)
  · have h1 := h.few
    have h2 : L.countP (laterB (out ++ [(r.k, (oneOf F r.k L).2)])) + 1 ≤ L.countP (laterB out) := by
      refine countP_lt (fun x hx => ?_) hr hl (by rw [laterB_snoc]; simp)
      rw [laterB_snoc] at hx
      have hx : r.k < x.k := by simpa using hx
      unfold laterB at hl ⊢
      rw [Bool.or_eq_true] at hl ⊢
      rcases hl with hl | hl
      · exact .inl hl
      · exact .inr (by simp at hl ⊢; omega)
    rw [List.length_append, List.length_singleton]
    omega
theorem ToldTo.told {F : Int → Int → Int} {L : List R} {out : List (Int × Int)} (h : ToldTo F L out) (hn : (nextOf out L).1 = false) : IsTold F L out := by
  have hno := (nextOf_says out L).1 hn
  refine ⟨h.rise, fun p => ⟨h.val p, fun hp => ?_⟩⟩
  have hne : valsOf L p.1 ≠ [] := fun e => by rw [e] at hp; cases hp
  have : ∃ r ∈ L, r.k = p.1 := by
    cases hf : L.filter fun r => decide (r.k = p.1) with
    | nil => exact absurd (by rw [valsOf, hf]; rfl) hne
    | cons r l =>
      have hm : r ∈ L.filter fun r => decide (r.k = p.1) := by rw [hf]; simp
      obtain ⟨a, b⟩ := List.mem_filter.1 hm
      exact ⟨r, a, by simpa using b⟩
  obtain ⟨r, hr, hk⟩ := this
  obtain ⟨q, hq, hqk⟩ := List.mem_map.1 (h.seen r hr (hno r hr))
  have hv := h.val q hq
  rw [show q.1 = p.1 by rw [hqk, hk], hp] at hv
  have : q = p := by
    obtain ⟨a, b⟩ := q
    obtain ⟨c, d⟩ := p
    dsimp only at *
    injection hv with hv
    subst hv
    rw [show a = c by omega]
  exact this ▸ hq
end Go.Proofs.YtlinmcgmkpkpaaaDoor.Pi
namespace Go.Proofs.YtlinmcgmkpkpaaaDoor.Held
open Go.RowKit
section
variable {P : Program} {ops : Array Oper} {Q : Exit → Act → World → Prop} {md : Region.Mode} {T : World → Prop} {s : Nat}
theorem wpAnyB_alone {i : Nat} {oi : Oper} {v : Value} (hi : ops[i]? = some oi) (hsel : ∀ (j : Nat) (o : Oper) cs b, ops[j]? = some o → o.op ≠ .select cs b)
    (hQ : ∀ c a w, Q (.panic c) (a.put oi.dst v) w → Q (.panic c) a w) (hs : i ≠ s) :
    ∀ (fuel : Nat) {listed : Array Bool} {a : Act} {w : World}, Early md ops [] i oi listed → YieldsIf P ops (fun _ => True) oi v a → (listed.getD s true = false → T w) →
      wpAnyB P md ops Q T s fuel (listed.setIfInBounds i true) (a.put oi.dst v) w → wpAnyB P md ops Q T s (fuel + 1) listed a w
  | fuel, listed, a, w, h, hy, hT, H => by
    refine ⟨fun h0 => absurd (h0 ▸ h.ready) (by simp), fun j hj => ?_⟩
    by_cases hji : j = i
    · refine hji ▸ hy.wpOp hi trivial ⟨fun e => hT (by rwa [getD_set_ne true hs] at e), H⟩
    · match fuel, H with
      | 0, H => exact absurd (H.1 ▸ ready_mono hj hji) (by simp)
      | fuel + 1, H =>
        obtain ⟨hun, oj, ho, _⟩ := mem_ready.1 hj
        have step := wpOp_putIf ho (h.free j oj ho hji hun (h.waits hj ho)) (fun cs b => hsel i oi cs b hi) (fun cs b => hsel j oj cs b ho) hQ hy (H.2 j (ready_mono hj hji))
        have n := h.next ⟨by simp, fun b hb => by cases hb⟩ hj hji
        refine wpOp_mono (fun a' w' k => ?_) step
        obtain ⟨k1, k2, k3⟩ := k
        rw [Array.setIfInBounds_comm _ _ (Ne.symm hji)] at k2 k3
        have hT' : (listed.setIfInBounds j true).getD s true = false → T w' := fun e => k2 (by rw [getD_set_ne true hs]; exact e)
        exact ⟨hT', wpAnyB_alone hi hsel hQ hs fuel n k1 hT' k3⟩
theorem takeA (i : Nat) (d : Option Tmp) {oi : Oper} {v : Value} {fuel : Nat} {listed : Array Bool} {a : Act} {w : World} (hi : ops[i]? = some oi) (hd : oi.dst = d)
    (hs : Region.noSelect ops = true) (hf : Region.free md ops listed i = true) (hr : (Region.ready md ops listed).contains i = true) (hne : i ≠ s)
    (hQ : ∀ c a w, Q (.panic c) (a.put d v) w → Q (.panic c) a w) (hw : Region.wanted oi (yielded ops a.tmps) = true) (hy : ∀ w, True → (execOp a.eval oi).run P w = .ok (.value v) w) (hT : listed.getD s true = false → T w)
    (h : wpAnyB P md ops Q T s fuel (listed.setIfInBounds i true) (a.put d v) w) : wpAnyB P md ops Q T s (fuel + 1) listed a w := by
  subst hd
  exact wpAnyB_alone hi (Region.noSelect_spec hs) hQ hne fuel ⟨by simpa using hr, Region.free_spec hi hf, fun b hb => by cases hb⟩ (.inl ⟨hw, hy⟩) hT h
end
end Go.Proofs.YtlinmcgmkpkpaaaDoor.Held
namespace Go.Proofs.YtlinmcgmkpkpaaaDoor.Sp
open Go.RowKit Go.Shelf Go.Proofs.YtlinmcgmkpkpaaaDoor Mem Held Rc Rs Sl Vm
theorem flat_set1 (z : Int) : ∀ (xs : List (Int × Int)) (j : Nat), j < xs.length → (Sl.flat kP xs).set (j * 2 + 1) (.int .i64 z) = Sl.flat kP (xs.set j ((xs.getD j (0, 0)).1, z))
  | [], j, h => absurd h (by simp)
  | x :: xs, 0, _ => rfl
  | x :: xs, j + 1, h => by
    have := flat_set1 z xs j (by simpa using h)
    have e : (j + 1) * 2 + 1 = j * 2 + 1 + 1 + 1 := by omega
    have f : ∀ (y : Int × Int) (ys : List (Int × Int)), Sl.flat kP (y :: ys) = .int .i64 y.1 :: .int .i64 y.2 :: Sl.flat kP ys := fun y ys => by simp only [Sl.flat, List.flatMap_cons]; rfl
    rw [f, e, List.set_cons_succ, List.set_cons_succ, this, List.set_cons_succ, f, List.getD_cons_succ]
section
variable {α : Type} {k : St α} {t : TypeId} {w w' : World} {base n c : Nat} {A : Option Addr} {v : Value} {xs : List α}
theorem OwnL.ne (h : OwnL k t w base v xs) {row : Option Nat} (hr : ∀ r, row = some r → ∃ o : Obj, w.heap[r]? = some o ∧ o.isCells = false) : v.ownBlock = none ∨ v.ownBlock ≠ row := by
  rcases h.2 with ⟨rfl, _⟩ | ⟨g, cap, cur, rfl, _, hg, _⟩
  · exact .inl rfl
  · refine .inr fun e => ?_
    obtain ⟨o, ho, hc⟩ := hr g e.symm
    rw [hg] at ho
    cases ho
    cases hc
end
section
variable {t : TypeId} {w w' : World} {base g n cap : Nat} {xs : List (Int × Int)}
theorem own_set (h : OwnL kP t w base (.slice (some ⟨g, 0, none⟩) n cap) xs) {j : Nat} (hj : j < xs.length) (z : Int) :
    (∃ u, w.cell? ⟨g, j * 2 + 1, none⟩ = some u) ∧ w.frozen? ⟨g, j * 2 + 1, none⟩ = false ∧ OwnL kP t (w.setCell ⟨g, j * 2 + 1, none⟩ (.int .i64 z)) base (.slice (some ⟨g, 0, none⟩) n cap) (xs.set j ((xs.getD j (0, 0)).1, z)) := by
  rcases h.2 with ⟨e, _⟩ | ⟨g', cap', cur, e, hb, hg, hnc, hcm, hcs, ht⟩
  · cases e
  · injection e with e1 e2 e3
    injection e1 with e1
    injection e1 with e1
    subst e1
    subst e3
    have hcs : cur.size = cap * 2 := hcs
    have ht : cur.toList.take (xs.length * 2) = Sl.flat kP xs := ht
    have hlt : j * 2 + 1 < cur.size := by omega
    have hb' : Blk (w.setCell ⟨g, j * 2 + 1, none⟩ (.int .i64 z)) g t (cur.setIfInBounds (j * 2 + 1) (.int .i64 z)) := Blk.set (w := w) (cs := cur) hg _ _
    refine ⟨⟨cur[j * 2 + 1], by rw [cell_of_row w g _ _ _ (0, 0) hg]; exact Array.getElem?_eq_getElem hlt⟩, by simp [World.frozen?, hg], Sl.flat_length kP _, .inr ⟨g, cap, _, by rw [List.length_set]; exact congrArg (fun n => Value.slice (some ⟨g, 0, none⟩) n cap) e2, hb, hb', by rw [List.length_set]; exact hnc, hcm, by rw [Array.size_setIfInBounds]; exact hcs, ?_⟩⟩
    rw [List.length_set, Array.toList_setIfInBounds]
    show (cur.toList.set (j * 2 + 1) (.int .i64 z)).take (xs.length * 2) = _
    rw [List.take_set, ht, flat_set1 z xs j hj]
variable {P : Program} {ops : Array Oper} {rest : List Oper} {o : Oper} {a : Act} {Q : Exit → Act → World → Prop}
theorem op_store_own (i : Nat) (d : Option Tmp) {K : Act → World → Prop} (ty : TypeId) {x y : Operand} (off j : Nat) (z : Int) (hi : ops[i]? = some o) (hd : o.dst = d) (hw : Region.wanted o (yielded ops a.tmps) = true)
    (ho : o.op = .store ty x y) (hx : a.eval x = .pointer (some ⟨g, off, none⟩)) (hoff : off = j * 2 + 1) (hy : a.eval y = .int .i64 z) (hsz : (P.info? ty).map (·.size) = some 1) (hown : OwnL kP t w base (.slice (some ⟨g, 0, none⟩) n cap) xs) (hj : j < xs.length)
    (h : ∀ w', OwnL kP t w' base (.slice (some ⟨g, 0, none⟩) n cap) (xs.set j ((xs.getD j (0, 0)).1, z)) → w.grownBy w' (some g) → K (a.put d undef) w') : wpOp P ops Q i K a w := by
  subst hd
  subst hoff
  obtain ⟨⟨u, h1⟩, h2, h3⟩ := own_set hown hj z
  refine op_wp i hi hw ?_
  unfold Oper.wp execOp
  simp only [ho, hx, hy, Instr.storeAt, Instr.sureAddr, Sem.run_bind, Sem.run_pure, Result.andThen_ok, run_store_elem ty g _ u (.int .i64 z) h1 h2 hsz rfl rfl]
  exact h _ h3 (grown_setCell _ _ _ _)
end
structure FI (w : World) (lb SB : Nat) (PC : Array Value) (F : Int → Int → Int) (pre : List R) (W : World) : Prop where
  own : ∃ v, W.heap[lb]? = some (.cells #[v] 29 (0, 0)) ∧ OwnL kP 39 W SB v (foldP F pre)
  prog : Blk W w.heap.size 26 PC
  below : Below w.heap.size w W
theorem FI.from {w : World} {lb SB : Nat} {PC : Array Value} {F : Int → Int → Int} {B : Nat} (hB : w.heap.size ≤ B) : OwnFrom B (FI w lb SB PC F) := fun pre W W' row h hg hr => by
  obtain ⟨v, h1, h2⟩ := h.own
  have hne := fun (b : Nat) (t : TypeId) (cs : Array Value) (hb : W.heap[b]? = some (.cells cs t (0, 0))) => (show some b ≠ row from fun e => by
    obtain ⟨_, o, ho, hc⟩ := hr b e.symm
    rw [hb] at ho
    cases ho
    cases hc)
  exact ⟨⟨v, Held.keep_cells h1 hg (hne _ _ _ h1), h2.kept hg (OwnL.ne h2 fun r e => (hr r e).2)⟩, h.prog.grown hg (hne _ _ _ h.prog), h.below.grown hg h.below.size (fun r e => Nat.le_trans hB (hr r e).1)⟩
end Go.Proofs.YtlinmcgmkpkpaaaDoor.Sp
