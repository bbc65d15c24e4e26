/-
  dominolaw17's few (public numbers with not too many blocks) and awake, by their contracts.
  Tasks and spots held against each other, and the functions Same and Plain of package dominohelp on them, by their contracts.
  What the frame of a proof says of a program, a pair, a list of truths that came in.
  What the frame of a proof says of a list of pairs, of public numbers that came in.
-/
import Derived.Test.YtipmfficjomcoaaDoorB6
import Derived.Test.YtipmfficjomcoaaDoorB10
import Derived.Test.YtipmfficjomcoaaDoorB3
import Derived.Test.YtipmfficjomcoaaDoorB4
import Derived.Laws.StructEq
import Derived.WideShapes
import Derived.ChangeArms
set_option linter.unusedVariables false
namespace Go.Proofs.YtipmfficjomcoaaDoor.Sh
open Go.RowKit Go.Shelf Mem Held Go.Proofs.YtipmfficjomcoaaDoor.Range Sl
attribute [local go_sem] Oper.semAt_some
attribute [local irreducible] wpList wpListIn Calls
theorem right_less {r x k b wk : Int} (h : Sp.rightB r k b wk = true) (h1 : 1 ≤ x) (hx : x ≤ r) : Sp.rightB x k b wk = true := by
  obtain ⟨⟨a1, a2⟩, ⟨a3, a4⟩, ⟨a5, a6⟩, ⟨a7, a8⟩, _, a9, a10⟩ := right_says h
  have hm : (x + b - 1) / b ≤ (r + b - 1) / b := Int.ediv_le_ediv (by omega) (by omega)
  have := Int.mul_le_mul_of_nonneg_left hm (show 0 ≤ k by omega)
  rw [Sp.rightB_of]
  have e1 : Sp.inB x 64 = true := by simp [Sp.inB]; omega
  have e2 : Sp.inB k 4 = true := by simp [Sp.inB]; omega
  have e3 : Sp.inB b 8 = true := by simp [Sp.inB]; omega
  have e4 : Sp.inB wk 4 = true := by simp [Sp.inB]; omega
  rw [e1, e2, e3, e4, decide_eq_true (show k * ((x + b - 1) / b) < 32 by omega)]
  rfl
def cellN (w : World) (g : Nat) : Nat := match w.cell? ⟨g, 0, none⟩ with
  | some v => (intOf v).toNat
  | none => 0
theorem cellN_of {w : World} {g : Nat} {z : Int} (h : w.cell? ⟨g, 0, none⟩ = some (.int .i64 z)) : cellN w g = z.toNat := by
  unfold cellN
  rw [h]
  rfl
def Few (r k b wk x : Int) : Prop := (Sp.rightB r k b wk = false ∧ x = r) ∨ (Sp.rightB r k b wk = true ∧ Sp.rightB x k b wk = true ∧ k * ((x + b - 1) / b) ≤ 7)
set_option maxRecDepth 100000 in
set_option maxHeartbeats 8000000 in
theorem few_any (r k b wk : Int) (w : World) :
    Calls Tryd.prog 8 #[.agg #[.int .i64 r, .int .i64 k, .int .i64 b, .int .i64 wk]] w fun e w' => ∃ x, e = .returned (.agg #[.int .i64 x, .int .i64 k, .int .i64 b, .int .i64 wk]) ∧ Few r k b wk x ∧ Below w.heap.size w w' := by
  by_cases hR : Sp.rightB r k b wk = true
  case neg =>
    have HR := Lib.hid (show Sp.rightE r k b wk = 1 by rw [Sp.rightE, if_neg hR])
    have HF := Lib.hid (show Few r k b wk r from .inl ⟨by simpa using hR, rfl⟩)
    clear hR
    go_enter Tryd.func8, Tryd.ntmps8
    go_wp2_with (first
      | (refine wpList_box_blk (w := w) rfl 23 _ rfl _ rfl ?_; intro u1 qu1 gu1 zu1)
      | (refine wpList_alloc_blk (w := u1) rfl 23 rfl #[.int .i64 0, .int .i64 0, .int .i64 0, .int .i64 0] (by kernel_rfl) ?_; intro u2 qu2 gu2 zu2; have qp := qu1.grown gu2 (by simp); have bo2 : Below w.heap.size w u2 := ((Below.refl _ w).grown gu1 (Nat.le_refl _) (by simp)).grown gu2 gu1.size (by simp))
      | (refine wpList_load_blk (w := u2) rfl 23 _ rfl (w.heap.size) 4 rfl 23 _ qp _ Tryd.underlying23 rfl (by kernel_rfl) rfl ?_))
    refine (rright_any r k b wk u2).mono ?_
    rintro e w3 ⟨rfl, b3⟩
    rw [HR.out]
    have qp3 := qp.after b3
    have qr3 := qu2.after b3
    have bo3 := bo2.trans (b3.mono bo2.size)
    have hs3 := bo3.size
    have hu1 := gu1.size
    go_wp2_with (first
      | (refine wpList_load_blk (w := w3) rfl 23 _ rfl (w.heap.size) 4 rfl 23 _ qp3 _ Tryd.underlying23 rfl (by kernel_rfl) rfl ?_)
      | (refine wpList_store_blk (w := w3) rfl 23 _ _ rfl (u1.heap.size) 4 rfl 23 _ #[.int .i64 r, .int .i64 k, .int .i64 b, .int .i64 wk] rfl qr3 (by kernel_rfl) rfl rfl (by kernel_rfl) ?_; intro u9 qu9 gu9 zu9))
    exact bodyPost_ret (results_blk rfl _ _ u1.heap.size 4 _ _ rfl qu9 _ Tryd.underlying23 rfl (by kernel_rfl) rfl) rfl ⟨_, rfl, HF.out, bo3.grown gu9 hs3 (fun r e => by cases e; exact hu1)⟩
  case pos =>
    have HR := Lib.hid (show Sp.rightE r k b wk = 0 by rw [Sp.rightE, if_pos hR])
    have HRR := Lib.hid hR
    have hsay := right_says hR
    have hk := hsay.2.1
    have hb := hsay.2.2.1
    have hr := hsay.1
    have hb0 : b ≠ 0 := by omega
    clear hsay hR
    go_enter Tryd.func8, Tryd.ntmps8
    go_wp2_with (first
      | (refine wpList_box_blk (w := w) rfl 23 _ rfl _ rfl ?_; intro u1 qu1 gu1 zu1)
      | (refine wpList_alloc_blk (w := u1) rfl 23 rfl #[.int .i64 0, .int .i64 0, .int .i64 0, .int .i64 0] (by kernel_rfl) ?_; intro u2 qu2 gu2 zu2; have qp := qu1.grown gu2 (by simp); have bo2 : Below w.heap.size w u2 := ((Below.refl _ w).grown gu1 (Nat.le_refl _) (by simp)).grown gu2 gu1.size (by simp))
      | (refine wpList_load_blk (w := u2) rfl 23 _ rfl (w.heap.size) 4 rfl 23 _ qp _ Tryd.underlying23 rfl (by kernel_rfl) rfl ?_))
    refine (rright_any r k b wk u2).mono ?_
    rintro e w3 ⟨rfl, b3⟩
    rw [HR.out]
    have qp3 := qp.after b3
    have qr3 := qu2.after b3
    have bo3 := bo2.trans (b3.mono bo2.size)
    have hu1 : w.heap.size < u1.heap.size := qu1.lt
    clear qp qu2 bo2 b3 gu1 gu2 zu1 zu2 qu1 HR
    go_wp2_with fail
    go_loopw [] (fun wr => ∃ x, 1 ≤ x ∧ x ≤ r ∧ Blk wr w.heap.size 23 #[.int .i64 x, .int .i64 k, .int .i64 b, .int .i64 wk] ∧ Blk wr u1.heap.size 23 #[.int .i64 0, .int .i64 0, .int .i64 0, .int .i64 0] ∧ Below w.heap.size w wr) (fun wr => cellN wr w.heap.size)
    case atStart => exact ⟨r, hr.1, Int.le_refl _, qp3, qr3, bo3⟩
    case round =>
      clear qp3 qr3 bo3
      obtain ⟨x, hx1, hxr, qp, qr, bw⟩ := hrel
      have HRX := Lib.hid (right_less HRR.out hx1 hxr)
      have E1 := Lib.hid (show IntKind.i64.wrap (x + b) = x + b by rw [IntKind.wrap_i64]; omega)
      have E2 := Lib.hid (show IntKind.i64.wrap (x + b - 1) = x + b - 1 by rw [IntKind.wrap_i64]; omega)
      have hsx := right_says HRX.out
      have E3 := Lib.hid (show IntKind.i64.wrap ((x + b - 1).tdiv b) = (x + b - 1) / b by
        rw [show (x + b - 1).tdiv b = (x + b - 1) / b from Int.tdiv_eq_ediv_of_nonneg (by omega), IntKind.wrap_i64]; omega)
      have E4 := Lib.hid (show IntKind.i64.wrap (k * ((x + b - 1) / b)) = k * ((x + b - 1) / b) by rw [IntKind.wrap_i64]; omega)
      have hu9 : w.heap.size ≤ u1.heap.size := Nat.le_of_lt hu1
      by_cases h1 : 1 < x
      · have hd1 := Lib.hid (show decide (1 < x) = true from decide_eq_true h1)
        by_cases h7 : 7 < k * ((x + b - 1) / b)
        · have hd2 := Lib.hid (show decide (7 < k * ((x + b - 1) / b)) = true from decide_eq_true h7)
          have hsub : IntKind.i64.wrap (x - 1) = x - 1 := by rw [IntKind.wrap_i64]; omega
          have cx : wr.cell? ⟨w.heap.size, 0, none⟩ = some (.int .i64 x) := qp.cell (i := 0) rfl
          clear hsx h7
          go_wp2_with fail
          refine wp_region_held (S := fun W => Below wr.heap.size wr W) (by kernel_rfl) ?_
          change wpAnyH _ _ _ _ _ _ _ _ wr.drew
          have c0_0 := (Below.refl wr.heap.size wr).drew
          refine Held.tk (v := .pointer (some ⟨w.heap.size, 0, none⟩)) 0 (some 6) rfl (Held.y_field (k := 0) (s := 0) rfl rfl Tryd.underlying23 rfl (by kernel_rfl) rfl) c0_0 ?_
          simp only [Act.put, Z1, Z2, Z3]
          refine Held.tk (v := .int .i64 x) 1 (some 7) rfl (Held.y_load rfl rfl (by kernel_rfl) (fun W hW => (qp.after hW).cell rfl)) c0_0 ?_
          simp only [Act.put, Z1, Z2, Z3]
          refine Held.tk (v := .bool true) 2 (some 8) rfl (Held.y_gtr rfl rfl rfl (hd1.out)) c0_0 ?_
          simp only [Act.put, Z1, Z2, Z3]
          refine Held.tk (v := .bool true) 3 (some 9) rfl (Held.y_move rfl rfl) c0_0 ?_
          simp only [Act.put, Z1, Z2, Z3]
          refine Held.tk (v := .pointer (some ⟨w.heap.size, 1, none⟩)) 4 (some 10) rfl (Held.y_field (k := 1) (s := 0) rfl rfl Tryd.underlying23 rfl (by kernel_rfl) rfl) c0_0 ?_
          simp only [Act.put, Z1, Z2, Z3]
          refine Held.tk (v := .int .i64 k) 5 (some 11) rfl (Held.y_load rfl rfl (by kernel_rfl) (fun W hW => (qp.after hW).cell rfl)) c0_0 ?_
          simp only [Act.put, Z1, Z2, Z3]
          refine Held.tk (v := .pointer (some ⟨w.heap.size, 0, none⟩)) 6 (some 12) rfl (Held.y_field (k := 0) (s := 0) rfl rfl Tryd.underlying23 rfl (by kernel_rfl) rfl) c0_0 ?_
          simp only [Act.put, Z1, Z2, Z3]
          refine Held.tk (v := .int .i64 x) 7 (some 13) rfl (Held.y_load rfl rfl (by kernel_rfl) (fun W hW => (qp.after hW).cell rfl)) c0_0 ?_
          simp only [Act.put, Z1, Z2, Z3]
          refine Held.tk (v := .pointer (some ⟨w.heap.size, 2, none⟩)) 8 (some 14) rfl (Held.y_field (k := 2) (s := 0) rfl rfl Tryd.underlying23 rfl (by kernel_rfl) rfl) c0_0 ?_
          simp only [Act.put, Z1, Z2, Z3]
          refine Held.tk (v := .int .i64 b) 9 (some 15) rfl (Held.y_load rfl rfl (by kernel_rfl) (fun W hW => (qp.after hW).cell rfl)) c0_0 ?_
          simp only [Act.put, Z1, Z2, Z3]
          refine Held.tk (v := .int .i64 ((x + b))) 10 (some 16) rfl (Held.y_int rfl rfl rfl (Held.run_add 3 .i64 (E1.out))) c0_0 ?_
          simp only [Act.put, Z1, Z2, Z3]
          refine Held.tk (v := .int .i64 ((x + b - 1))) 11 (some 17) rfl (Held.y_int rfl rfl rfl (Held.run_sub 3 .i64 (E2.out))) c0_0 ?_
          simp only [Act.put, Z1, Z2, Z3]
          refine Held.tk (v := .pointer (some ⟨w.heap.size, 2, none⟩)) 12 (some 18) rfl (Held.y_field (k := 2) (s := 0) rfl rfl Tryd.underlying23 rfl (by kernel_rfl) rfl) c0_0 ?_
          simp only [Act.put, Z1, Z2, Z3]
          refine Held.tk (v := .int .i64 b) 13 (some 19) rfl (Held.y_load rfl rfl (by kernel_rfl) (fun W hW => (qp.after hW).cell rfl)) c0_0 ?_
          simp only [Act.put, Z1, Z2, Z3]
          refine Held.tk (v := .int .i64 ((x + b - 1) / b)) 14 (some 20) rfl (Bi.y_quo (x + b - 1) b rfl rfl rfl (Held.run_quo 3 .i64 hb0 E3.out)) c0_0 ?_
          simp only [Act.put, Z1, Z2, Z3]
          refine Held.tk (v := .int .i64 ((k * ((x + b - 1) / b)))) 15 (some 21) rfl (Held.y_int rfl rfl rfl (Held.run_mul 3 .i64 (E4.out))) c0_0 ?_
          simp only [Act.put, Z1, Z2, Z3]
          refine Held.tk (v := .bool true) 16 (some 22) rfl (Held.y_gtr rfl rfl rfl (hd2.out)) c0_0 ?_
          simp only [Act.put, Z1, Z2, Z3]
          refine Held.tk (v := .bool true) 17 (some 23) rfl (Held.y_pick rfl rfl rfl) c0_0 ?_
          simp only [Act.put, Z1, Z2, Z3]
          refine wpAnyH_done (by kernel_rfl) ?_ _
          have bz := bw.trans (c0_0.mono bw.size)
          have qp2 := qp.after c0_0
          have qr2 := qr.after c0_0
          have hsz := c0_0.size
          have cx2 := qp2.cell (i := 0) rfl
          go_wp2_with (first
            | (refine wpList_fld0 (w := wr.drew) rfl rfl rfl Tryd.underlying23 rfl (by kernel_rfl) ?_)
            | (refine Held.wpList_store_field (w := wr.drew) rfl 3 _ _ rfl w.heap.size 0 rfl 23 _ (.int .i64 (x - 1)) rfl qp2 (by simp) (by kernel_rfl) rfl rfl ?_; intro v2 q2 g2 z2))
          have q2 : Blk v2 w.heap.size 23 #[.int .i64 (x - 1), .int .i64 k, .int .i64 b, .int .i64 wk] := q2
          have cv : v2.cell? ⟨w.heap.size, 0, none⟩ = some (.int .i64 (x - 1)) := q2.cell (i := 0) rfl
          simp only [Act.put]
          go_roundw
          case rel => exact ⟨x - 1, by omega, by omega, q2, qr2.grown g2 (by intro e; injection e with e; omega), bz.grown g2 bz.size (fun r e => by cases e; exact Nat.le_refl _)⟩
          case measure => rw [cellN_of cx, cellN_of cv]; omega
        · have hd2 := Lib.hid (show decide (7 < k * ((x + b - 1) / b)) = false from decide_eq_false h7)
          have HF := Lib.hid (show Few r k b wk x from .inr ⟨HRR.out, HRX.out, by omega⟩)
          clear hsx h7
          go_wp2_with fail
          refine wp_region_held (S := fun W => Below wr.heap.size wr W) (by kernel_rfl) ?_
          change wpAnyH _ _ _ _ _ _ _ _ wr.drew
          have c0_0 := (Below.refl wr.heap.size wr).drew
          refine Held.tk (v := .pointer (some ⟨w.heap.size, 0, none⟩)) 0 (some 6) rfl (Held.y_field (k := 0) (s := 0) rfl rfl Tryd.underlying23 rfl (by kernel_rfl) rfl) c0_0 ?_
          simp only [Act.put, Z1, Z2, Z3]
          refine Held.tk (v := .int .i64 x) 1 (some 7) rfl (Held.y_load rfl rfl (by kernel_rfl) (fun W hW => (qp.after hW).cell rfl)) c0_0 ?_
          simp only [Act.put, Z1, Z2, Z3]
          refine Held.tk (v := .bool true) 2 (some 8) rfl (Held.y_gtr rfl rfl rfl (hd1.out)) c0_0 ?_
          simp only [Act.put, Z1, Z2, Z3]
          refine Held.tk (v := .bool true) 3 (some 9) rfl (Held.y_move rfl rfl) c0_0 ?_
          simp only [Act.put, Z1, Z2, Z3]
          refine Held.tk (v := .pointer (some ⟨w.heap.size, 1, none⟩)) 4 (some 10) rfl (Held.y_field (k := 1) (s := 0) rfl rfl Tryd.underlying23 rfl (by kernel_rfl) rfl) c0_0 ?_
          simp only [Act.put, Z1, Z2, Z3]
          refine Held.tk (v := .int .i64 k) 5 (some 11) rfl (Held.y_load rfl rfl (by kernel_rfl) (fun W hW => (qp.after hW).cell rfl)) c0_0 ?_
          simp only [Act.put, Z1, Z2, Z3]
          refine Held.tk (v := .pointer (some ⟨w.heap.size, 0, none⟩)) 6 (some 12) rfl (Held.y_field (k := 0) (s := 0) rfl rfl Tryd.underlying23 rfl (by kernel_rfl) rfl) c0_0 ?_
          simp only [Act.put, Z1, Z2, Z3]
          refine Held.tk (v := .int .i64 x) 7 (some 13) rfl (Held.y_load rfl rfl (by kernel_rfl) (fun W hW => (qp.after hW).cell rfl)) c0_0 ?_
          simp only [Act.put, Z1, Z2, Z3]
          refine Held.tk (v := .pointer (some ⟨w.heap.size, 2, none⟩)) 8 (some 14) rfl (Held.y_field (k := 2) (s := 0) rfl rfl Tryd.underlying23 rfl (by kernel_rfl) rfl) c0_0 ?_
          simp only [Act.put, Z1, Z2, Z3]
          refine Held.tk (v := .int .i64 b) 9 (some 15) rfl (Held.y_load rfl rfl (by kernel_rfl) (fun W hW => (qp.after hW).cell rfl)) c0_0 ?_
          simp only [Act.put, Z1, Z2, Z3]
          refine Held.tk (v := .int .i64 ((x + b))) 10 (some 16) rfl (Held.y_int rfl rfl rfl (Held.run_add 3 .i64 (E1.out))) c0_0 ?_
          simp only [Act.put, Z1, Z2, Z3]
          refine Held.tk (v := .int .i64 ((x + b - 1))) 11 (some 17) rfl (Held.y_int rfl rfl rfl (Held.run_sub 3 .i64 (E2.out))) c0_0 ?_
          simp only [Act.put, Z1, Z2, Z3]
          refine Held.tk (v := .pointer (some ⟨w.heap.size, 2, none⟩)) 12 (some 18) rfl (Held.y_field (k := 2) (s := 0) rfl rfl Tryd.underlying23 rfl (by kernel_rfl) rfl) c0_0 ?_
          simp only [Act.put, Z1, Z2, Z3]
          refine Held.tk (v := .int .i64 b) 13 (some 19) rfl (Held.y_load rfl rfl (by kernel_rfl) (fun W hW => (qp.after hW).cell rfl)) c0_0 ?_
          simp only [Act.put, Z1, Z2, Z3]
          refine Held.tk (v := .int .i64 ((x + b - 1) / b)) 14 (some 20) rfl (Bi.y_quo (x + b - 1) b rfl rfl rfl (Held.run_quo 3 .i64 hb0 E3.out)) c0_0 ?_
          simp only [Act.put, Z1, Z2, Z3]
          refine Held.tk (v := .int .i64 ((k * ((x + b - 1) / b)))) 15 (some 21) rfl (Held.y_int rfl rfl rfl (Held.run_mul 3 .i64 (E4.out))) c0_0 ?_
          simp only [Act.put, Z1, Z2, Z3]
          refine Held.tk (v := .bool false) 16 (some 22) rfl (Held.y_gtr rfl rfl rfl (hd2.out)) c0_0 ?_
          simp only [Act.put, Z1, Z2, Z3]
          refine Held.tk (v := .bool false) 17 (some 23) rfl (Held.y_pick rfl rfl rfl) c0_0 ?_
          simp only [Act.put, Z1, Z2, Z3]
          refine wpAnyH_done (by kernel_rfl) ?_ _
          have bz := bw.trans (c0_0.mono bw.size)
          have qp2 := qp.after c0_0
          have qr2 := qr.after c0_0
          have hsz := c0_0.size
          go_wp2_with (first
            | (refine wpList_load_blk (w := wr.drew) rfl 23 _ rfl (w.heap.size) 4 rfl 23 _ qp2 _ Tryd.underlying23 rfl (by kernel_rfl) rfl ?_)
            | (refine wpList_store_blk (w := wr.drew) rfl 23 _ _ rfl (u1.heap.size) 4 rfl 23 _ #[.int .i64 x, .int .i64 k, .int .i64 b, .int .i64 wk] rfl qr2 (by kernel_rfl) rfl rfl (by kernel_rfl) ?_; intro u9 qu9 gu9 zu9))
          exact bodyPost_ret (results_blk rfl _ _ u1.heap.size 4 _ _ rfl qu9 _ Tryd.underlying23 rfl (by kernel_rfl) rfl) rfl ⟨_, rfl, HF.out, bz.grown gu9 bz.size (fun r e => by cases e; exact hu9)⟩
      · have hd1 := Lib.hid (show decide (1 < x) = false from decide_eq_false h1)
        have hd2 := hd1
        obtain rfl : x = 1 := by omega
        have HF := Lib.hid (show Few r k b wk 1 from .inr ⟨HRR.out, HRX.out, by
          rw [show (1 : Int) + b - 1 = b by omega, Int.ediv_self hb0]
          omega⟩)
        clear hsx h1
        go_wp2_with fail
        refine wp_region_held (S := fun W => Below wr.heap.size wr W) (by kernel_rfl) ?_
        change wpAnyH _ _ _ _ _ _ _ _ wr.drew
        have c0_0 := (Below.refl wr.heap.size wr).drew
        refine Held.tk (v := .pointer (some ⟨w.heap.size, 0, none⟩)) 0 (some 6) rfl (Held.y_field (k := 0) (s := 0) rfl rfl Tryd.underlying23 rfl (by kernel_rfl) rfl) c0_0 ?_
        simp only [Act.put, Z1, Z2, Z3]
        refine Held.tk (v := .int .i64 1) 1 (some 7) rfl (Held.y_load rfl rfl (by kernel_rfl) (fun W hW => (qp.after hW).cell rfl)) c0_0 ?_
        simp only [Act.put, Z1, Z2, Z3]
        refine Held.tk (v := .bool false) 2 (some 8) rfl (Held.y_gtr rfl rfl rfl (hd1.out)) c0_0 ?_
        simp only [Act.put, Z1, Z2, Z3]
        refine Held.tk (v := .bool false) 3 (some 9) rfl (Held.y_move rfl rfl) c0_0 ?_
        simp only [Act.put, Z1, Z2, Z3]
        refine Held.skip 4 (some 10) rfl rfl (by kernel_rfl) (by kernel_rfl) (by kernel_rfl) (fun _ _ _ h => h) rfl c0_0 ?_
        simp only [Act.put, Z1, Z2, Z3]
        refine Held.skip 5 (some 11) rfl rfl (by kernel_rfl) (by kernel_rfl) (by kernel_rfl) (fun _ _ _ h => h) rfl c0_0 ?_
        simp only [Act.put, Z1, Z2, Z3]
        refine Held.skip 6 (some 12) rfl rfl (by kernel_rfl) (by kernel_rfl) (by kernel_rfl) (fun _ _ _ h => h) rfl c0_0 ?_
        simp only [Act.put, Z1, Z2, Z3]
        refine Held.skip 7 (some 13) rfl rfl (by kernel_rfl) (by kernel_rfl) (by kernel_rfl) (fun _ _ _ h => h) rfl c0_0 ?_
        simp only [Act.put, Z1, Z2, Z3]
        refine Held.skip 8 (some 14) rfl rfl (by kernel_rfl) (by kernel_rfl) (by kernel_rfl) (fun _ _ _ h => h) rfl c0_0 ?_
        simp only [Act.put, Z1, Z2, Z3]
        refine Held.skip 9 (some 15) rfl rfl (by kernel_rfl) (by kernel_rfl) (by kernel_rfl) (fun _ _ _ h => h) rfl c0_0 ?_
        simp only [Act.put, Z1, Z2, Z3]
        refine Held.skip 10 (some 16) rfl rfl (by kernel_rfl) (by kernel_rfl) (by kernel_rfl) (fun _ _ _ h => h) rfl c0_0 ?_
        simp only [Act.put, Z1, Z2, Z3]
        refine Held.skip 11 (some 17) rfl rfl (by kernel_rfl) (by kernel_rfl) (by kernel_rfl) (fun _ _ _ h => h) rfl c0_0 ?_
        simp only [Act.put, Z1, Z2, Z3]
        refine Held.skip 12 (some 18) rfl rfl (by kernel_rfl) (by kernel_rfl) (by kernel_rfl) (fun _ _ _ h => h) rfl c0_0 ?_
        simp only [Act.put, Z1, Z2, Z3]
        refine Held.skip 13 (some 19) rfl rfl (by kernel_rfl) (by kernel_rfl) (by kernel_rfl) (fun _ _ _ h => h) rfl c0_0 ?_
        simp only [Act.put, Z1, Z2, Z3]
        refine Held.skip 14 (some 20) rfl rfl (by kernel_rfl) (by kernel_rfl) (by kernel_rfl) (fun _ _ _ h => h) rfl c0_0 ?_
        simp only [Act.put, Z1, Z2, Z3]
        refine Held.skip 15 (some 21) rfl rfl (by kernel_rfl) (by kernel_rfl) (by kernel_rfl) (fun _ _ _ h => h) rfl c0_0 ?_
        simp only [Act.put, Z1, Z2, Z3]
        refine Held.skip 16 (some 22) rfl rfl (by kernel_rfl) (by kernel_rfl) (by kernel_rfl) (fun _ _ _ h => h) rfl c0_0 ?_
        simp only [Act.put, Z1, Z2, Z3]
        refine Held.tk (v := (.bool false)) 17 (some 23) rfl (Held.y_pickF rfl rfl rfl) c0_0 ?_
        simp only [Act.put, Z1, Z2, Z3]
        refine wpAnyH_done (by kernel_rfl) ?_ _
        have bz := bw.trans (c0_0.mono bw.size)
        have qp2 := qp.after c0_0
        have qr2 := qr.after c0_0
        have hsz := c0_0.size
        go_wp2_with (first
          | (refine wpList_load_blk (w := wr.drew) rfl 23 _ rfl (w.heap.size) 4 rfl 23 _ qp2 _ Tryd.underlying23 rfl (by kernel_rfl) rfl ?_)
          | (refine wpList_store_blk (w := wr.drew) rfl 23 _ _ rfl (u1.heap.size) 4 rfl 23 _ #[.int .i64 1, .int .i64 k, .int .i64 b, .int .i64 wk] rfl qr2 (by kernel_rfl) rfl rfl (by kernel_rfl) ?_; intro u9 qu9 gu9 zu9))
        exact bodyPost_ret (results_blk rfl _ _ u1.heap.size 4 _ _ rfl qu9 _ Tryd.underlying23 rfl (by kernel_rfl) rfl) rfl ⟨_, rfl, HF.out, bz.grown gu9 bz.size (fun r e => by cases e; exact hu9)⟩
set_option maxRecDepth 100000 in
set_option maxHeartbeats 4000000 in
theorem awake17_any (w : World) (hT : Bi.TzT w) : Calls Tryd.prog 12 #[] w fun e w' => e = .returned (.bool true) ∧ Below w.heap.size w w' := by
  have H := fun W hT => count_any 1 1 1 1 (by omega) (by omega) W hT
  have e : (tasksT (inN 1 1 1 1) (mpN 1 1 1 1) (mN 1 1 1 1) (tN 1 1 1 1)).length = 6 := by decide +kernel
  rw [e] at H
  go_enter Tryd.func12, Tryd.ntmps12
  go_wp2_with (first
    | (refine wpList_build_blk rfl 23 #[_, _, _, _] rfl #[.int .i64 1, .int .i64 1, .int .i64 1, .int .i64 1] (by kernel_rfl) ?_))
  refine (H w hT).mono ?_
  rintro e w1 ⟨rfl, b1⟩
  go_wp2_with fail
  go_ret
  exact ⟨rfl, b1⟩
end Go.Proofs.YtipmfficjomcoaaDoor.Sh
namespace Go.Proofs.YtipmfficjomcoaaDoor.Sh
open Go.RowKit Go.Shelf Mem Held Rs Sl
attribute [local irreducible] wpList wpListIn Calls
theorem Tk_iff {a b : Tk} : a = b ↔ a.kd = b.kd ∧ a.rd = b.rd ∧ a.a = b.a ∧ a.b = b.b ∧ a.up = b.up := ⟨fun e => by rw [e]; exact ⟨rfl, rfl, rfl, rfl, rfl⟩, fun h => Tk.ext' h.1 h.2.1 h.2.2.1 h.2.2.2.1 h.2.2.2.2⟩
theorem key_Tk (w : World) (a b : Tk) :
    (Op.equalIn 10000 34 (.agg #[.int .i64 a.kd, .int .i64 a.rd, .int .i64 a.a, .int .i64 a.b, .bool a.up]) (.agg #[.int .i64 b.kd, .int .i64 b.rd, .int .i64 b.a, .int .i64 b.b, .bool b.up])).run Tryd.prog w = .ok (decide (a.kd = b.kd ∧ a.rd = b.rd ∧ a.a = b.a ∧ a.b = b.b ∧ a.up = b.up)) w := by
  have hu : Tryd.prog.underlying 34 = some (.struct (Tryd.prog.fieldsOf 34)) := by kernel_rfl
  have hp : Tryd.prog.stoodInHeld 34 = false := by kernel_rfl
  have ej : ∀ (d : Nat) (k : IntKind) (x y : Int), (Op.equalIn (d + 1) 3 (.int k x) (.int k y)).run Tryd.prog w = .ok (x == y) w := fun d k x y => run_equalIn_int w d 3 k .i64 x y Tryd.underlying3
  have eb : ∀ (d : Nat) (x y : Bool), (Op.equalIn (d + 1) 4 (.bool x) (.bool y)).run Tryd.prog w = .ok (x == y) w := fun d x y => run_equalIn_bool' w d 4 x y Tryd.underlying4
  rw [show (10000 : Nat) = 9998 + 1 + 1 from rfl, run_equalIn_agg w (9998 + 1) _ _ _ hu hp]
  simp only [Program.fieldsOf, Tryd.underlying34, Op.eqFields, Go.part, isAgg, Sem.run_bind, run_underlying Tryd.underlying3, run_underlying Tryd.underlying4, Result.andThen_ok, Sem.run_pure, Sem.run_ite]
  simp [ej, eb]
  by_cases h0 : a.kd = b.kd <;> by_cases h1 : a.rd = b.rd <;> by_cases h2 : a.a = b.a <;> by_cases h3 : a.b = b.b <;> by_cases h4 : a.up = b.up <;> simp [h0, h1, h2, h3, h4]
theorem eql_Tk (w : World) (a b : Tk) : (binOp .eql 34 (.agg #[.int .i64 a.kd, .int .i64 a.rd, .int .i64 a.a, .int .i64 a.b, .bool a.up]) (.agg #[.int .i64 b.kd, .int .i64 b.rd, .int .i64 b.a, .int .i64 b.b, .bool b.up])).run Tryd.prog w = .ok (.bool (decide (a.kd = b.kd ∧ a.rd = b.rd ∧ a.a = b.a ∧ a.b = b.b ∧ a.up = b.up))) w := by
  rw [run_eql_struct, key_Tk]
  rfl
section
variable {S : World → Prop} {ρ : Operand → Value} {o : Oper}
theorem y_eqT {ty : TypeId} {x y : Operand} {a b : Tk} {r : Bool} (ho : o.op = .binOp .eql 34 x y ty) (hx : ρ x = .agg #[.int .i64 a.kd, .int .i64 a.rd, .int .i64 a.a, .int .i64 a.b, .bool a.up]) (hy : ρ y = .agg #[.int .i64 b.kd, .int .i64 b.rd, .int .i64 b.a, .int .i64 b.b, .bool b.up])
    (hr : decide (a.kd = b.kd ∧ a.rd = b.rd ∧ a.a = b.a ∧ a.b = b.b ∧ a.up = b.up) = r) : ∀ w, S w → (execOp ρ o).run Tryd.prog w = .ok (.value (.bool r)) w :=
  Held.y_bin ho hx hy (fun w => by simp [eqGuard, show Tryd.prog.eqGuardType Tryd.prog.depth 34 = false by kernel_rfl]) (fun w => by rw [← hr]; exact eql_Tk w a b)
end
theorem eqT_any (a b : Tk) (w : World) : Calls Tryd.prog 38 #[.agg #[.int .i64 a.kd, .int .i64 a.rd, .int .i64 a.a, .int .i64 a.b, .bool a.up], .agg #[.int .i64 b.kd, .int .i64 b.rd, .int .i64 b.a, .int .i64 b.b, .bool b.up]] w fun e w' => e = .returned (.bool (decide (a = b))) ∧ Below w.heap.size w w' := by
  have HR := Lib.hid (show decide (a.kd = b.kd ∧ a.rd = b.rd ∧ a.a = b.a ∧ a.b = b.b ∧ a.up = b.up) = decide (a = b) from decide_eq_decide.2 Tk_iff.symm)
  go_enter Tryd.func38, Tryd.ntmps38
  go_wp2_with (first
    | (refine wpList_box_blk (w := w) rfl 34 _ rfl _ rfl ?_; intro w1 q1 g1 z1)
    | (refine wpList_box_blk (w := w1) rfl 34 _ rfl _ rfl ?_; intro w2 q2 g2 z2; have q1 := q1.grown g2 (by simp))
    | (refine wpList_load_blk (w := w2) rfl 34 _ rfl w.heap.size 5 rfl 34 _ q1 _ Tryd.underlying34 rfl (by kernel_rfl) rfl ?_)
    | (refine wpList_load_blk (w := w2) rfl 34 _ rfl w1.heap.size 5 rfl 34 _ q2 _ Tryd.underlying34 rfl (by kernel_rfl) rfl ?_)
    | (refine wpList_run rfl (v := .bool (decide (a = b))) (y_eqT (S := fun _ => True) rfl rfl rfl HR.out _ trivial) ?_))
  go_ret
  exact ⟨rfl, ((Below.refl _ w).grown g1 (Nat.le_refl _) (by simp)).grown g2 g1.size (by simp)⟩
theorem take_stepT {xs ys : List Tk} {k : Nat} (hx : k < xs.length) (hy : k < ys.length) (h : xs.take k = ys.take k) (e : xs.getD k T0 = ys.getD k T0) : xs.take (k + 1) = ys.take (k + 1) := by
  rw [List.take_add_one, List.take_add_one, h]
  simp only [List.getD_eq_getElem?_getD, List.getElem?_eq_getElem hx, List.getElem?_eq_getElem hy, Option.getD_some] at e
  rw [List.getElem?_eq_getElem hx, List.getElem?_eq_getElem hy, e]
set_option maxRecDepth 100000 in
set_option maxHeartbeats 4000000 in
theorem sameT_any (B B' : Nat) (A A' : Option Addr) (n n' c c' : Nat) (rs rs' : List Tk) (w : World) (h : Lst kT w B A n rs) (h' : Lst kT w B' A' n' rs') (hB : B ≤ w.heap.size) (hB' : B' ≤ w.heap.size) (hn : n ≤ 1073741824) (hn' : n' ≤ 1073741824) :
    Calls Tryd.prog 37 #[.slice A n c, .slice A' n' c', .func (.func 38) #[] #[]] w fun e w' => e = .returned (.bool (decide (rs = rs'))) ∧ Below w.heap.size w w' := by
  by_cases hnn : n = n'
  · subst hnn
    have hne : ((n : Int) != (n : Int)) = false := by simp
    have HL := Lib.hid h.1
    have HL' := Lib.hid h'.1
    go_enter Tryd.func37, Tryd.ntmps37
    go_wp2_with fail
    go_loopw [7] (fun i wr => ∃ k : Nat, k ≤ n ∧ i = .int .i64 k ∧ Below w.heap.size w wr ∧ Hid (rs.take k = rs'.take k)) (fun i _ => n - (intOf i).toNat)
    case atStart => exact ⟨0, by omega, rfl, Below.refl _ _, Lib.hid rfl⟩
    case round =>
      obtain ⟨k, hk, rfl, hst, ht⟩ := hrel
      have hBk := Nat.le_trans hB hst.size
      have hBk' := Nat.le_trans hB' hst.size
      by_cases hlt : k < n
      · obtain ⟨b, off, rfl, hb, hx⟩ := (h.below (hst.mono hB)).at_ hlt
        have hx : wr.rangeAt b (off + k * 5) (rs.getD k T0).cells := hx
        obtain ⟨b', off', rfl, hb', hy⟩ := (h'.below (hst.mono hB')).at_ hlt
        have hy : wr.rangeAt b' (off' + k * 5) (rs'.getD k T0).cells := hy
        have hlt' : (k : Int) < (n : Int) := by omega
        have hk0 : (0 : Int) ≤ (k : Int) := by omega
        by_cases hq0 : rs.getD k T0 = rs'.getD k T0
        · have HT := Lib.hid (take_stepT (by have := HL.out; omega) (by have := HL'.out; omega) ht.out hq0)
          have hq : decide (rs.getD k T0 = rs'.getD k T0) = true := by simpa using hq0
          clear hq0
          generalize rs.getD k T0 = x at hx hq
          generalize rs'.getD k T0 = y at hy hq
          go_wp2_with fail
          refine wp_region_held (S := fun W => Below wr.heap.size wr W) (by kernel_rfl) ?_
          change wpAnyH _ _ _ _ _ _ _ _ wr.drew
          have c0_0 := (Below.refl wr.heap.size wr).drew
          refine Held.tk (v := .func (.func 38) #[] #[]) 0 (some 19) rfl (Held.y_move rfl rfl) c0_0 ?_
          simp only [Act.put, Z1, Z2, Z3]
          refine Held.tk (v := .slice (some ⟨b, off, none⟩) n c) 1 (some 20) rfl (Held.y_move rfl rfl) c0_0 ?_
          simp only [Act.put, Z1, Z2, Z3]
          refine Held.tk (v := .int .i64 (k : Int)) 2 (some 21) rfl (Held.y_move rfl rfl) c0_0 ?_
          simp only [Act.put, Z1, Z2, Z3]
          refine Held.tk (v := .pointer (some ⟨b, off + k * 5, none⟩)) 3 (some 22) rfl (Held.y_addr rfl rfl rfl (run_addr_of 28 34 b off n c k 5 .i64 Tryd.underlying28 (by kernel_rfl) hlt)) c0_0 ?_
          simp only [Act.put, Z1, Z2, Z3]
          refine Held.tk (v := .agg #[.int .i64 x.kd, .int .i64 x.rd, .int .i64 x.a, .int .i64 x.b, .bool x.up]) 4 (some 23) rfl (y_load_range (n := 5) (cs := x.cells) rfl rfl Tryd.underlying34 rfl (by kernel_rfl) rfl (fun W hW => range_below hx hW (Nat.lt_of_lt_of_le hb hBk))) c0_0 ?_
          simp only [Act.put, Z1, Z2, Z3]
          refine Held.tk (v := .slice (some ⟨b', off', none⟩) n c') 5 (some 24) rfl (Held.y_move rfl rfl) c0_0 ?_
          simp only [Act.put, Z1, Z2, Z3]
          refine Held.tk (v := .int .i64 (k : Int)) 6 (some 25) rfl (Held.y_move rfl rfl) c0_0 ?_
          simp only [Act.put, Z1, Z2, Z3]
          refine Held.tk (v := .pointer (some ⟨b', off' + k * 5, none⟩)) 7 (some 26) rfl (Held.y_addr rfl rfl rfl (run_addr_of 28 34 b' off' n c' k 5 .i64 Tryd.underlying28 (by kernel_rfl) hlt)) c0_0 ?_
          simp only [Act.put, Z1, Z2, Z3]
          refine Held.tk (v := .agg #[.int .i64 y.kd, .int .i64 y.rd, .int .i64 y.a, .int .i64 y.b, .bool y.up]) 8 (some 27) rfl (y_load_range (n := 5) (cs := y.cells) rfl rfl Tryd.underlying34 rfl (by kernel_rfl) rfl (fun W hW => range_below hy hW (Nat.lt_of_lt_of_le hb' hBk'))) c0_0 ?_
          simp only [Act.put, Z1, Z2, Z3]
          refine Held.one 9 (by kernel_rfl) ?_
          refine Rs.op_callv 9 (some 28) 38 #[] #[.agg #[.int .i64 x.kd, .int .i64 x.rd, .int .i64 x.a, .int .i64 x.b, .bool x.up], .agg #[.int .i64 y.kd, .int .i64 y.rd, .int .i64 y.a, .int .i64 y.b, .bool y.up]] rfl rfl rfl rfl rfl (enters_of Tryd.func38 (by kernel_rfl) rfl) (by simp [Act.eval])
            (by have := eqT_any x y wr.drew; rwa [hq] at this) ?_
          rintro e w1 ⟨rfl, b1⟩
          have c0_1 := c0_0.trans (b1.mono c0_0.size)
          refine ⟨_, rfl, c0_1, ?_⟩
          simp only [Act.put, Z1, Z2, Z3]
          refine Held.tk (v := .bool false) 10 (some 29) rfl (Held.y_not rfl rfl rfl) c0_1 ?_
          simp only [Act.put, Z1, Z2, Z3]
          refine wpAnyH_done (by kernel_rfl) ?_ _
          have dz := hst.trans (c0_1.mono hst.size)
          generalize w1 = wz at dz ⊢
          clear hx hy c0_1
          go_wp2_with fail
          go_roundw
          case rel => exact ⟨k + 1, by omega, by go_num, dz, HT⟩
          case measure => simp [intOf]; omega
        · have HF := Lib.hid (show decide (rs = rs') = false by
            rw [decide_eq_false_iff_not]; intro e; exact hq0 (by rw [e]))
          have hq : decide (rs.getD k T0 = rs'.getD k T0) = false := by simpa using hq0
          clear hq0
          generalize rs.getD k T0 = x at hx hq
          generalize rs'.getD k T0 = y at hy hq
          go_wp2_with fail
          refine wp_region_held (S := fun W => Below wr.heap.size wr W) (by kernel_rfl) ?_
          change wpAnyH _ _ _ _ _ _ _ _ wr.drew
          have c0_0 := (Below.refl wr.heap.size wr).drew
          refine Held.tk (v := .func (.func 38) #[] #[]) 0 (some 19) rfl (Held.y_move rfl rfl) c0_0 ?_
          simp only [Act.put, Z1, Z2, Z3]
          refine Held.tk (v := .slice (some ⟨b, off, none⟩) n c) 1 (some 20) rfl (Held.y_move rfl rfl) c0_0 ?_
          simp only [Act.put, Z1, Z2, Z3]
          refine Held.tk (v := .int .i64 (k : Int)) 2 (some 21) rfl (Held.y_move rfl rfl) c0_0 ?_
          simp only [Act.put, Z1, Z2, Z3]
          refine Held.tk (v := .pointer (some ⟨b, off + k * 5, none⟩)) 3 (some 22) rfl (Held.y_addr rfl rfl rfl (run_addr_of 28 34 b off n c k 5 .i64 Tryd.underlying28 (by kernel_rfl) hlt)) c0_0 ?_
          simp only [Act.put, Z1, Z2, Z3]
          refine Held.tk (v := .agg #[.int .i64 x.kd, .int .i64 x.rd, .int .i64 x.a, .int .i64 x.b, .bool x.up]) 4 (some 23) rfl (y_load_range (n := 5) (cs := x.cells) rfl rfl Tryd.underlying34 rfl (by kernel_rfl) rfl (fun W hW => range_below hx hW (Nat.lt_of_lt_of_le hb hBk))) c0_0 ?_
          simp only [Act.put, Z1, Z2, Z3]
          refine Held.tk (v := .slice (some ⟨b', off', none⟩) n c') 5 (some 24) rfl (Held.y_move rfl rfl) c0_0 ?_
          simp only [Act.put, Z1, Z2, Z3]
          refine Held.tk (v := .int .i64 (k : Int)) 6 (some 25) rfl (Held.y_move rfl rfl) c0_0 ?_
          simp only [Act.put, Z1, Z2, Z3]
          refine Held.tk (v := .pointer (some ⟨b', off' + k * 5, none⟩)) 7 (some 26) rfl (Held.y_addr rfl rfl rfl (run_addr_of 28 34 b' off' n c' k 5 .i64 Tryd.underlying28 (by kernel_rfl) hlt)) c0_0 ?_
          simp only [Act.put, Z1, Z2, Z3]
          refine Held.tk (v := .agg #[.int .i64 y.kd, .int .i64 y.rd, .int .i64 y.a, .int .i64 y.b, .bool y.up]) 8 (some 27) rfl (y_load_range (n := 5) (cs := y.cells) rfl rfl Tryd.underlying34 rfl (by kernel_rfl) rfl (fun W hW => range_below hy hW (Nat.lt_of_lt_of_le hb' hBk'))) c0_0 ?_
          simp only [Act.put, Z1, Z2, Z3]
          refine Held.one 9 (by kernel_rfl) ?_
          refine Rs.op_callv 9 (some 28) 38 #[] #[.agg #[.int .i64 x.kd, .int .i64 x.rd, .int .i64 x.a, .int .i64 x.b, .bool x.up], .agg #[.int .i64 y.kd, .int .i64 y.rd, .int .i64 y.a, .int .i64 y.b, .bool y.up]] rfl rfl rfl rfl rfl (enters_of Tryd.func38 (by kernel_rfl) rfl) (by simp [Act.eval])
            (by have := eqT_any x y wr.drew; rwa [hq] at this) ?_
          rintro e w1 ⟨rfl, b1⟩
          have c0_1 := c0_0.trans (b1.mono c0_0.size)
          refine ⟨_, rfl, c0_1, ?_⟩
          simp only [Act.put, Z1, Z2, Z3]
          refine Held.tk (v := .bool true) 10 (some 29) rfl (Held.y_not rfl rfl rfl) c0_1 ?_
          simp only [Act.put, Z1, Z2, Z3]
          refine wpAnyH_done (by kernel_rfl) ?_ _
          have dz := hst.trans (c0_1.mono hst.size)
          generalize w1 = wz at dz ⊢
          clear hx hy c0_1
          go_wp2_with fail
          go_ret
          exact ⟨Mem.ret_bool HF.out.symm, dz⟩
      · have HF := Lib.hid (show decide (rs = rs') = true by
          have e1 := ht.out
          rw [List.take_of_length_le (by have := HL.out; omega), List.take_of_length_le (by have := HL'.out; omega)] at e1
          simpa using e1)
        go_wp2_with fail
        go_ret
        exact ⟨Mem.ret_bool HF.out.symm, hst⟩
  · have hne : ((n : Int) != (n' : Int)) = true := by simp; omega
    have HF := Lib.hid (show decide (rs = rs') = false by
      rw [decide_eq_false_iff_not]; intro e; exact hnn (by rw [← h.1, ← h'.1, e]))
    clear h h' hnn
    go_enter Tryd.func37, Tryd.ntmps37
    go_wp2_with fail
    go_ret
    exact ⟨Mem.ret_bool HF.out.symm, Below.refl _ _⟩
theorem plainT_any (B B' : Nat) (A A' : Option Addr) (n n' c c' : Nat) (rs rs' : List Tk) (w : World) (h : Lst kT w B A n rs) (h' : Lst kT w B' A' n' rs') (hB : B ≤ w.heap.size) (hB' : B' ≤ w.heap.size) (hn : n ≤ 1073741824) (hn' : n' ≤ 1073741824) :
    Calls Tryd.prog 13 #[.slice A n c, .slice A' n' c'] w fun e w' => e = .returned (.bool (decide (rs = rs'))) ∧ Below w.heap.size w w' := by
  go_enter Tryd.func13, Tryd.ntmps13
  go_wp2_with fail
  refine (sameT_any B B' A A' n n' c c' rs rs' w h h' hB hB' hn hn').mono ?_
  rintro e w' ⟨rfl, hst⟩
  go_wp2_with fail
  go_ret
  exact ⟨rfl, hst⟩
section
variable {S : World → Prop} {ρ : Operand → Value} {o : Oper}
end
end Go.Proofs.YtipmfficjomcoaaDoor.Sh
namespace Go.Proofs.YtipmfficjomcoaaDoor.Vm
open Go.RowKit Go.ChangeShapes Go.WideShapes Mem Rc Sl
section
variable {H : Type} {enc : TypeId × Value → H} {w : World} {base : Nat} {held : Bool}
end
end Go.Proofs.YtipmfficjomcoaaDoor.Vm
namespace Go.Proofs.YtipmfficjomcoaaDoor.Sp
open Go.RowKit Go.ChangeShapes Go.WideShapes Mem Rc Sl Vm
section
variable {H : Type} {enc : TypeId × Value → H} {w : World} {base : Nat} {held : Bool}
theorem params_fields : ∃ f0 f1 f2 f3 : Field, Tryd.prog.underlying 23 = some (.struct #[f0, f1, f2, f3]) ∧ (f0.offset = 0 ∧ f0.type = 3) ∧ (f1.offset = 1 ∧ f1.type = 3) ∧ (f2.offset = 2 ∧ f2.type = 3) ∧ (f3.offset = 3 ∧ f3.type = 3) :=
  ⟨_, _, _, _, Tryd.underlying23, ⟨rfl, rfl⟩, ⟨rfl, rfl⟩, ⟨rfl, rfl⟩, ⟨rfl, rfl⟩⟩
set_option maxRecDepth 100000 in
theorem open_params {r : Reach} {b0 : Nat} {v : Value} {d : DataW H} {p : List MemPlace} (hval : Value.okWide Tryd.prog w r b0 23 v) (h : DataW.Trod enc Tryd.prog w base (fun _ => true) held 23 v d p) :
    ∃ pr pk pb pw : Int, v = .agg #[.int .i64 pr, .int .i64 pk, .int .i64 pb, .int .i64 pw] ∧ (Lit.int .i64 pr).wf = true ∧ (Lit.int .i64 pk).wf = true ∧ (Lit.int .i64 pb).wf = true ∧ (Lit.int .i64 pw).wf = true := by
  obtain ⟨f0, f1, f2, f3, hu, ⟨o0, t0⟩, ⟨o1, t1⟩, ⟨o2, t2⟩, ⟨o3, t3⟩⟩ := params_fields
  obtain ⟨cs, rfl, hsz⟩ := okWide_struct hu hval
  obtain ⟨fuel, hf⟩ := h
  simp only [Value.cells] at hf
  obtain ⟨xs, m, _, _, hl, hxl, hel⟩ := DataW.trod_struct hu hf
  have ci : Tryd.prog.cellsOf 3 = 1 := by kernel_rfl
  have cc : Tryd.prog.cellsOf 23 = 4 := by kernel_rfl
  rw [cc] at hl
  have hx4 : xs.length = 4 := hxl
  have e0 := hel 0 f0 rfl
  have e1 := hel 1 f1 rfl
  have e2 := hel 2 f2 rfl
  have e3 := hel 3 f3 rfl
  rw [o0, t0, ci] at e0
  rw [o1, t1, ci] at e1
  rw [o2, t2, ci] at e2
  rw [o3, t3, ci] at e3
  obtain ⟨z0, q0, w0⟩ := field_int (by omega) Tryd.underlying3 e0 (by simp [hx4])
  obtain ⟨z1, q1, w1⟩ := field_int (by omega) Tryd.underlying3 e1 (by simp [hx4])
  obtain ⟨z2, q2, w2⟩ := field_int (by omega) Tryd.underlying3 e2 (by simp [hx4])
  obtain ⟨z3, q3, w3⟩ := field_int (by omega) Tryd.underlying3 e3 (by simp [hx4])
  refine ⟨z0, z1, z2, z3, ?_, w0, w1, w2, w3⟩
  congr 1
  apply Array.ext'
  apply List.ext_getElem?
  intro i
  match i with
  | 0 => exact q0
  | 1 => exact q1
  | 2 => exact q2
  | 3 => exact q3
  | i + 4 => rw [List.getElem?_eq_none (by omega), List.getElem?_eq_none (by simp)]
end
end Go.Proofs.YtipmfficjomcoaaDoor.Sp
