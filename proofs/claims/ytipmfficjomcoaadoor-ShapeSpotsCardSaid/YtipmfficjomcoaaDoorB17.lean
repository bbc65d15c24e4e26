/-
  dominolaw17's few (public numbers with not too many blocks) and awake, by their contracts.
  What the frame of a proof says of a spot that came in.
  What the frame of a proof says of a list of pairs, of public numbers that came in.
-/
import Derived.Test.YtipmfficjomcoaaDoorB11
import Derived.Test.YtipmfficjomcoaaDoorB9
import Derived.Test.YtipmfficjomcoaaDoorB14
import Derived.Test.YtipmfficjomcoaaDoorB5
set_option linter.unusedVariables false
namespace Go.Proofs.YtipmfficjomcoaaDoor.Sh
open Go.RowKit Go.Shelf Mem Held Go.Proofs.YtipmfficjomcoaaDoor.Range Sl
attribute [local go_sem] Oper.semAt_some
attribute [local irreducible] wpList wpListIn Calls
theorem right_less {r x k b wk : Int} (h : Sp.rightB r k b wk = true) (h1 : 1 ≤ x) (hx : x ≤ r) : Sp.rightB x k b wk = true := by
  obtain ⟨⟨a1, a2⟩, ⟨a3, a4⟩, ⟨a5, a6⟩, ⟨a7, a8⟩, _, a9, a10⟩ := right_says h
  have hm : (x + b - 1) / b ≤ (r + b - 1) / b := Int.ediv_le_ediv (by omega) (by omega)
  have := Int.mul_le_mul_of_nonneg_left hm (show 0 ≤ k by omega)
  rw [Sp.rightB_of]
  have e1 : Sp.inB x 64 = true := by simp [Sp.inB]; omega
  have e2 : Sp.inB k 4 = true := by simp [Sp.inB]; omega
  have e3 : Sp.inB b 8 = true := by simp [Sp.inB]; omega
  have e4 : Sp.inB wk 4 = true := by simp [Sp.inB]; omega
  rw [e1, e2, e3, e4, decide_eq_true (show k * ((x + b - 1) / b) < 32 by omega)]
  rfl
def cellN (w : World) (g : Nat) : Nat := match w.cell? ⟨g, 0, none⟩ with
  | some v => (intOf v).toNat
  | none => 0
theorem cellN_of {w : World} {g : Nat} {z : Int} (h : w.cell? ⟨g, 0, none⟩ = some (.int .i64 z)) : cellN w g = z.toNat := by
  unfold cellN
  rw [h]
  rfl
def Few (r k b wk x : Int) : Prop := (Sp.rightB r k b wk = false ∧ x = r) ∨ (Sp.rightB r k b wk = true ∧ Sp.rightB x k b wk = true ∧ k * ((x + b - 1) / b) ≤ 7)
set_option maxRecDepth 100000 in
set_option maxHeartbeats 8000000 in
theorem few_any (r k b wk : Int) (w : World) :
    Calls Tryd.prog 8 #[.agg #[.int .i64 r, .int .i64 k, .int .i64 b, .int .i64 wk]] w fun e w' => ∃ x, e = .returned (.agg #[.int .i64 x, .int .i64 k, .int .i64 b, .int .i64 wk]) ∧ Few r k b wk x ∧ Below w.heap.size w w' := by
  by_cases hR : Sp.rightB r k b wk = true
  case neg =>
    have HR := Lib.hid (show Sp.rightE r k b wk = 1 by rw [Sp.rightE, if_neg hR])
    have HF := Lib.hid (show Few r k b wk r from .inl ⟨by simpa using hR, rfl⟩)
    clear hR
    go_enter Tryd.func8, Tryd.ntmps8
    go_wp2_with (first
      | (refine wpList_box_blk (w := w) rfl 23 _ rfl _ rfl ?_; intro u1 qu1 gu1 zu1)
      | (refine wpList_alloc_blk (w := u1) rfl 23 rfl #[.int .i64 0, .int .i64 0, .int .i64 0, .int .i64 0] (by kernel_rfl) ?_; intro u2 qu2 gu2 zu2; have qp := qu1.grown gu2 (by simp); have bo2 : Below w.heap.size w u2 := ((Below.refl _ w).grown gu1 (Nat.le_refl _) (by simp)).grown gu2 gu1.size (by simp))
      | (refine wpList_load_blk (w := u2) rfl 23 _ rfl (w.heap.size) 4 rfl 23 _ qp _ Tryd.underlying23 rfl (by kernel_rfl) rfl ?_))
    refine (rright_any r k b wk u2).mono ?_
    rintro e w3 ⟨rfl, b3⟩
    rw [HR.out]
    have qp3 := qp.after b3
    have qr3 := qu2.after b3
    have bo3 := bo2.trans (b3.mono bo2.size)
    have hs3 := bo3.size
    have hu1 := gu1.size
    go_wp2_with (first
      | (refine wpList_load_blk (w := w3) rfl 23 _ rfl (w.heap.size) 4 rfl 23 _ qp3 _ Tryd.underlying23 rfl (by kernel_rfl) rfl ?_)
      | (refine wpList_store_blk (w := w3) rfl 23 _ _ rfl (u1.heap.size) 4 rfl 23 _ #[.int .i64 r, .int .i64 k, .int .i64 b, .int .i64 wk] rfl qr3 (by kernel_rfl) rfl rfl (by kernel_rfl) ?_; intro u9 qu9 gu9 zu9))
    exact bodyPost_ret (results_blk rfl _ _ u1.heap.size 4 _ _ rfl qu9 _ Tryd.underlying23 rfl (by kernel_rfl) rfl) rfl ⟨_, rfl, HF.out, bo3.grown gu9 hs3 (fun r e => by cases e; exact hu1)⟩
  case pos =>
    have HR := Lib.hid (show Sp.rightE r k b wk = 0 by rw [Sp.rightE, if_pos hR])
    have HRR := Lib.hid hR
    have hsay := right_says hR
    have hk := hsay.2.1
    have hb := hsay.2.2.1
    have hr := hsay.1
    have hb0 : b ≠ 0 := by omega
    clear hsay hR
    go_enter Tryd.func8, Tryd.ntmps8
    go_wp2_with (first
      | (refine wpList_box_blk (w := w) rfl 23 _ rfl _ rfl ?_; intro u1 qu1 gu1 zu1)
      | (refine wpList_alloc_blk (w := u1) rfl 23 rfl #[.int .i64 0, .int .i64 0, .int .i64 0, .int .i64 0] (by kernel_rfl) ?_; intro u2 qu2 gu2 zu2; have qp := qu1.grown gu2 (by simp); have bo2 : Below w.heap.size w u2 := ((Below.refl _ w).grown gu1 (Nat.le_refl _) (by simp)).grown gu2 gu1.size (by simp))
      | (refine wpList_load_blk (w := u2) rfl 23 _ rfl (w.heap.size) 4 rfl 23 _ qp _ Tryd.underlying23 rfl (by kernel_rfl) rfl ?_))
    refine (rright_any r k b wk u2).mono ?_
    rintro e w3 ⟨rfl, b3⟩
    rw [HR.out]
    have qp3 := qp.after b3
    have qr3 := qu2.after b3
    have bo3 := bo2.trans (b3.mono bo2.size)
    have hu1 : w.heap.size < u1.heap.size := qu1.lt
    clear qp qu2 bo2 b3 gu1 gu2 zu1 zu2 qu1 HR
    go_wp2_with fail
    go_loopw [] (fun wr => ∃ x, 1 ≤ x ∧ x ≤ r ∧ Blk wr w.heap.size 23 #[.int .i64 x, .int .i64 k, .int .i64 b, .int .i64 wk] ∧ Blk wr u1.heap.size 23 #[.int .i64 0, .int .i64 0, .int .i64 0, .int .i64 0] ∧ Below w.heap.size w wr) (fun wr => cellN wr w.heap.size)
    case atStart => exact ⟨r, hr.1, Int.le_refl _, qp3, qr3, bo3⟩
    case round =>
      clear qp3 qr3 bo3
      obtain ⟨x, hx1, hxr, qp, qr, bw⟩ := hrel
      have HRX := Lib.hid (right_less HRR.out hx1 hxr)
      have E1 := Lib.hid (show IntKind.i64.wrap (x + b) = x + b by rw [IntKind.wrap_i64]; omega)
      have E2 := Lib.hid (show IntKind.i64.wrap (x + b - 1) = x + b - 1 by rw [IntKind.wrap_i64]; omega)
      have hsx := right_says HRX.out
      have E3 := Lib.hid (show IntKind.i64.wrap ((x + b - 1).tdiv b) = (x + b - 1) / b by
        rw [show (x + b - 1).tdiv b = (x + b - 1) / b from Int.tdiv_eq_ediv_of_nonneg (by omega), IntKind.wrap_i64]; omega)
      have E4 := Lib.hid (show IntKind.i64.wrap (k * ((x + b - 1) / b)) = k * ((x + b - 1) / b) by rw [IntKind.wrap_i64]; omega)
      have hu9 : w.heap.size ≤ u1.heap.size := Nat.le_of_lt hu1
      by_cases h1 : 1 < x
      · have hd1 := Lib.hid (show decide (1 < x) = true from decide_eq_true h1)
        by_cases h7 : 7 < k * ((x + b - 1) / b)
        · have hd2 := Lib.hid (show decide (7 < k * ((x + b - 1) / b)) = true from decide_eq_true h7)
          have hsub : IntKind.i64.wrap (x - 1) = x - 1 := by rw [IntKind.wrap_i64]; omega
          have cx : wr.cell? ⟨w.heap.size, 0, none⟩ = some (.int .i64 x) := qp.cell (i := 0) rfl
          clear hsx h7
          go_wp2_with fail
          refine wp_region_held (S := fun W => Below wr.heap.size wr W) (by kernel_rfl) ?_
          change wpAnyH _ _ _ _ _ _ _ _ wr.drew
          have c0_0 := (Below.refl wr.heap.size wr).drew
          refine Held.tk (v := .pointer (some ⟨w.heap.size, 0, none⟩)) 0 (some 6) rfl (Held.y_field (k := 0) (s := 0) rfl rfl Tryd.underlying23 rfl (by kernel_rfl) rfl) c0_0 ?_
          simp only [Act.put, Z1, Z2, Z3]
          refine Held.tk (v := .int .i64 x) 1 (some 7) rfl (Held.y_load rfl rfl (by kernel_rfl) (fun W hW => (qp.after hW).cell rfl)) c0_0 ?_
          simp only [Act.put, Z1, Z2, Z3]
          refine Held.tk (v := .bool true) 2 (some 8) rfl (Held.y_gtr rfl rfl rfl (hd1.out)) c0_0 ?_
          simp only [Act.put, Z1, Z2, Z3]
          refine Held.tk (v := .bool true) 3 (some 9) rfl (Held.y_move rfl rfl) c0_0 ?_
          simp only [Act.put, Z1, Z2, Z3]
          refine Held.tk (v := .pointer (some ⟨w.heap.size, 1, none⟩)) 4 (some 10) rfl (Held.y_field (k := 1) (s := 0) rfl rfl Tryd.underlying23 rfl (by kernel_rfl) rfl) c0_0 ?_
          simp only [Act.put, Z1, Z2, Z3]
          refine Held.tk (v := .int .i64 k) 5 (some 11) rfl (Held.y_load rfl rfl (by kernel_rfl) (fun W hW => (qp.after hW).cell rfl)) c0_0 ?_
          simp only [Act.put, Z1, Z2, Z3]
          refine Held.tk (v := .pointer (some ⟨w.heap.size, 0, none⟩)) 6 (some 12) rfl (Held.y_field (k := 0) (s := 0) rfl rfl Tryd.underlying23 rfl (by kernel_rfl) rfl) c0_0 ?_
          simp only [Act.put, Z1, Z2, Z3]
          refine Held.tk (v := .int .i64 x) 7 (some 13) rfl (Held.y_load rfl rfl (by kernel_rfl) (fun W hW => (qp.after hW).cell rfl)) c0_0 ?_
          simp only [Act.put, Z1, Z2, Z3]
          refine Held.tk (v := .pointer (some ⟨w.heap.size, 2, none⟩)) 8 (some 14) rfl (Held.y_field (k := 2) (s := 0) rfl rfl Tryd.underlying23 rfl (by kernel_rfl) rfl) c0_0 ?_
          simp only [Act.put, Z1, Z2, Z3]
          refine Held.tk (v := .int .i64 b) 9 (some 15) rfl (Held.y_load rfl rfl (by kernel_rfl) (fun W hW => (qp.after hW).cell rfl)) c0_0 ?_
          simp only [Act.put, Z1, Z2, Z3]
          refine Held.tk (v := .int .i64 ((x + b))) 10 (some 16) rfl (Held.y_int rfl rfl rfl (Held.run_add 3 .i64 (E1.out))) c0_0 ?_
          simp only [Act.put, Z1, Z2, Z3]
          refine Held.tk (v := .int .i64 ((x + b - 1))) 11 (some 17) rfl (Held.y_int rfl rfl rfl (Held.run_sub 3 .i64 (E2.out))) c0_0 ?_
          simp only [Act.put, Z1, Z2, Z3]
          refine Held.tk (v := .pointer (some ⟨w.heap.size, 2, none⟩)) 12 (some 18) rfl (Held.y_field (k := 2) (s := 0) rfl rfl Tryd.underlying23 rfl (by kernel_rfl) rfl) c0_0 ?_
          simp only [Act.put, Z1, Z2, Z3]
          refine Held.tk (v := .int .i64 b) 13 (some 19) rfl (Held.y_load rfl rfl (by kernel_rfl) (fun W hW => (qp.after hW).cell rfl)) c0_0 ?_
          simp only [Act.put, Z1, Z2, Z3]
          refine Held.tk (v := .int .i64 ((x + b - 1) / b)) 14 (some 20) rfl (Bi.y_quo (x + b - 1) b rfl rfl rfl (Held.run_quo 3 .i64 hb0 E3.out)) c0_0 ?_
          simp only [Act.put, Z1, Z2, Z3]
          refine Held.tk (v := .int .i64 ((k * ((x + b - 1) / b)))) 15 (some 21) rfl (Held.y_int rfl rfl rfl (Held.run_mul 3 .i64 (E4.out))) c0_0 ?_
          simp only [Act.put, Z1, Z2, Z3]
          refine Held.tk (v := .bool true) 16 (some 22) rfl (Held.y_gtr rfl rfl rfl (hd2.out)) c0_0 ?_
          simp only [Act.put, Z1, Z2, Z3]
          refine Held.tk (v := .bool true) 17 (some 23) rfl (Held.y_pick rfl rfl rfl) c0_0 ?_
          simp only [Act.put, Z1, Z2, Z3]
          refine wpAnyH_done (by kernel_rfl) ?_ _
          have bz := bw.trans (c0_0.mono bw.size)
          have qp2 := qp.after c0_0
          have qr2 := qr.after c0_0
          have hsz := c0_0.size
          have cx2 := qp2.cell (i := 0) rfl
          go_wp2_with (first
            | (refine wpList_fld0 (w := wr.drew) rfl rfl rfl Tryd.underlying23 rfl (by kernel_rfl) ?_)
            | (refine Held.wpList_store_field (w := wr.drew) rfl 3 _ _ rfl w.heap.size 0 rfl 23 _ (.int .i64 (x - 1)) rfl qp2 (by simp) (by kernel_rfl) rfl rfl ?_; intro v2 q2 g2 z2))
          have q2 : Blk v2 w.heap.size 23 #[.int .i64 (x - 1), .int .i64 k, .int .i64 b, .int .i64 wk] := q2
          have cv : v2.cell? ⟨w.heap.size, 0, none⟩ = some (.int .i64 (x - 1)) := q2.cell (i := 0) rfl
          simp only [Act.put]
          go_roundw
          case rel => exact ⟨x - 1, by omega, by omega, q2, qr2.grown g2 (by intro e; injection e with e; omega), bz.grown g2 bz.size (fun r e => by cases e; exact Nat.le_refl _)⟩
          case measure => rw [cellN_of cx, cellN_of cv]; omega
        · have hd2 := Lib.hid (show decide (7 < k * ((x + b - 1) / b)) = false from decide_eq_false h7)
          have HF := Lib.hid (show Few r k b wk x from .inr ⟨HRR.out, HRX.out, by omega⟩)
          clear hsx h7
          go_wp2_with fail
          refine wp_region_held (S := fun W => Below wr.heap.size wr W) (by kernel_rfl) ?_
          change wpAnyH _ _ _ _ _ _ _ _ wr.drew
          have c0_0 := (Below.refl wr.heap.size wr).drew
          refine Held.tk (v := .pointer (some ⟨w.heap.size, 0, none⟩)) 0 (some 6) rfl (Held.y_field (k := 0) (s := 0) rfl rfl Tryd.underlying23 rfl (by kernel_rfl) rfl) c0_0 ?_
          simp only [Act.put, Z1, Z2, Z3]
          refine Held.tk (v := .int .i64 x) 1 (some 7) rfl (Held.y_load rfl rfl (by kernel_rfl) (fun W hW => (qp.after hW).cell rfl)) c0_0 ?_
          simp only [Act.put, Z1, Z2, Z3]
          refine Held.tk (v := .bool true) 2 (some 8) rfl (Held.y_gtr rfl rfl rfl (hd1.out)) c0_0 ?_
          simp only [Act.put, Z1, Z2, Z3]
          refine Held.tk (v := .bool true) 3 (some 9) rfl (Held.y_move rfl rfl) c0_0 ?_
          simp only [Act.put, Z1, Z2, Z3]
          refine Held.tk (v := .pointer (some ⟨w.heap.size, 1, none⟩)) 4 (some 10) rfl (Held.y_field (k := 1) (s := 0) rfl rfl Tryd.underlying23 rfl (by kernel_rfl) rfl) c0_0 ?_
          simp only [Act.put, Z1, Z2, Z3]
          refine Held.tk (v := .int .i64 k) 5 (some 11) rfl (Held.y_load rfl rfl (by kernel_rfl) (fun W hW => (qp.after hW).cell rfl)) c0_0 ?_
          simp only [Act.put, Z1, Z2, Z3]
          refine Held.tk (v := .pointer (some ⟨w.heap.size, 0, none⟩)) 6 (some 12) rfl (Held.y_field (k := 0) (s := 0) rfl rfl Tryd.underlying23 rfl (by kernel_rfl) rfl) c0_0 ?_
          simp only [Act.put, Z1, Z2, Z3]
          refine Held.tk (v := .int .i64 x) 7 (some 13) rfl (Held.y_load rfl rfl (by kernel_rfl) (fun W hW => (qp.after hW).cell rfl)) c0_0 ?_
          simp only [Act.put, Z1, Z2, Z3]
          refine Held.tk (v := .pointer (some ⟨w.heap.size, 2, none⟩)) 8 (some 14) rfl (Held.y_field (k := 2) (s := 0) rfl rfl Tryd.underlying23 rfl (by kernel_rfl) rfl) c0_0 ?_
          simp only [Act.put, Z1, Z2, Z3]
          refine Held.tk (v := .int .i64 b) 9 (some 15) rfl (Held.y_load rfl rfl (by kernel_rfl) (fun W hW => (qp.after hW).cell rfl)) c0_0 ?_
          simp only [Act.put, Z1, Z2, Z3]
          refine Held.tk (v := .int .i64 ((x + b))) 10 (some 16) rfl (Held.y_int rfl rfl rfl (Held.run_add 3 .i64 (E1.out))) c0_0 ?_
          simp only [Act.put, Z1, Z2, Z3]
          refine Held.tk (v := .int .i64 ((x + b - 1))) 11 (some 17) rfl (Held.y_int rfl rfl rfl (Held.run_sub 3 .i64 (E2.out))) c0_0 ?_
          simp only [Act.put, Z1, Z2, Z3]
          refine Held.tk (v := .pointer (some ⟨w.heap.size, 2, none⟩)) 12 (some 18) rfl (Held.y_field (k := 2) (s := 0) rfl rfl Tryd.underlying23 rfl (by kernel_rfl) rfl) c0_0 ?_
          simp only [Act.put, Z1, Z2, Z3]
          refine Held.tk (v := .int .i64 b) 13 (some 19) rfl (Held.y_load rfl rfl (by kernel_rfl) (fun W hW => (qp.after hW).cell rfl)) c0_0 ?_
          simp only [Act.put, Z1, Z2, Z3]
          refine Held.tk (v := .int .i64 ((x + b - 1) / b)) 14 (some 20) rfl (Bi.y_quo (x + b - 1) b rfl rfl rfl (Held.run_quo 3 .i64 hb0 E3.out)) c0_0 ?_
          simp only [Act.put, Z1, Z2, Z3]
          refine Held.tk (v := .int .i64 ((k * ((x + b - 1) / b)))) 15 (some 21) rfl (Held.y_int rfl rfl rfl (Held.run_mul 3 .i64 (E4.out))) c0_0 ?_
          simp only [Act.put, Z1, Z2, Z3]
          refine Held.tk (v := .bool false) 16 (some 22) rfl (Held.y_gtr rfl rfl rfl (hd2.out)) c0_0 ?_
          simp only [Act.put, Z1, Z2, Z3]
          refine Held.tk (v := .bool false) 17 (some 23) rfl (Held.y_pick rfl rfl rfl) c0_0 ?_
          simp only [Act.put, Z1, Z2, Z3]
          refine wpAnyH_done (by kernel_rfl) ?_ _
          have bz := bw.trans (c0_0.mono bw.size)
          have qp2 := qp.after c0_0
          have qr2 := qr.after c0_0
          have hsz := c0_0.size
          go_wp2_with (first
            | (refine wpList_load_blk (w := wr.drew) rfl 23 _ rfl (w.heap.size) 4 rfl 23 _ qp2 _ Tryd.underlying23 rfl (by kernel_rfl) rfl ?_)
            | (refine wpList_store_blk (w := wr.drew) rfl 23 _ _ rfl (u1.heap.size) 4 rfl 23 _ #[.int .i64 x, .int .i64 k, .int .i64 b, .int .i64 wk] rfl qr2 (by kernel_rfl) rfl rfl (by kernel_rfl) ?_; intro u9 qu9 gu9 zu9))
          exact bodyPost_ret (results_blk rfl _ _ u1.heap.size 4 _ _ rfl qu9 _ Tryd.underlying23 rfl (by kernel_rfl) rfl) rfl ⟨_, rfl, HF.out, bz.grown gu9 bz.size (fun r e => by cases e; exact hu9)⟩
      · have hd1 := Lib.hid (show decide (1 < x) = false from decide_eq_false h1)
        have hd2 := hd1
        obtain rfl : x = 1 := by omega
        have HF := Lib.hid (show Few r k b wk 1 from .inr ⟨HRR.out, HRX.out, by
          rw [show (1 : Int) + b - 1 = b by omega, Int.ediv_self hb0]
          omega⟩)
        clear hsx h1
        go_wp2_with fail
        refine wp_region_held (S := fun W => Below wr.heap.size wr W) (by kernel_rfl) ?_
        change wpAnyH _ _ _ _ _ _ _ _ wr.drew
        have c0_0 := (Below.refl wr.heap.size wr).drew
        refine Held.tk (v := .pointer (some ⟨w.heap.size, 0, none⟩)) 0 (some 6) rfl (Held.y_field (k := 0) (s := 0) rfl rfl Tryd.underlying23 rfl (by kernel_rfl) rfl) c0_0 ?_
        simp only [Act.put, Z1, Z2, Z3]
        refine Held.tk (v := .int .i64 1) 1 (some 7) rfl (Held.y_load rfl rfl (by kernel_rfl) (fun W hW => (qp.after hW).cell rfl)) c0_0 ?_
        simp only [Act.put, Z1, Z2, Z3]
        refine Held.tk (v := .bool false) 2 (some 8) rfl (Held.y_gtr rfl rfl rfl (hd1.out)) c0_0 ?_
        simp only [Act.put, Z1, Z2, Z3]
        refine Held.tk (v := .bool false) 3 (some 9) rfl (Held.y_move rfl rfl) c0_0 ?_
        simp only [Act.put, Z1, Z2, Z3]
        refine Held.skip 4 (some 10) rfl rfl (by kernel_rfl) (by kernel_rfl) (by kernel_rfl) (fun _ _ _ h => h) rfl c0_0 ?_
        simp only [Act.put, Z1, Z2, Z3]
        refine Held.skip 5 (some 11) rfl rfl (by kernel_rfl) (by kernel_rfl) (by kernel_rfl) (fun _ _ _ h => h) rfl c0_0 ?_
        simp only [Act.put, Z1, Z2, Z3]
        refine Held.skip 6 (some 12) rfl rfl (by kernel_rfl) (by kernel_rfl) (by kernel_rfl) (fun _ _ _ h => h) rfl c0_0 ?_
        simp only [Act.put, Z1, Z2, Z3]
        refine Held.skip 7 (some 13) rfl rfl (by kernel_rfl) (by kernel_rfl) (by kernel_rfl) (fun _ _ _ h => h) rfl c0_0 ?_
        simp only [Act.put, Z1, Z2, Z3]
        refine Held.skip 8 (some 14) rfl rfl (by kernel_rfl) (by kernel_rfl) (by kernel_rfl) (fun _ _ _ h => h) rfl c0_0 ?_
        simp only [Act.put, Z1, Z2, Z3]
        refine Held.skip 9 (some 15) rfl rfl (by kernel_rfl) (by kernel_rfl) (by kernel_rfl) (fun _ _ _ h => h) rfl c0_0 ?_
        simp only [Act.put, Z1, Z2, Z3]
        refine Held.skip 10 (some 16) rfl rfl (by kernel_rfl) (by kernel_rfl) (by kernel_rfl) (fun _ _ _ h => h) rfl c0_0 ?_
        simp only [Act.put, Z1, Z2, Z3]
        refine Held.skip 11 (some 17) rfl rfl (by kernel_rfl) (by kernel_rfl) (by kernel_rfl) (fun _ _ _ h => h) rfl c0_0 ?_
        simp only [Act.put, Z1, Z2, Z3]
        refine Held.skip 12 (some 18) rfl rfl (by kernel_rfl) (by kernel_rfl) (by kernel_rfl) (fun _ _ _ h => h) rfl c0_0 ?_
        simp only [Act.put, Z1, Z2, Z3]
        refine Held.skip 13 (some 19) rfl rfl (by kernel_rfl) (by kernel_rfl) (by kernel_rfl) (fun _ _ _ h => h) rfl c0_0 ?_
        simp only [Act.put, Z1, Z2, Z3]
        refine Held.skip 14 (some 20) rfl rfl (by kernel_rfl) (by kernel_rfl) (by kernel_rfl) (fun _ _ _ h => h) rfl c0_0 ?_
        simp only [Act.put, Z1, Z2, Z3]
        refine Held.skip 15 (some 21) rfl rfl (by kernel_rfl) (by kernel_rfl) (by kernel_rfl) (fun _ _ _ h => h) rfl c0_0 ?_
        simp only [Act.put, Z1, Z2, Z3]
        refine Held.skip 16 (some 22) rfl rfl (by kernel_rfl) (by kernel_rfl) (by kernel_rfl) (fun _ _ _ h => h) rfl c0_0 ?_
        simp only [Act.put, Z1, Z2, Z3]
        refine Held.tk (v := (.bool false)) 17 (some 23) rfl (Held.y_pickF rfl rfl rfl) c0_0 ?_
        simp only [Act.put, Z1, Z2, Z3]
        refine wpAnyH_done (by kernel_rfl) ?_ _
        have bz := bw.trans (c0_0.mono bw.size)
        have qp2 := qp.after c0_0
        have qr2 := qr.after c0_0
        have hsz := c0_0.size
        go_wp2_with (first
          | (refine wpList_load_blk (w := wr.drew) rfl 23 _ rfl (w.heap.size) 4 rfl 23 _ qp2 _ Tryd.underlying23 rfl (by kernel_rfl) rfl ?_)
          | (refine wpList_store_blk (w := wr.drew) rfl 23 _ _ rfl (u1.heap.size) 4 rfl 23 _ #[.int .i64 1, .int .i64 k, .int .i64 b, .int .i64 wk] rfl qr2 (by kernel_rfl) rfl rfl (by kernel_rfl) ?_; intro u9 qu9 gu9 zu9))
        exact bodyPost_ret (results_blk rfl _ _ u1.heap.size 4 _ _ rfl qu9 _ Tryd.underlying23 rfl (by kernel_rfl) rfl) rfl ⟨_, rfl, HF.out, bz.grown gu9 bz.size (fun r e => by cases e; exact hu9)⟩
set_option maxRecDepth 100000 in
set_option maxHeartbeats 4000000 in
theorem awake17_any (w : World) (hT : Bi.TzT w) : Calls Tryd.prog 12 #[] w fun e w' => e = .returned (.bool true) ∧ Below w.heap.size w w' := by
  have H := fun W hT => count_any 1 1 1 1 (by omega) (by omega) W hT
  have e : (tasksT (inN 1 1 1 1) (mpN 1 1 1 1) (mN 1 1 1 1) (tN 1 1 1 1)).length = 6 := by decide +kernel
  rw [e] at H
  go_enter Tryd.func12, Tryd.ntmps12
  go_wp2_with (first
    | (refine wpList_build_blk rfl 23 #[_, _, _, _] rfl #[.int .i64 1, .int .i64 1, .int .i64 1, .int .i64 1] (by kernel_rfl) ?_))
  refine (H w hT).mono ?_
  rintro e w1 ⟨rfl, b1⟩
  go_wp2_with fail
  go_ret
  exact ⟨rfl, b1⟩
end Go.Proofs.YtipmfficjomcoaaDoor.Sh
namespace Go.Proofs.YtipmfficjomcoaaDoor.Sh
open Go.RowKit Go.ChangeShapes Go.WideShapes Mem Rc Sl Vm
section
variable {H : Type} {enc : TypeId × Value → H} {w : World} {base : Nat} {held : Bool}
theorem spot_fields : ∃ f0 f1 f2 : Field, Tryd.prog.underlying 42 = some (.struct #[f0, f1, f2]) ∧ (f0.offset = 0 ∧ f0.type = 3) ∧ (f1.offset = 1 ∧ f1.type = 3) ∧ (f2.offset = 2 ∧ f2.type = 3) :=
  ⟨_, _, _, Tryd.underlying42, ⟨rfl, rfl⟩, ⟨rfl, rfl⟩, ⟨rfl, rfl⟩⟩
set_option maxRecDepth 100000 in
theorem open_spot {r : Reach} {b0 : Nat} {v : Value} {d : DataW H} {p : List MemPlace} (hval : Value.okWide Tryd.prog w r b0 42 v) (h : DataW.Trod enc Tryd.prog w base (fun _ => true) held 42 v d p) :
    ∃ ph rd ad : Int, v = .agg #[.int .i64 ph, .int .i64 rd, .int .i64 ad] ∧ (Lit.int .i64 ph).wf = true ∧ (Lit.int .i64 rd).wf = true ∧ (Lit.int .i64 ad).wf = true := by
  obtain ⟨f0, f1, f2, hu, ⟨o0, t0⟩, ⟨o1, t1⟩, ⟨o2, t2⟩⟩ := spot_fields
  obtain ⟨cs, rfl, hsz⟩ := okWide_struct hu hval
  obtain ⟨fuel, hf⟩ := h
  simp only [Value.cells] at hf
  obtain ⟨xs, m, _, _, hl, hxl, hel⟩ := DataW.trod_struct hu hf
  have ci : Tryd.prog.cellsOf 3 = 1 := by kernel_rfl
  have cc : Tryd.prog.cellsOf 42 = 3 := by kernel_rfl
  rw [cc] at hl
  have hx3 : xs.length = 3 := hxl
  have e0 := hel 0 f0 rfl
  have e1 := hel 1 f1 rfl
  have e2 := hel 2 f2 rfl
  rw [o0, t0, ci] at e0
  rw [o1, t1, ci] at e1
  rw [o2, t2, ci] at e2
  obtain ⟨z0, q0, w0⟩ := field_int (by omega) Tryd.underlying3 e0 (by simp [hx3])
  obtain ⟨z1, q1, w1⟩ := field_int (by omega) Tryd.underlying3 e1 (by simp [hx3])
  obtain ⟨z2, q2, w2⟩ := field_int (by omega) Tryd.underlying3 e2 (by simp [hx3])
  refine ⟨z0, z1, z2, ?_, w0, w1, w2⟩
  congr 1
  apply Array.ext'
  apply List.ext_getElem?
  intro i
  match i with
  | 0 => exact q0
  | 1 => exact q1
  | 2 => exact q2
  | i + 3 => rw [List.getElem?_eq_none (by omega), List.getElem?_eq_none (by simp)]
end
end Go.Proofs.YtipmfficjomcoaaDoor.Sh
namespace Go.Proofs.YtipmfficjomcoaaDoor.Sp
open Go.RowKit Go.ChangeShapes Go.WideShapes Mem Rc Sl Vm
section
variable {H : Type} {enc : TypeId × Value → H} {w : World} {base : Nat} {held : Bool}
theorem params_fields : ∃ f0 f1 f2 f3 : Field, Tryd.prog.underlying 23 = some (.struct #[f0, f1, f2, f3]) ∧ (f0.offset = 0 ∧ f0.type = 3) ∧ (f1.offset = 1 ∧ f1.type = 3) ∧ (f2.offset = 2 ∧ f2.type = 3) ∧ (f3.offset = 3 ∧ f3.type = 3) :=
  ⟨_, _, _, _, Tryd.underlying23, ⟨rfl, rfl⟩, ⟨rfl, rfl⟩, ⟨rfl, rfl⟩, ⟨rfl, rfl⟩⟩
set_option maxRecDepth 100000 in
theorem open_params {r : Reach} {b0 : Nat} {v : Value} {d : DataW H} {p : List MemPlace} (hval : Value.okWide Tryd.prog w r b0 23 v) (h : DataW.Trod enc Tryd.prog w base (fun _ => true) held 23 v d p) :
    ∃ pr pk pb pw : Int, v = .agg #[.int .i64 pr, .int .i64 pk, .int .i64 pb, .int .i64 pw] ∧ (Lit.int .i64 pr).wf = true ∧ (Lit.int .i64 pk).wf = true ∧ (Lit.int .i64 pb).wf = true ∧ (Lit.int .i64 pw).wf = true := by
  obtain ⟨f0, f1, f2, f3, hu, ⟨o0, t0⟩, ⟨o1, t1⟩, ⟨o2, t2⟩, ⟨o3, t3⟩⟩ := params_fields
  obtain ⟨cs, rfl, hsz⟩ := okWide_struct hu hval
  obtain ⟨fuel, hf⟩ := h
  simp only [Value.cells] at hf
  obtain ⟨xs, m, _, _, hl, hxl, hel⟩ := DataW.trod_struct hu hf
  have ci : Tryd.prog.cellsOf 3 = 1 := by kernel_rfl
  have cc : Tryd.prog.cellsOf 23 = 4 := by kernel_rfl
  rw [cc] at hl
  have hx4 : xs.length = 4 := hxl
  have e0 := hel 0 f0 rfl
  have e1 := hel 1 f1 rfl
  have e2 := hel 2 f2 rfl
  have e3 := hel 3 f3 rfl
  rw [o0, t0, ci] at e0
  rw [o1, t1, ci] at e1
  rw [o2, t2, ci] at e2
  rw [o3, t3, ci] at e3
  obtain ⟨z0, q0, w0⟩ := field_int (by omega) Tryd.underlying3 e0 (by simp [hx4])
  obtain ⟨z1, q1, w1⟩ := field_int (by omega) Tryd.underlying3 e1 (by simp [hx4])
  obtain ⟨z2, q2, w2⟩ := field_int (by omega) Tryd.underlying3 e2 (by simp [hx4])
  obtain ⟨z3, q3, w3⟩ := field_int (by omega) Tryd.underlying3 e3 (by simp [hx4])
  refine ⟨z0, z1, z2, z3, ?_, w0, w1, w2, w3⟩
  congr 1
  apply Array.ext'
  apply List.ext_getElem?
  intro i
  match i with
  | 0 => exact q0
  | 1 => exact q1
  | 2 => exact q2
  | 3 => exact q3
  | i + 4 => rw [List.getElem?_eq_none (by omega), List.getElem?_eq_none (by simp)]
end
end Go.Proofs.YtipmfficjomcoaaDoor.Sp
