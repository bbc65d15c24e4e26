/-
  The law VmLines of package dominolaw11 returns true for every number of additions, every constant and value: a line of additions of a constant is that constant, so often; operations that go into registers nobody reads play no part.
-/
import Derived.Test.YteipkkakjgfchaaRows
import Derived.WalkKit
import Derived.ProofKit
import Derived.OpenShut
import Derived.ShutString
import Derived.ChangeOld
import Derived.Below
import Derived.Test.YteipkkakjgfchaaB6
namespace Go.Proofs.Yteipkkakjgfchaa.vmLines
open Go.ChangeShapes Go.WideShapes Go.ChangeAt Go.RowKit
open Go.ChangeMaps (open_string shut_string)
open Go.Shelf Go.Proofs.Yteipkkakjgfchaa Mem Held Rc Rs Sl Vm
theorem own : ownKnob Try.prog.godebug = none := by kernel_rfl
attribute [local irreducible] wpList Calls
def linesP (c : Int) (idle : Bool) : Nat → List O
  | 0 => [⟨1, 2, 0, 0, 0, c⟩]
  | i + 1 => if idle = true then linesP c idle i ++ [⟨2, 0, 0, 2, 0, 0⟩] ++ [⟨4, 7, 0, 2, 0, 0⟩] else linesP c idle i ++ [⟨2, 0, 0, 2, 0, 0⟩]
def wantL (c v : Int) : Nat → Int
  | 0 => v
  | i + 1 => wrap64 (wantL c v i + c)
theorem wantL_wf {c v : Int} (hv : (Lit.int .i64 v).wf = true) : ∀ i, (Lit.int .i64 (wantL c v i)).wf = true
  | 0 => hv
  | i + 1 => wrap64_wf _
theorem eight {r : List Int} (h : r.length = 8) : ∃ a b c d e f g i, r = [a, b, c, d, e, f, g, i] := by
  match r, h with
  | [a, b, c, d, e, f, g, i], _ => exact ⟨a, b, c, d, e, f, g, i, rfl⟩
theorem lines_regs (c v : Int) (idle : Bool) : ∀ i, (runR (linesP c idle i) [v, c, 0, 0, 0, 0, 0, 0]).length = 8 ∧ reg (runR (linesP c idle i) [v, c, 0, 0, 0, 0, 0, 0]) 0 = wantL c v i ∧ reg (runR (linesP c idle i) [v, c, 0, 0, 0, 0, 0, 0]) 2 = c
  | 0 => ⟨rfl, rfl, rfl⟩
  | i + 1 => by
    obtain ⟨h8, h0, h2⟩ := lines_regs c v idle i
    generalize hr : runR (linesP c idle i) [v, c, 0, 0, 0, 0, 0, 0] = r at h8 h0 h2
    obtain ⟨x0, x1, x2, x3, x4, x5, x6, x7, rfl⟩ := eight h8
    have h0 : x0 = wantL c v i := h0
    have h2 : x2 = c := h2
    subst h2
    cases idle
    · have e : linesP x2 false (i + 1) = linesP x2 false i ++ [⟨2, 0, 0, 2, 0, 0⟩] := rfl
      rw [e, runR_append, hr]
      exact ⟨rfl, by rw [wantL, ← h0]; rfl, rfl⟩
    · have e : linesP x2 true (i + 1) = linesP x2 true i ++ [⟨2, 0, 0, 2, 0, 0⟩] ++ [⟨4, 7, 0, 2, 0, 0⟩] := rfl
      rw [e, runR_append, runR_append, hr]
      exact ⟨rfl, by rw [wantL, ← h0]; rfl, rfl⟩
theorem lines_length (c : Int) (idle : Bool) : ∀ i, (linesP c idle i).length ≤ 1 + 2 * i
  | 0 => by simp [linesP]
  | i + 1 => by
    have := lines_length c idle i
    unfold linesP
    split <;> simp <;> omega
theorem lines_may (c : Int) (idle : Bool) : ∀ i, (linesP c idle i).all (mayO · 0) = true
  | 0 => by simp [linesP]; rfl
  | i + 1 => by
    have := lines_may c idle i
    unfold linesP
    split <;> simp only [List.all_append, this, Bool.true_and] <;> rfl
theorem lines_wf {c : Int} (hc : (Lit.int .i64 c).wf = true) (idle : Bool) : ∀ i, ∀ o ∈ linesP c idle i, o.wf
  | 0, o, ho => by rw [List.mem_singleton.1 ho]; exact ⟨rfl, rfl, rfl, rfl, rfl, hc⟩
  | i + 1, o, ho => by
    unfold linesP at ho
    split at ho
    · rcases List.mem_append.1 ho with ho | ho
      · rcases List.mem_append.1 ho with ho | ho
        · exact lines_wf hc idle i o ho
        · rw [List.mem_singleton.1 ho]; exact ⟨rfl, rfl, rfl, rfl, rfl, rfl⟩
      · rw [List.mem_singleton.1 ho]; exact ⟨rfl, rfl, rfl, rfl, rfl, rfl⟩
    · rcases List.mem_append.1 ho with ho | ho
      · exact lines_wf hc idle i o ho
      · rw [List.mem_singleton.1 ho]; exact ⟨rfl, rfl, rfl, rfl, rfl, rfl⟩
theorem lines_check {c : Int} {idle : Bool} {i : Nat} (hi : i < 19) : checkB 1 [] (linesP c idle i) [] = true := by
  have h1 := lines_length c idle i
  have h2 := lines_may c idle i
  unfold checkB mayP
  rw [h2, decide_eq_true (show (linesP c idle i).length ≤ 40 by omega)]
  rfl
theorem lines_fold {c v : Int} {idle : Bool} {i : Nat} (hi : i < 19) : foldV 1 [] (linesP c idle i) [] v c = wantL c v i := by
  rw [foldV, if_pos (lines_check hi)]
  exact (lines_regs c v idle i).2.1
set_option maxRecDepth 100000 in
set_option maxHeartbeats 16000000 in
theorem start (x c v : Int) (idle : Bool) (w : World) (hc : (Lit.int .i64 c).wf = true) (hv : (Lit.int .i64 v).wf = true) :
    Calls Try.prog 6 #[.int .i64 x, .int .i64 c, .int .i64 v, .bool idle] w fun e w' => e = .returned (.bool true) ∧ Below w.heap.size w w' := by
  obtain ⟨N, hN, hN2⟩ : ∃ N : Nat, wrap64 ((IntKind.u64.wrap x).tmod 19) = (N : Int) ∧ N < 19 := by
    have hu0 : 0 ≤ IntKind.u64.wrap x := by rw [IntKind.wrap_u64]; omega
    have h1 : 0 ≤ IntKind.u64.wrap x % 19 := Int.emod_nonneg _ (by omega)
    have h2 : IntKind.u64.wrap x % 19 < 19 := Int.emod_lt_of_pos _ (by omega)
    rw [Int.tmod_eq_emod_of_nonneg hu0]
    exact ⟨(IntKind.u64.wrap x % 19).toNat, by unfold wrap64; omega, by omega⟩
  have HC := Lib.hid (show checkE 1 [] (linesP c idle N) [] = 0 by rw [checkE, if_pos (lines_check hN2)])
  have HF := Lib.hid (show foldV 1 [] (linesP c idle N) [] v c = wantL c v N from lines_fold hN2)
  have HW := Lib.hid (fun i => lines_wf hc idle i)
  have HLEN := Lib.hid (fun i => lines_length c idle i)
  go_enter Try.func6, Try.ntmps6
  go_wp2_with (first
    | (refine wpList_build_blk rfl 24 _ rfl #[.int .i64 1, .int .i64 2, .int .i64 0, .int .i64 0, .int .i64 0, .int .i64 c] (by kernel_rfl) ?_)
    | (refine wpList_build_lst (w := w) (k := kO) rfl 25 24 1 _ rfl Try.underlying25 _ 48 info_op rfl (linesP c idle 0) rfl (by kernel_rfl) (by omega) (by decide) ?_; intro w1 q1 g1 z1)
    | (refine wpList_build_blk rfl 27 _ rfl #[.int .i64 1, .slice none 0 0, .slice (some ⟨w.heap.size, 0, none⟩) 1 1, .slice none 0 0] (by kernel_rfl) ?_)
    | (refine wpList_alloc_blk (w := w1) rfl 27 rfl _ zero_prog ?_; intro w2 q2 g2 z2)
    | (refine wpList_store_blk (w := w2) rfl 27 _ _ rfl w1.heap.size 4 rfl 27 _ #[.int .i64 1, .slice none 0 0, .slice (some ⟨w.heap.size, 0, none⟩) 1 1, .slice none 0 0] rfl q2 info_prog rfl rfl (by kernel_rfl) ?_; intro w3 q3 g3 z3))
  have lw := q1.lt
  have b1 : Below w.heap.size w w1 := (Below.refl _ w).grown g1 (Nat.le_refl _) (by simp)
  have b3 : Below w.heap.size w w3 := (b1.grown g2 b1.size (by simp)).grown g3 (Nat.le_trans b1.size g2.size) (fun r e => by cases e; exact b1.size)
  have o3 : OwnL kO 24 w3 w.heap.size (.slice (some ⟨w.heap.size, 0, none⟩) 1 1) (linesP c idle 0) := ((own_of_blk (base := w.heap.size) q1 (Nat.le_refl _) (show 1 ≤ maxLen by simp [maxLen])).kept g2 (.inr (by simp [Value.ownBlock]))).kept g3 (.inr (by simp [Value.ownBlock]; omega))
  have hlp : w.heap.size ≤ w1.heap.size := b1.size
  clear q1 q2 g1 g2 g3 z1 z2 z3 b1 lw hN
  go_loopw [10, 11] (fun want i wr => ∃ (k L c1 : Nat) (A1 : Option Addr), k ≤ N ∧ want = .int .i64 (wantL c v k) ∧ i = .int .i64 k ∧ Hid ((linesP c idle k).length = L) ∧ Blk wr w1.heap.size 27 #[.int .i64 1, .slice none 0 0, .slice A1 L c1, .slice none 0 0] ∧ OwnL kO 24 wr w.heap.size (.slice A1 L c1) (linesP c idle k) ∧ Below w.heap.size w wr) (fun _ i _ => N - (intOf i).toNat)
  case atStart => exact ⟨0, 1, 1, _, by omega, rfl, rfl, Lib.hid rfl, q3, o3, b3⟩
  case round =>
    clear q3 o3 b3
    obtain ⟨k, L, c1, A1, hk, rfl, rfl, HL, q, o, b⟩ := hrel
    have hlpw := q.lt
    by_cases hlt : k < N
    · have hlt' : (k : Int) < (N : Int) := by omega
      have hk0 : (0 : Int) ≤ (k : Int) := by omega
      have hcell := q.cell (i := 2) rfl
      have hLL : L ≤ 37 := by have := HLEN.out k; have := HL.out; omega
      have hcv := hc
      have hne := o.ne_blk q (by decide)
      cases idle
      · have HS := Lib.hid (show linesP c false (k + 1) = linesP c false k ++ [⟨2, 0, 0, 2, 0, 0⟩] from rfl)
        have HWN := Lib.hid (show wantL c v (k + 1) = wrap64 (wantL c v k + c) from rfl)
        generalize wantL c v k = u at HWN ⊢
        go_wp2_with (first
    | (refine wpList_run (w := wr) rfl (v := .pointer (some ⟨w1.heap.size, 2, none⟩)) (Held.y_field (S := fun _ => True) (k := 2) (s := 0) rfl rfl Try.underlying27 rfl (by kernel_rfl) rfl _ trivial) ?_)
    | (refine wpList_build_blk (w := wr) rfl 24 _ rfl #[.int .i64 2, .int .i64 0, .int .i64 0, .int .i64 2, .int .i64 0, .int .i64 0] (by kernel_rfl) ?_)
    | (refine wpList_build_lst (w := wr) (k := kO) rfl 25 24 1 _ rfl Try.underlying25 _ 48 info_op rfl [⟨2, 0, 0, 2, 0, 0⟩] rfl (by kernel_rfl) (by omega) (by decide) ?_; intro x1_1 q1_1 g1_1 z1_1; have o1_1 := o.kept g1_1 (by cases (Value.slice A1 L c1).ownBlock <;> simp); have p1_1 := q.grown g1_1 (by simp); have b1_1 := b.grown g1_1 b.size (by simp); have i1_1 : Lst kO x1_1 x1_1.heap.size (some ⟨wr.heap.size, 0, none⟩) 1 [⟨2, 0, 0, 2, 0, 0⟩] := lst_whole q1_1 rfl (fun x hx => by rw [List.mem_singleton.1 hx]; exact ⟨rfl, rfl, rfl, rfl, rfl, rfl⟩))
    | (at_builtin; refine wpList_append_lst (w := x1_1) (k := kO) rfl _ _ 25 24 rfl Try.underlying25 _ 48 info_op rfl w.heap.size x1_1.heap.size wr.heap.size 0 1 1 (.slice A1 L c1) (linesP c false k) [⟨2, 0, 0, 2, 0, 0⟩] rfl rfl o1_1 i1_1 (by rw [HL.out]; omega) (by omega) b1_1.size ?_; intro vv_1 x2_1 o2_1 g2_1 t2_1; rw [← HS.out] at o2_1; obtain ⟨A_1, L_1, c_1, rfl, HL_1, hc_1⟩ := o2_1.form2; have p2_1 := p1_1.grown g2_1 (Ne.symm hne); have b2_1 := b1_1.grown g2_1 b1_1.size (fun r e => (o1_1.lt r e).1); have ne_1 := o2_1.ne_blk p2_1 (by decide))
    | (refine wpList_run (w := x2_1) rfl (v := .pointer (some ⟨w1.heap.size, 2, none⟩)) (Held.y_field (S := fun _ => True) (k := 2) (s := 0) rfl rfl Try.underlying27 rfl (by kernel_rfl) rfl _ trivial) ?_)
    | (refine wpList_store_field (w := x2_1) rfl 25 _ _ rfl w1.heap.size 2 rfl 27 _ (.slice A_1 L_1 c_1) rfl p2_1 (by simp) (by kernel_rfl) rfl rfl ?_; intro v_1 q3_1 g3_1 z3_1; have o_1 := o2_1.kept g3_1 (.inr ne_1); have b_1 := b2_1.grown g3_1 b2_1.size (fun r e => by cases e; exact hlp); have q_1 : Blk v_1 w1.heap.size 27 #[.int .i64 1, .slice none 0 0, .slice A_1 L_1 c_1, .slice none 0 0] := q3_1; have cell_1 := q_1.cell (i := 2) rfl; clear q1_1 p1_1 p2_1 g1_1 g2_1 g3_1 z1_1 z3_1 t2_1 o1_1 b1_1 b2_1 i1_1 o2_1))
        go_roundw
        case rel => exact ⟨k + 1, L_1, c_1, A_1, by omega, by rw [HWN.out], by go_num, HL_1, q_1, o_1, b_1⟩
        case measure => simp [intOf]; omega
      · have HS := Lib.hid (show linesP c true k ++ [⟨2, 0, 0, 2, 0, 0⟩] = linesP c true k ++ [⟨2, 0, 0, 2, 0, 0⟩] from rfl)
        have HS2 := Lib.hid (show linesP c true (k + 1) = linesP c true k ++ [⟨2, 0, 0, 2, 0, 0⟩] ++ [⟨4, 7, 0, 2, 0, 0⟩] from rfl)
        have HWN := Lib.hid (show wantL c v (k + 1) = wrap64 (wantL c v k + c) from rfl)
        generalize wantL c v k = u at HWN ⊢
        go_wp2_with (first
    | (refine wpList_run (w := wr) rfl (v := .pointer (some ⟨w1.heap.size, 2, none⟩)) (Held.y_field (S := fun _ => True) (k := 2) (s := 0) rfl rfl Try.underlying27 rfl (by kernel_rfl) rfl _ trivial) ?_)
    | (refine wpList_build_blk (w := wr) rfl 24 _ rfl #[.int .i64 2, .int .i64 0, .int .i64 0, .int .i64 2, .int .i64 0, .int .i64 0] (by kernel_rfl) ?_)
    | (refine wpList_build_lst (w := wr) (k := kO) rfl 25 24 1 _ rfl Try.underlying25 _ 48 info_op rfl [⟨2, 0, 0, 2, 0, 0⟩] rfl (by kernel_rfl) (by omega) (by decide) ?_; intro x1_1 q1_1 g1_1 z1_1; have o1_1 := o.kept g1_1 (by cases (Value.slice A1 L c1).ownBlock <;> simp); have p1_1 := q.grown g1_1 (by simp); have b1_1 := b.grown g1_1 b.size (by simp); have i1_1 : Lst kO x1_1 x1_1.heap.size (some ⟨wr.heap.size, 0, none⟩) 1 [⟨2, 0, 0, 2, 0, 0⟩] := lst_whole q1_1 rfl (fun x hx => by rw [List.mem_singleton.1 hx]; exact ⟨rfl, rfl, rfl, rfl, rfl, rfl⟩))
    | (at_builtin; refine wpList_append_lst (w := x1_1) (k := kO) rfl _ _ 25 24 rfl Try.underlying25 _ 48 info_op rfl w.heap.size x1_1.heap.size wr.heap.size 0 1 1 (.slice A1 L c1) (linesP c true k) [⟨2, 0, 0, 2, 0, 0⟩] rfl rfl o1_1 i1_1 (by rw [HL.out]; omega) (by omega) b1_1.size ?_; intro vv_1 x2_1 o2_1 g2_1 t2_1; rw [← HS.out] at o2_1; obtain ⟨A_1, L_1, c_1, rfl, HL_1, hc_1⟩ := o2_1.form2; have p2_1 := p1_1.grown g2_1 (Ne.symm hne); have b2_1 := b1_1.grown g2_1 b1_1.size (fun r e => (o1_1.lt r e).1); have ne_1 := o2_1.ne_blk p2_1 (by decide))
    | (refine wpList_run (w := x2_1) rfl (v := .pointer (some ⟨w1.heap.size, 2, none⟩)) (Held.y_field (S := fun _ => True) (k := 2) (s := 0) rfl rfl Try.underlying27 rfl (by kernel_rfl) rfl _ trivial) ?_)
    | (refine wpList_store_field (w := x2_1) rfl 25 _ _ rfl w1.heap.size 2 rfl 27 _ (.slice A_1 L_1 c_1) rfl p2_1 (by simp) (by kernel_rfl) rfl rfl ?_; intro v_1 q3_1 g3_1 z3_1; have o_1 := o2_1.kept g3_1 (.inr ne_1); have b_1 := b2_1.grown g3_1 b2_1.size (fun r e => by cases e; exact hlp); have q_1 : Blk v_1 w1.heap.size 27 #[.int .i64 1, .slice none 0 0, .slice A_1 L_1 c_1, .slice none 0 0] := q3_1; have cell_1 := q_1.cell (i := 2) rfl; clear q1_1 p1_1 p2_1 g1_1 g2_1 g3_1 z1_1 z3_1 t2_1 o1_1 b1_1 b2_1 i1_1 o2_1)
    | (refine wpList_run (w := v_1) rfl (v := .pointer (some ⟨w1.heap.size, 2, none⟩)) (Held.y_field (S := fun _ => True) (k := 2) (s := 0) rfl rfl Try.underlying27 rfl (by kernel_rfl) rfl _ trivial) ?_)
    | (refine wpList_build_blk (w := v_1) rfl 24 _ rfl #[.int .i64 4, .int .i64 7, .int .i64 0, .int .i64 2, .int .i64 0, .int .i64 0] (by kernel_rfl) ?_)
    | (refine wpList_build_lst (w := v_1) (k := kO) rfl 25 24 1 _ rfl Try.underlying25 _ 48 info_op rfl [⟨4, 7, 0, 2, 0, 0⟩] rfl (by kernel_rfl) (by omega) (by decide) ?_; intro x1_2 q1_2 g1_2 z1_2; have o1_2 := o_1.kept g1_2 (by cases (Value.slice A_1 L_1 c_1).ownBlock <;> simp); have p1_2 := q_1.grown g1_2 (by simp); have b1_2 := b_1.grown g1_2 b_1.size (by simp); have i1_2 : Lst kO x1_2 x1_2.heap.size (some ⟨v_1.heap.size, 0, none⟩) 1 [⟨4, 7, 0, 2, 0, 0⟩] := lst_whole q1_2 rfl (fun x hx => by rw [List.mem_singleton.1 hx]; exact ⟨rfl, rfl, rfl, rfl, rfl, rfl⟩))
    | (at_builtin; refine wpList_append_lst (w := x1_2) (k := kO) rfl _ _ 25 24 rfl Try.underlying25 _ 48 info_op rfl w.heap.size x1_2.heap.size v_1.heap.size 0 1 1 (.slice A_1 L_1 c_1) (linesP c true k ++ [⟨2, 0, 0, 2, 0, 0⟩]) [⟨4, 7, 0, 2, 0, 0⟩] rfl rfl o1_2 i1_2 (by simp only [List.length_append, HL.out, List.length_singleton]; omega) (by omega) b1_2.size ?_; intro vv_2 x2_2 o2_2 g2_2 t2_2; rw [← HS2.out] at o2_2; obtain ⟨A_2, L_2, c_2, rfl, HL_2, hc_2⟩ := o2_2.form2; have p2_2 := p1_2.grown g2_2 (Ne.symm ne_1); have b2_2 := b1_2.grown g2_2 b1_2.size (fun r e => (o1_2.lt r e).1); have ne_2 := o2_2.ne_blk p2_2 (by decide))
    | (refine wpList_run (w := x2_2) rfl (v := .pointer (some ⟨w1.heap.size, 2, none⟩)) (Held.y_field (S := fun _ => True) (k := 2) (s := 0) rfl rfl Try.underlying27 rfl (by kernel_rfl) rfl _ trivial) ?_)
    | (refine wpList_store_field (w := x2_2) rfl 25 _ _ rfl w1.heap.size 2 rfl 27 _ (.slice A_2 L_2 c_2) rfl p2_2 (by simp) (by kernel_rfl) rfl rfl ?_; intro v_2 q3_2 g3_2 z3_2; have o_2 := o2_2.kept g3_2 (.inr ne_2); have b_2 := b2_2.grown g3_2 b2_2.size (fun r e => by cases e; exact hlp); have q_2 : Blk v_2 w1.heap.size 27 #[.int .i64 1, .slice none 0 0, .slice A_2 L_2 c_2, .slice none 0 0] := q3_2; have cell_2 := q_2.cell (i := 2) rfl; clear q1_2 p1_2 p2_2 g1_2 g2_2 g3_2 z1_2 z3_2 t2_2 o1_2 b1_2 b2_2 i1_2 o2_2))
        go_roundw
        case rel => exact ⟨k + 1, L_2, c_2, A_2, by omega, by rw [HWN.out], by go_num, HL_2, q_2, o_2, b_2⟩
        case measure => simp [intOf]; omega
    · have hkn : k = N := by omega
      subst hkn
      have HLL := Lib.hid (HW.out k)
      have L5 := o.lst HLL.out
      clear o HLL HW HLEN
      go_wp2_with fail
      refine (awake11_any wr).mono ?_
      rintro e w4 ⟨rfl, b4⟩
      have q4 := q.after b4
      have L4 := (L5.below b4).more b4.size
      have b4 := b.trans (b4.mono b.size)
      clear q L5 b
      go_wp2_with (refine wpList_load_blk (w := w4) rfl 27 _ rfl w1.heap.size 4 rfl 27 _ q4 _ Try.underlying27 rfl (by kernel_rfl) rfl ?_)
      refine (check_any w4.heap.size 1 _ _ _ _ _ _ _ _ _ [] _ [] w4 (Lst.nil _ _ _ _) L4 (Lst.nil _ _ _ _) (Nat.le_refl _)).mono ?_
      rintro e w5 ⟨rfl, b5⟩
      rw [HC.out]
      have q5 := q4.after b5
      have L5 := (L4.below b5).more b5.size
      have b5 := b4.trans (b5.mono b4.size)
      clear q4 L4 b4
      go_wp2_with (refine wpList_load_blk (w := w5) rfl 27 _ rfl w1.heap.size 4 rfl 27 _ q5 _ Try.underlying27 rfl (by kernel_rfl) rfl ?_)
      refine (fold_any w5.heap.size 1 _ _ _ _ _ _ _ _ _ [] _ [] v c w5 hv hc (Lst.nil _ _ _ _) L5 (Lst.nil _ _ _ _) (Nat.le_refl _)).mono ?_
      rintro e w6 ⟨rfl, b6⟩
      rw [HF.out]
      have b6 := b5.trans (b6.mono b5.size)
      clear q5 L5 b5 HC HF
      go_wp2_with fail
      go_ret
      exact ⟨rfl, b6⟩
theorem walk (a0 : Int) (a1 : Int) (a2 : Int) (a3 : Bool) (w : World) (w0 : (Lit.int .i64 a0).wf = true) (w1 : (Lit.int .i64 a1).wf = true) (w2 : (Lit.int .i64 a2).wf = true) :
    Calls Try.prog 6 #[.int .i64 a0, .int .i64 a1, .int .i64 a2, .bool a3] w fun e w' => e = .returned (.bool true) ∧ Below w.heap.size w w' := by
  exact start a0 a1 a2 a3 w w1 w2
set_option maxRecDepth 100000 in
theorem lifted (os : Os) (started : os.Started) (H : Type) (enc : TypeId × Value → H) :
    ReturnsInHanded {} Try.checked os 6 .any (Rows.vmLinesSpec.pre6 enc Try.prog Try.f6 Rows.vmLinesRow.domain false) (Rows.vmLinesSpec.post enc Try.prog Try.f6 false true false false) := by
  refine returnsInHanded_of_change (C := Try.checked) own started (by kernel_rfl) Try.func6
    (ChangeSpec.witness6 (enc := enc) (C := Try.checked) false ⟨#[], #[.int .i64 0, .int .i64 0, .int .i64 0, .bool false], []⟩ 8 (by kernel_rfl) (by kernel_rfl) (by kernel_rfl) (by kernel_rfl)) ?_
  intro W base args ds gs before hval0 hW hcnd _
  have hval : ∀ (j : Nat) t v, Try.f6.params[j]? = some t → args[j]? = some v → Value.okWide Try.prog W .any base t v := hval0
  have hW' := hW
  obtain ⟨p, q, hA0, hV, rfl, hfz, hnd⟩ := hW
  have hA : DataW.TrodAll enc Try.prog W 0 (fun _ => true) true Try.f6.params.toList args.toList ds p := hA0
  rw [Try.params6] at hA hval
  obtain ⟨v0, vs0, d0, ds0, p0, q0, hargs, rfl, rfl, h0, r0⟩ := trodAll_cons hA
  obtain ⟨v1, vs1, d1, ds1, p1, q1, rfl, rfl, rfl, h1, r1⟩ := trodAll_cons r0
  obtain ⟨v2, vs2, d2, ds2, p2, q2, rfl, rfl, rfl, h2, r2⟩ := trodAll_cons r1
  obtain ⟨v3, vs3, d3, ds3, p3, q3, rfl, rfl, rfl, h3, r3⟩ := trodAll_cons r2
  obtain ⟨rfl, rfl, rfl⟩ := trodAll_nil r3
  obtain rfl : args = #[v0, v1, v2, v3] := by cases args; simp_all
  obtain ⟨rfl, rfl⟩ := trodVars_none hV
  obtain ⟨a0, rfl, rfl, rfl, w0⟩ := open_int Try.underlying3 (hval 0 3 v0 rfl rfl) h0
  obtain ⟨a1, rfl, rfl, rfl, w1⟩ := open_int Try.underlying2 (hval 1 2 v1 rfl rfl) h1
  obtain ⟨a2, rfl, rfl, rfl, w2⟩ := open_int Try.underlying2 (hval 2 2 v2 rfl rfl) h2
  obtain ⟨a3, rfl, rfl, rfl⟩ := open_bool Try.underlying4 (hval 3 4 v3 rfl rfl) h3
  clear hA0 hval0
  refine (walk a0 a1 a2 a3 W w0 w1 w2).mono fun e W' ⟨he, bel⟩ => ?_
  subst he
  exact ⟨_, rfl, _, _, _, [], _, [], hW', trodAll_mk1 (shut_bool Try.underlying4 _), (trodAll_cons_mk (shut_int Try.underlying3 w0) (trodAll_cons_mk (shut_int Try.underlying2 w1) (trodAll_cons_mk (shut_int Try.underlying2 w2) (trodAll_cons_mk (shut_bool Try.underlying4 _) trodAll_mk0)))), rfl, bel.frame _, fun h => by cases h⟩
theorem over : Rows.vmLinesRow.holds Try.pinned (OpenSpec.ofChange Rows.vmLinesSpec) :=
  OpenClaim.holds_of_wide 6 Try.f6 rfl rfl rfl rfl rfl rfl rfl ⟨rfl, rfl, rfl, rfl, rfl⟩ rfl rfl rfl rfl rfl (by kernel_rfl) Try.func6 (by kernel_rfl)
    (of_decide_eq_true (by kernel_rfl)) (by unfold Func.isWrapper; first | (rw [if_pos (by decide +kernel)]; kernel_rfl) | (rw [if_neg (by decide +kernel)]; exact ⟨rfl, rfl⟩))
    (fun os started H enc _ => lifted os started H enc)
theorem proved : Rows.VmLinesSaid :=
  over
#print axioms proved
end Go.Proofs.Yteipkkakjgfchaa.vmLines
