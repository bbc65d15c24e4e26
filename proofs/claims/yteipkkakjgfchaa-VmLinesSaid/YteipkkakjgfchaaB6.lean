/-
  The first line of stage 11's laws, by its contract.
-/
import Derived.Test.YteipkkakjgfchaaB3
import Derived.Test.YteipkkakjgfchaaB5
set_option linter.unusedVariables false
namespace Go.Proofs.Yteipkkakjgfchaa.Vm
open Go.RowKit Go.Shelf Go.Proofs.Yteipkkakjgfchaa Mem Held Rc Rs Sl
attribute [local irreducible] wpList wpListIn Calls
theorem zero_prog : (Try.prog.info? 27).bind (·.zero) = some (.agg #[.int .i64 0, .slice none 0 0, .slice none 0 0, .slice none 0 0]) := by kernel_rfl
set_option maxRecDepth 100000 in
set_option maxHeartbeats 8000000 in
theorem awake11_any (w : World) : Calls Try.prog 8 #[] w fun e w' => e = .returned (.bool true) ∧ Below w.heap.size w w' := by
  have HC := Lib.hid (show checkE 1 [] [⟨2, 0, 0, 1, 0, 0⟩] [] = 0 by decide +kernel)
  have HF := Lib.hid (show foldV 1 [] [⟨2, 0, 0, 1, 0, 0⟩] [] 2 3 = 5 by decide +kernel)
  have HC0 := Lib.hid (show checkE 0 [] [] [] = 8 by decide +kernel)
  have HM := Lib.hid (show (mapR 1 [] [⟨2, 0, 0, 1, 0, 0⟩] [] 0 0 0).length = 1 by decide +kernel)
  go_enter Try.func8, Try.ntmps8
  go_wp2_with (first
    | (refine wpList_build_blk rfl 24 _ rfl #[.int .i64 2, .int .i64 0, .int .i64 0, .int .i64 1, .int .i64 0, .int .i64 0] (by kernel_rfl) ?_)
    | (refine wpList_build_lst (w := w) (k := kO) rfl 25 24 1 _ rfl Try.underlying25 _ 48 info_op rfl [⟨2, 0, 0, 1, 0, 0⟩] rfl (by kernel_rfl) (by omega) (by decide) ?_; intro w1 q1 g1 z1)
    | (refine wpList_build_blk rfl 27 _ rfl #[.int .i64 1, .slice none 0 0, .slice (some ⟨w.heap.size, 0, none⟩) 1 1, .slice none 0 0] (by kernel_rfl) ?_)
    | (refine wpList_alloc_blk (w := w1) rfl 27 rfl _ zero_prog ?_; intro w2 q2 g2 z2)
    | (refine wpList_store_blk (w := w2) rfl 27 _ _ rfl w1.heap.size 4 rfl 27 _ #[.int .i64 1, .slice none 0 0, .slice (some ⟨w.heap.size, 0, none⟩) 1 1, .slice none 0 0] rfl q2 info_prog rfl rfl (by kernel_rfl) ?_; intro w3 q3 g3 z3)
    | (refine wpList_load_blk (w := w3) rfl 27 _ rfl w1.heap.size 4 rfl 27 _ q3 _ Try.underlying27 rfl (by kernel_rfl) rfl ?_))
  have lw := q1.lt
  have l1 := q3.lt
  have b1 : Below w.heap.size w w1 := (Below.refl _ w).grown g1 (Nat.le_refl _) (by simp)
  have b3 : Below w.heap.size w w3 := (b1.grown g2 b1.size (by simp)).grown g3 (Nat.le_trans b1.size g2.size) (fun r e => by cases e; exact b1.size)
  have q13 : Blk w3 w.heap.size 24 (flat kO [⟨2, 0, 0, 1, 0, 0⟩]).toArray := (q1.grown g2 (by simp)).grown g3 (by intro e; injection e with e; omega)
  have L : Lst kO w3 w3.heap.size (some ⟨w.heap.size, 0, none⟩) 1 [⟨2, 0, 0, 1, 0, 0⟩] := lst_whole q13 rfl (fun x hx => by rw [List.mem_singleton.1 hx]; exact ⟨rfl, rfl, rfl, rfl, rfl, rfl⟩)
  clear q1 q2 q13 g1 g2 g3 z1 z2 z3 b1
  refine (check_any w3.heap.size 1 _ _ _ _ _ _ _ _ _ [] _ [] w3 (Lst.nil _ _ _ _) L (Lst.nil _ _ _ _) (Nat.le_refl _)).mono ?_
  rintro e w4 ⟨rfl, b4⟩
  rw [HC.out]
  have q4 := q3.after b4
  have L4 := (L.below b4).more b4.size
  have b4 := b3.trans (b4.mono b3.size)
  clear q3 L b3
  go_wp2_with (refine wpList_load_blk (w := w4) rfl 27 _ rfl w1.heap.size 4 rfl 27 _ q4 _ Try.underlying27 rfl (by kernel_rfl) rfl ?_)
  refine (fold_any w4.heap.size 1 _ _ _ _ _ _ _ _ _ [] _ [] 2 3 w4 rfl rfl (Lst.nil _ _ _ _) L4 (Lst.nil _ _ _ _) (Nat.le_refl _)).mono ?_
  rintro e w5 ⟨rfl, b5⟩
  rw [HF.out]
  have q5 := q4.after b5
  have L5 := (L4.below b5).more b5.size
  have b5 := b4.trans (b5.mono b4.size)
  clear q4 L4 b4
  go_wp2_with (refine wpList_run (w := w5) rfl (v := .agg #[.int .i64 0, .slice none 0 0, .slice none 0 0, .slice none 0 0]) (y_build (S := fun _ => True) rfl (by kernel_rfl) _ trivial) ?_)
  refine (check_any w5.heap.size 0 _ _ _ _ _ _ _ _ _ [] [] [] w5 (Lst.nil _ _ _ _) (Lst.nil _ _ _ _) (Lst.nil _ _ _ _) (Nat.le_refl _)).mono ?_
  rintro e w6 ⟨rfl, b6⟩
  rw [HC0.out]
  have q6 := q5.after b6
  have L6 := (L5.below b6).more b6.size
  have b6 := b5.trans (b6.mono b5.size)
  clear q5 L5 b5
  go_wp2_with (first
    | (refine wpList_load_blk (w := w6) rfl 27 _ rfl w1.heap.size 4 rfl 27 _ q6 _ Try.underlying27 rfl (by kernel_rfl) rfl ?_)
    | (refine wpList_run (w := w6) rfl (v := .agg #[.int .i64 0, .int .i64 0]) (y_build (S := fun _ => True) rfl (by kernel_rfl) _ trivial) ?_))
  refine (map_any w6.heap.size 1 _ _ _ _ _ _ _ _ _ [] _ [] 0 0 0 w6 rfl rfl rfl (Lst.nil _ _ _ _) L6 (Lst.nil _ _ _ _) (Nat.le_refl _)).mono ?_
  rintro e w7 ⟨A', n', c', rfl, o7, b7⟩
  obtain ⟨A9, c9, e9, _⟩ := o7.form
  rw [HM.out] at e9
  injection e9 with e1 e2 e3
  subst e2
  have b7 := b6.trans (b7.mono b6.size)
  clear b6 q6 L6 o7
  go_wp2_with fail
  go_ret
  exact ⟨rfl, b7⟩
end Go.Proofs.Yteipkkakjgfchaa.Vm
