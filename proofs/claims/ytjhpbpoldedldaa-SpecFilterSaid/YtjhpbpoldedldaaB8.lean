/-
  The laws' program that adds, by its contract; what a job of it is to tell.
  What stands at a key of a list of pairs; what the laws' program that adds makes of each pair; pairs held against each other; the laws' first line.
  A map of numbers that the call makes, read as a list of pairs: made, looked up, stored into, its length, in a walk and in a region that draws its order.
  What the frame of a proof says of a program, a pair, a list of truths that came in.
  What the frame of a proof says of a list of pairs, of public numbers that came in.
-/
import Derived.Test.YtjhpbpoldedldaaB7
import Derived.Laws.StructEq
import Derived.Maps.OwnSet
import Derived.Test.YtjhpbpoldedldaaB3
import Derived.Test.YtjhpbpoldedldaaB2
import Derived.WideShapes
import Derived.ChangeArms
import Derived.Test.YtjhpbpoldedldaaB5
set_option linter.unusedVariables false
namespace Go.Proofs.Ytjhpbpoldedldaa.Sp
open Go.RowKit Go.Shelf Go.Proofs.Ytjhpbpoldedldaa Mem Held Go.Proofs.Ytjhpbpoldedldaa.Range Rc Rs Sl Vm
attribute [local irreducible] wpList wpListIn Calls
def sumsM (i : Nat) : List O := ⟨1, 3, 0, 0, 0, 1⟩ :: (List.range i).map (fun (j : Nat) => (⟨12, 0, 0, 1, 3, (j : Int)⟩ : O))
def sumsF : List O := [⟨2, 0, 0, 1, 0, 0⟩]
theorem sumsM_snoc (i : Nat) : sumsM (i + 1) = sumsM i ++ [⟨12, 0, 0, 1, 3, (i : Int)⟩] := by simp [sumsM, List.range_succ]
theorem sumsM_length (i : Nat) : (sumsM i).length = i + 1 := by simp [sumsM]
theorem sumsM_wf {i : Nat} (hi : i ≤ 100) : ∀ x ∈ sumsM i, x.wf := fun x hx => by
  rcases List.mem_cons.1 hx with rfl | hx
  · exact ⟨rfl, rfl, rfl, rfl, rfl, rfl⟩
  · obtain ⟨j, hj, rfl⟩ := List.mem_map.1 hx
    have := List.mem_range.1 hj
    exact ⟨rfl, rfl, rfl, rfl, rfl, nat_wf (by omega)⟩
theorem sumsF_wf : ∀ x ∈ sumsF, x.wf := fun x hx => by rw [List.mem_singleton.1 hx]; exact ⟨rfl, rfl, rfl, rfl, rfl, rfl⟩
set_option maxRecDepth 100000 in
set_option maxHeartbeats 8000000 in
theorem sums_any (k : Nat) (hk4 : k ≤ 4) (w : World) : Calls Try.prog 10 #[.int .i64 (k : Int)] w fun e w' => ∃ (A1 : Option Addr) (n1 c1 : Nat) (A2 : Option Addr) (n2 c2 : Nat), e = .returned (.agg #[.int .i64 (k : Int), .slice A1 n1 c1, .slice A2 n2 c2, .slice none 0 0]) ∧ Lst kO w' w'.heap.size A1 n1 (sumsM k) ∧ Lst kO w' w'.heap.size A2 n2 sumsF ∧ Below w.heap.size w w' := by
  go_enter Try.func10, Try.ntmps10
  go_wp2_with (first
    | (refine wpList_alloc_blk (w := w) rfl 30 rfl _ zero_prog ?_; intro u1 q1 g1 z1)
    | (refine wpList_build_blk rfl 41 #[_, _, _] rfl #[.int .i64 1, .int .i64 3, .int .i64 0, .int .i64 0, .int .i64 0, .int .i64 1] (by kernel_rfl) ?_)
    | (refine wpList_build_lst (w := u1) (k := kO) rfl 28 41 1 _ rfl Try.underlying28 _ 48 info_op rfl (sumsM 0) rfl (by kernel_rfl) (by omega) (by decide) ?_; intro u2 q2 g2 z2)
    | (refine wpList_build_blk rfl 41 #[_, _] rfl #[.int .i64 2, .int .i64 0, .int .i64 0, .int .i64 1, .int .i64 0, .int .i64 0] (by kernel_rfl) ?_)
    | (refine wpList_build_lst (w := u2) (k := kO) rfl 28 41 1 _ rfl Try.underlying28 _ 48 info_op rfl sumsF rfl (by kernel_rfl) (by omega) (by decide) ?_; intro u3 q3 g3 z3)
    | (refine wpList_build_blk rfl 30 _ rfl #[.int .i64 (k : Int), .slice (some ⟨u1.heap.size, 0, none⟩) 1 1, .slice (some ⟨u2.heap.size, 0, none⟩) 1 1, .slice none 0 0] (by kernel_rfl) ?_)
    | (refine wpList_alloc_blk (w := u3) rfl 30 rfl _ zero_prog ?_; intro u4 q4 g4 z4)
    | (refine wpList_store_blk (w := u4) rfl 30 _ _ rfl u3.heap.size 4 rfl 30 _ #[.int .i64 (k : Int), .slice (some ⟨u1.heap.size, 0, none⟩) 1 1, .slice (some ⟨u2.heap.size, 0, none⟩) 1 1, .slice none 0 0] rfl q4 info_prog rfl rfl (by kernel_rfl) ?_; intro u5 q5 g5 z5))
  have l1 : w.heap.size < u1.heap.size := q1.lt
  have l2 : u1.heap.size < u2.heap.size := q2.lt
  have l3 : u2.heap.size < u3.heap.size := q3.lt
  have b5 : Below w.heap.size w u5 := (((((Below.refl _ w).grown g1 (Nat.le_refl _) (by simp)).grown g2 g1.size (by simp)).grown g3 (by omega) (by simp)).grown g4 (by omega) (by simp)).grown g5 (by have := g4.size; omega) (fun r e => by cases e; omega)
  have p5 := ((((q1.grown g2 (by simp)).grown g3 (by simp)).grown g4 (by simp)).grown g5 (by intro e; injection e with e; omega))
  have f5 : Blk u5 u2.heap.size 41 (Sl.flat kO sumsF).toArray := (q3.grown g4 (by simp)).grown g5 (by intro e; injection e with e; omega)
  have o5 : OwnL kO 41 u5 w.heap.size (.slice (some ⟨u1.heap.size, 0, none⟩) 1 1) (sumsM 0) := (((own_of_blk (base := w.heap.size) q2 (by omega) (show 1 ≤ maxLen by simp [maxLen])).kept g3 (.inr (by simp [Value.ownBlock]))).kept g4 (.inr (by simp [Value.ownBlock]))).kept g5 (.inr (by simp [Value.ownBlock]; omega))
  have n5 : (Value.slice (some ⟨u1.heap.size, 0, none⟩) 1 1).ownBlock ≠ some u2.heap.size ∧ (Value.slice (some ⟨u1.heap.size, 0, none⟩) 1 1).ownBlock ≠ some w.heap.size := by simp [Value.ownBlock]; omega
  clear q1 q2 q3 q4 g1 g2 g3 g4 g5 z1 z2 z3 z4 z5
  go_wp2_with fail
  go_loopw [4] (fun t wr => ∃ (i L c1 : Nat) (A1 : Option Addr), i ≤ k ∧ t = .int .i64 i ∧ Hid ((sumsM i).length = L) ∧ Blk wr u3.heap.size 30 #[.int .i64 (k : Int), .slice A1 L c1, .slice (some ⟨u2.heap.size, 0, none⟩) 1 1, .slice none 0 0] ∧ OwnL kO 41 wr w.heap.size (.slice A1 L c1) (sumsM i) ∧ Blk wr u2.heap.size 41 (Sl.flat kO sumsF).toArray ∧ Blk wr w.heap.size 30 #[.int .i64 0, .slice none 0 0, .slice none 0 0, .slice none 0 0] ∧ ((Value.slice A1 L c1).ownBlock ≠ some u2.heap.size ∧ (Value.slice A1 L c1).ownBlock ≠ some w.heap.size) ∧ Below w.heap.size w wr) (fun t _ => k - (intOf t).toNat)
  case atStart => exact ⟨0, 1, 1, _, by omega, rfl, Lib.hid rfl, q5, o5, f5, p5, n5, b5⟩
  case round =>
    clear q5 o5 f5 p5 n5 b5
    obtain ⟨i, L, c1, A1, hi, rfl, HL, q, o, f, p, ⟨nf, np⟩, b⟩ := hrel
    have hlq := q.lt
    by_cases hlt : i < k
    · have hlt' : (i : Int) < (k : Int) := by omega
      have hi0 : (0 : Int) ≤ (i : Int) := by omega
      have hiw := nat_wf (n := i) (by omega)
      have hcell := q.cell (i := 1) rfl
      have HLL := Lib.hid (show L = i + 1 by rw [← HL.out, sumsM_length])
      have hne := o.ne_blk q (by decide)
      have HS := Lib.hid (sumsM_snoc i)
      go_wp2_with (first
        | (refine wpList_run (w := wr) rfl (v := .pointer (some ⟨u3.heap.size, 1, none⟩)) (Held.y_field (S := fun _ => True) (k := 1) (s := 0) rfl rfl Try.underlying30 rfl (by kernel_rfl) rfl _ trivial) ?_)
        | (refine wpList_build_blk rfl 41 _ rfl #[.int .i64 12, .int .i64 0, .int .i64 0, .int .i64 1, .int .i64 3, .int .i64 (i : Int)] (by kernel_rfl) ?_)
        | (refine wpList_build_lst (w := wr) (k := kO) rfl 28 41 1 _ rfl Try.underlying28 _ 48 info_op rfl [⟨12, 0, 0, 1, 3, (i : Int)⟩] rfl (by kernel_rfl) (by omega) (by decide) ?_; intro v1 q1 g1 z1; have o1 := o.kept g1 (by cases (Value.slice A1 L c1).ownBlock <;> simp); have b1 := b.grown g1 b.size (by simp); have i1 : Lst kO v1 v1.heap.size (some ⟨wr.heap.size, 0, none⟩) 1 [⟨12, 0, 0, 1, 3, (i : Int)⟩] := lst_whole q1 rfl (fun x hx => by rw [List.mem_singleton.1 hx]; exact ⟨rfl, rfl, rfl, rfl, rfl, hiw⟩))
        | (at_builtin; refine wpList_append_lst (w := v1) (k := kO) rfl _ _ 28 41 rfl Try.underlying28 _ 48 info_op rfl w.heap.size v1.heap.size wr.heap.size 0 1 1 (.slice A1 L c1) (sumsM i) [⟨12, 0, 0, 1, 3, (i : Int)⟩] rfl rfl o1 i1 (by rw [HL.out, HLL.out]; omega) (by omega) b1.size ?_; intro vv v2 o2 g2 t2; rw [← HS.out] at o2; obtain ⟨A2, L2, c2, rfl, HL2, hc2⟩ := o2.form2; have p2 := (q.grown g1 (by simp)).grown g2 (Ne.symm hne); have b2 := b1.grown g2 b1.size (fun r e => (o1.lt r e).1); have ne2 := o2.ne_blk p2 (by decide))
        | (refine wpList_run (w := v2) rfl (v := .pointer (some ⟨u3.heap.size, 1, none⟩)) (Held.y_field (S := fun _ => True) (k := 1) (s := 0) rfl rfl Try.underlying30 rfl (by kernel_rfl) rfl _ trivial) ?_)
        | (refine wpList_store_field (w := v2) rfl 28 _ _ rfl u3.heap.size 1 rfl 30 _ (.slice A2 L2 c2) rfl p2 (by simp) (by kernel_rfl) rfl rfl ?_; intro v3 q3 g3 z3))
      have hs1 := g1.size
      have hbs := b.size
      have n2 : (Value.slice A2 L2 c2).ownBlock ≠ some u2.heap.size ∧ (Value.slice A2 L2 c2).ownBlock ≠ some w.heap.size := by
        rcases t2 with t2 | t2
        · rw [t2]; exact ⟨nf, np⟩
        · rw [t2]; constructor <;> (intro e; injection e with e; have := f.lt; have := p.lt; omega)
      have q4 : Blk v3 u3.heap.size 30 #[.int .i64 (k : Int), .slice A2 L2 c2, .slice (some ⟨u2.heap.size, 0, none⟩) 1 1, .slice none 0 0] := q3
      have f4 := ((f.grown g1 (by simp)).grown g2 (Ne.symm nf)).grown g3 (by intro e; injection e with e; omega)
      have p4 := ((p.grown g1 (by simp)).grown g2 (Ne.symm np)).grown g3 (by intro e; injection e with e; omega)
      have o4 := o2.kept g3 (.inr ne2)
      have b4 := b2.grown g3 b2.size (fun r e => by cases e; omega)
      go_roundw
      case rel => exact ⟨i + 1, L2, c2, A2, by omega, by go_num, HL2, q4, o4, f4, p4, n2, b4⟩
      case measure => simp [intOf]; omega
    · have hik : i = k := by omega
      subst hik
      go_wp2_with (first
        | (refine wpList_load_blk (w := wr) rfl 30 _ rfl u3.heap.size 4 rfl 30 _ q _ Try.underlying30 rfl info_prog rfl ?_)
        | (refine wpList_store_blk (w := wr) rfl 30 _ _ rfl w.heap.size 4 rfl 30 _ #[.int .i64 (i : Int), .slice A1 L c1, .slice (some ⟨u2.heap.size, 0, none⟩) 1 1, .slice none 0 0] rfl p info_prog rfl rfl (by kernel_rfl) ?_; intro v1 q1 g1 z1))
      have o1 := o.kept g1 (.inr np)
      have f1 := f.grown g1 (by intro e; injection e with e; omega)
      refine bodyPost_ret (results_blk rfl _ _ w.heap.size 4 _ _ rfl q1 _ Try.underlying30 rfl info_prog rfl) rfl ⟨_, _, _, _, _, _, rfl, o1.lst (sumsM_wf (by omega)), lst_whole f1 rfl sumsF_wf, b.grown g1 b.size (fun r e => by cases e; exact Nat.le_refl _)⟩
end Go.Proofs.Ytjhpbpoldedldaa.Sp
namespace Go.Proofs.Ytjhpbpoldedldaa.Sp
open Go.RowKit Go.Shelf Go.Proofs.Ytjhpbpoldedldaa Mem Held Go.Proofs.Ytjhpbpoldedldaa.Range Rc Rs Sl Vm
attribute [local irreducible] wpList wpListIn Calls
def look : List (Int × Int) → Int → Int
  | [], _ => 0
  | p :: l, x => if p.1 = x then p.2 else look l x
theorem look_none : ∀ {l : List (Int × Int)} {x : Int}, ¬ x ∈ l.map (·.1) → look l x = 0
  | [], _, _ => rfl
  | p :: l, x, h => by
    rw [List.map_cons, List.mem_cons] at h
    rw [look, if_neg (fun e => h (.inl e.symm)), look_none (fun e => h (.inr e))]
theorem look_ins (F : Int → Int → Int) (k v x : Int) : ∀ (l : List (Int × Int)), look (ins F k v l) x = if x = k then (if k ∈ l.map (·.1) then F (look l k) v else v) else look l x
  | [] => by
    by_cases h : x = k
    · simp [ins, look, h]
    · simp [ins, look, h]
      exact fun e => absurd e.symm h
  | p :: l => by
    rw [ins]
    by_cases hp : p.1 = k
    · rw [if_pos hp]
      by_cases hx : x = k
      · subst hx
        simp [look, hp]
      · have hpx : ¬ p.1 = x := fun e => hx (e.symm.trans hp)
        rw [look, if_neg hpx, if_neg hx, look, if_neg hpx]
    · rw [if_neg hp, look, look_ins F k v x l]
      have hkp : ¬ k = p.1 := fun e => hp e.symm
      by_cases hx : x = k
      · subst hx
        rw [if_neg hp, if_pos rfl, if_pos rfl, look, if_neg hp, List.map_cons]
        by_cases hm : x ∈ l.map (·.1)
        · rw [if_pos hm, if_pos (List.mem_cons_of_mem _ hm)]
        · rw [if_neg hm, if_neg (by rw [List.mem_cons]; exact fun e => e.elim hkp hm)]
      · rw [if_neg hx, if_neg hx, look]
theorem look_at : ∀ {l : List (Int × Int)}, (l.map (·.1)).Nodup → ∀ {x : Int × Int}, x ∈ l → look l x.1 = x.2
  | [], _, _, h => absurd h (by simp)
  | p :: l, hd, x, h => by
    rw [List.map_cons, List.nodup_cons] at hd
    rcases List.mem_cons.1 h with rfl | h
    · simp [look]
    · rw [look, if_neg (fun e => hd.1 (by rw [e]; exact List.mem_map.2 ⟨x, h, rfl⟩)), look_at hd.2 h]
def put (k v : Int) (l : List (Int × Int)) : List (Int × Int) := ins (fun _ b => b) k v l
theorem ins_put (F : Int → Int → Int) (k v : Int) : ∀ (l : List (Int × Int)), ins F k v l = put k (if k ∈ l.map (·.1) then F (look l k) v else v) l
  | [] => by simp [ins, put]
  | p :: l => by
    unfold put
    rw [ins, ins]
    by_cases hp : p.1 = k
    · simp [hp, look]
    · have hkp : ¬ k = p.1 := fun e => hp e.symm
      rw [if_neg hp, if_neg hp, ins_put F k v l, look, if_neg hp]
      unfold put
      congr 2
      rw [List.map_cons]
      by_cases hm : k ∈ l.map (·.1)
      · rw [if_pos hm, if_pos (List.mem_cons_of_mem _ hm)]
      · rw [if_neg hm, if_neg (by rw [List.mem_cons]; exact fun e => e.elim hkp hm)]
theorem put_keys (k v : Int) (l : List (Int × Int)) : (put k v l).map (·.1) = if k ∈ l.map (·.1) then l.map (·.1) else l.map (·.1) ++ [k] := ins_keys _ k v l
theorem mem_put {k v x : Int} {l : List (Int × Int)} : x ∈ (put k v l).map (·.1) ↔ x = k ∨ x ∈ l.map (·.1) := by
  rw [put_keys]
  split
  · rename_i h
    exact ⟨.inr, fun e => e.elim (fun e => by rw [e]; exact h) id⟩
  · rw [List.mem_append, List.mem_singleton]
    exact ⟨fun e => e.symm, fun e => e.symm⟩
theorem look_put (k v x : Int) (l : List (Int × Int)) : look (put k v l) x = if x = k then v else look l x := by
  rw [put, look_ins]
  split
  · split <;> rfl
  · rfl
theorem put_nodup {k v : Int} {l : List (Int × Int)} (h : (l.map (·.1)).Nodup) : ((put k v l).map (·.1)).Nodup := ins_nodup _ k v l h
theorem foldP_app (F : Int → Int → Int) (a b : List R) : foldP F (a ++ b) = b.foldl (fun l r => ins F r.k r.v l) (foldP F a) := by simp [foldP]
theorem look_sorted {l : List (Int × Int)} (h : (l.map (·.1)).Nodup) {i : Nat} (hi : i < l.length) : ((sortP l).getD i (0, 0)).1 ∈ l.map (·.1) ∧ look l ((sortP l).getD i (0, 0)).1 = ((sortP l).getD i (0, 0)).2 := by
  have hl := sortP_length l
  have hm : (sortP l).getD i (0, 0) ∈ l := by
    rw [List.getD_eq_getElem?_getD, List.getElem?_eq_getElem (by omega)]
    exact sortP_mem.1 (List.getElem_mem _)
  exact ⟨List.mem_map.2 ⟨_, hm, rfl⟩, look_at h hm⟩
theorem sortP_one (x : Int × Int) : sortP [x] = [x] := List.perm_singleton.1 (sortP_says [x]).1
theorem awake_run : runP 1 (sumsM 1) sumsF [] [(5, 1), (5, 2)] = [(5, 3)] := by
  have e : foldP (foldV 1 (sumsM 1) sumsF []) (live 1 (sumsM 1) sumsF [] [(5, 1), (5, 2)]) = [(5, 3)] := by decide +kernel
  rw [runP, e, sortP_one]
  decide +kernel
theorem key_pair (w : World) (a b c d : Int) : (Op.equalIn 10000 36 (.agg #[.int .i64 a, .int .i64 b]) (.agg #[.int .i64 c, .int .i64 d])).run Try.prog w = .ok (decide (a = c ∧ b = d)) w := by
  have hu : Try.prog.underlying 36 = some (.struct (Try.prog.fieldsOf 36)) := by kernel_rfl
  have hp : Try.prog.stoodInHeld 36 = false := by kernel_rfl
  have ei : ∀ (d : Nat) (k : IntKind) (x y : Int), (Op.equalIn (d + 1) 2 (.int k x) (.int k y)).run Try.prog w = .ok (x == y) w := fun d k x y => run_equalIn_int w d 2 k .i64 x y Try.underlying2
  rw [show (10000 : Nat) = 9998 + 1 + 1 from rfl, run_equalIn_agg w (9998 + 1) _ _ _ hu hp]
  simp only [Program.fieldsOf, Try.underlying36, Op.eqFields, Go.part, isAgg, Sem.run_bind, run_underlying Try.underlying2, Result.andThen_ok, Sem.run_pure, Sem.run_ite]
  simp [ei]
  by_cases h0 : a = c <;> by_cases h1 : b = d <;> simp [h0, h1]
section
variable {S : World → Prop} {ρ : Operand → Value} {o : Oper}
theorem y_eqp {ty : TypeId} {x y : Operand} {a b c d : Int} {r : Bool} (ho : o.op = .binOp .eql 36 x y ty) (hx : ρ x = .agg #[.int .i64 a, .int .i64 b]) (hy : ρ y = .agg #[.int .i64 c, .int .i64 d])
    (hr : decide (a = c ∧ b = d) = r) : ∀ w, S w → (execOp ρ o).run Try.prog w = .ok (.value (.bool r)) w :=
  Held.y_bin ho hx hy (fun w => by simp [eqGuard, show Try.prog.eqGuardType Try.prog.depth 36 = false by kernel_rfl]) (fun w => by rw [← hr, run_eql_struct, key_pair]; rfl)
end
set_option maxRecDepth 100000 in
set_option maxHeartbeats 8000000 in
theorem awake12_any (w : World) : Calls Try.prog 8 #[] w fun e w' => e = .returned (.bool true) ∧ Below w.heap.size w w' := by
  have HA := Lib.hid awake_run
  have HC := Lib.hid (show checkB 1 (sumsM 1) sumsF [] = true by decide +kernel)
  have HR := Lib.hid (show rightB 2 1 1 1 = true by decide +kernel)
  go_enter Try.func8, Try.ntmps8
  go_wp2_with fail
  refine (sums_any 1 (by omega) w).mono ?_
  rintro e w1 ⟨A1, n1, c1, A2, n2, c2, rfl, L1, L2, b1⟩
  go_wp2_with (first
    | (refine wpList_run (w := w1) rfl (v := .agg #[.int .i64 2, .int .i64 1, .int .i64 1, .int .i64 1]) (y_build (S := fun _ => True) (parts := #[_, _, _, _]) rfl (by kernel_rfl) _ trivial) ?_)
    | (refine wpList_build_lst (w := w1) (k := kP) rfl 22 36 2 _ rfl Try.underlying22 _ 16 info_pair rfl [(5, 1), (5, 2)] rfl (by kernel_rfl) (by omega) (by decide) ?_; intro w2 q2 g2 z2))
  have b2 : Below w1.heap.size w1 w2 := (Below.refl _ w1).grown g2 (Nat.le_refl _) (by simp)
  have LP : Lst kP w2 w2.heap.size (some ⟨w1.heap.size, 0, none⟩) 2 [(5, 1), (5, 2)] := lst_whole q2 rfl (fun x hx => by
    simp only [List.mem_cons, List.not_mem_nil, or_false] at hx
    rcases hx with rfl | rfl <;> exact ⟨rfl, rfl⟩)
  refine (run_ok w2.heap.size 1 1 1 A1 A2 none (some ⟨w1.heap.size, 0, none⟩) n1 c1 n2 c2 0 0 2 2 (sumsM 1) sumsF [] [(5, 1), (5, 2)] w2 ((L1.below b2).more b2.size) ((L2.below b2).more b2.size) (Lst.nil _ _ _ _) LP (Nat.le_refl _) HC.out HR.out).mono ?_
  rintro e w3 ⟨A', n', c', rfl, o3, b3⟩
  have HA2 : runP ((1 : Nat) : Int) (sumsM 1) sumsF [] [(5, 1), (5, 2)] = [(5, 3)] := HA.out
  rw [HA2] at o3
  obtain ⟨A9, c9, e9, _⟩ := o3.form
  injection e9 with e1 e2 e3
  subst e1
  subst e2
  subst e3
  obtain ⟨g, rfl, hgb, hgl, cur, hg⟩ := OwnL.at0 o3 (by decide)
  have LR := o3.lst (fun x hx => by rw [List.mem_singleton.1 hx]; exact ⟨rfl, rfl⟩)
  obtain ⟨b, off, e1, _, hx⟩ := LR.at_ (i := 0) (by decide)
  injection e1 with e1
  injection e1 with e1 e2 e3
  subst e1
  subst e2
  have hx : w3.rangeAt g (0 + 0 * 2) [.int .i64 5, .int .i64 3] := hx
  have bz := (b1.trans (b2.mono b1.size)).trans (b3.mono (Nat.le_trans b1.size b2.size))
  clear LP L1 L2 b1 b2 b3 q2 g2 z2 o3 LR HA2 HA HC HR
  go_wp2_with (first
    | (refine wpList_run (w := w3) rfl (v := .pointer (some ⟨g, 0 + 0 * 2, none⟩)) (Held.y_addr (S := fun _ => True) rfl rfl rfl (run_addr_of (P := Try.prog) 22 36 g 0 1 c' 0 2 .i64 Try.underlying22 size_pair (by decide)) _ trivial) ?_)
    | (refine wpList_run (w := w3) rfl (v := .agg #[.int .i64 5, .int .i64 3]) (y_load_range (S := fun W => W = w3) (n := 2) (cs := [.int .i64 5, .int .i64 3]) rfl rfl Try.underlying36 rfl size_pair rfl (fun W hW => by rw [hW]; exact hx) _ rfl) ?_)
    | (refine wpList_run (w := w3) rfl (v := .bool true) (y_eqp (S := fun _ => True) (a := 5) (b := 3) (c := 5) (d := 3) rfl rfl rfl (by decide) _ trivial) ?_))
  go_ret
  exact ⟨rfl, bz⟩
end Go.Proofs.Ytjhpbpoldedldaa.Sp
namespace Go.Proofs.Ytjhpbpoldedldaa.Sp
open Go.RowKit Go.Shelf Go.Proofs.Ytjhpbpoldedldaa Mem Held
open Go.Maps (Keyed int_keyed keyOf_int_mk)
def Mp (P : Program) (K : TypeId) (w : World) (b n : Nat) (M : List (Int × Int)) : Prop :=
  ∃ D : DataW Unit, w.ownsMap P K (plainElem P K) b n D ∧ (M.map (·.1)).Nodup ∧ (∀ x, Maps.has D (.int .i64 x) = decide (x ∈ M.map (·.1))) ∧ (∀ x, D.atKey (.int .i64 x) (.lit (.int .i64 0)) = .lit (.int .i64 (look M x))) ∧ Maps.size D = M.length
section
variable {P : Program} {K T : TypeId} {w w' : World} {b n : Nat} {M : List (Int × Int)}
theorem Mp.made (w : World) (P : Program) (K : TypeId) : Mp P K (w.alloc (.map #[] 0)) w.heap.size 0 [] :=
  ⟨.map [], World.ownsMap_made _ _ _ _, by simp, fun x => by simp [Maps.has], fun x => by rfl, rfl⟩
theorem Mp.lt (h : Mp P K w b n M) : b < w.heap.size := by
  obtain ⟨D, h, _⟩ := h
  exact h.lt
theorem Mp.kept {row : Option Nat} (h : Mp P K w b n M) (hg : w.grownBy w' row) (hne : some b ≠ row) : Mp P K w' b n M := by
  obtain ⟨D, h, r⟩ := h
  exact ⟨D, h.kept hg hne, r⟩
theorem Mp.below (h : Mp P K w b n M) (hb : Below w.heap.size w w') : Mp P K w' b n M := h.kept (grown_of_below hb none) (by simp)
theorem Mp.look (hK : P.underlying K = some (.int .i64)) (hT : P.underlying T = some (.map K K)) (hz : ∀ w, (zeroValue K).run P w = .ok (.int .i64 0) w) (h : Mp P K w b n M) {x : Int} (hx : (Lit.int .i64 x).wf = true) :
    (Instr.lookup T (.map (some b)) (.int .i64 x) false).run P w = .ok (.int .i64 (look M x)) w := by
  obtain ⟨D, h, _, _, hat, _⟩ := h
  obtain ⟨c, hrun, hc, _⟩ := h.lookup_int (int_keyed hK) hT hK (hz w) (keyOf_int_mk hK hx)
  rw [hat x] at hc
  injection hc with hc
  injection hc with _ hc
  rw [hc]
  exact hrun
theorem Mp.len (hT : P.underlying T = some (.map K K)) (h : Mp P K w b n M) (ty : TypeId) : (Builtin.len_ #[T] ty #[.map (some b)]).run P w = .ok (.int .i64 (M.length : Int)) w := by
  obtain ⟨D, h, _, _, _, hs⟩ := h
  rw [← hs]
  exact h.len hT ty
theorem Mp.store (hK : P.underlying K = some (.int .i64)) (hT : P.underlying T = some (.map K K)) (h : Mp P K w b n M) (hn : n ≤ 1000) {x v : Int} (hx : (Lit.int .i64 x).wf = true) (hv : (Lit.int .i64 v).wf = true) :
    ∃ w', (Instr.mapUpdate T (.map (some b)) (.int .i64 x) (.int .i64 v)).run P w = .ok () w' ∧ Mp P K w' b (n + 1) (put x v M) ∧ w.grownBy w' (some b) := by
  obtain ⟨D, h, hd, hh, hat, hs⟩ := h
  have hti := h.tidy (int_keyed hK)
  obtain ⟨w', hrun, h2, hg⟩ := h.update (int_keyed hK) hT (by unfold maxLen; omega) (keyOf_int_mk hK hx) (plainElem_int hK hv)
  have hk : Go.WideAt.IsKeyLit (.int .i64 x) := trivial
  refine ⟨w', hrun, ⟨_, h2, put_nodup hd, fun y => ?_, fun y => ?_, ?_⟩, hg⟩
  · by_cases hy : y = x
    · subst hy
      rw [Maps.has_put_same hti.isMap hk]
      exact (decide_eq_true (mem_put.2 (.inl rfl))).symm
    · rw [Maps.has_put_other (by intro e; injection e with _ e; exact hy e), hh y]
      exact decide_eq_decide.2 ⟨fun e => mem_put.2 (.inr e), fun e => (mem_put.1 e).resolve_left hy⟩
  · rw [look_put]
    by_cases hy : y = x
    · subst hy
      rw [Maps.atKey_put_same hti.isMap hk, if_pos rfl]
    · rw [Maps.atKey_put_other (by intro e; injection e with _ e; exact hy e), hat y, if_neg hy]
  · have hl : (put x v M).length = ((put x v M).map (·.1)).length := by rw [List.length_map]
    rw [Maps.size_put hti, hh x, hs, hl, put_keys]
    by_cases hm : x ∈ M.map (·.1)
    · rw [if_pos hm, decide_eq_true hm, if_pos rfl, List.length_map]
    · rw [if_neg hm, decide_eq_false hm, if_neg (by simp), List.length_append, List.length_map, List.length_singleton]
end
section
variable {P : Program} {S : World → Prop} {ρ : Operand → Value} {o : Oper} {K T : TypeId} {b n : Nat} {M : List (Int × Int)}
theorem y_look {m x : Operand} {k : Int} (ho : o.op = .lookup T m x false) (hm : ρ m = .map (some b)) (hx : ρ x = .int .i64 k) (hk : (Lit.int .i64 k).wf = true) (hK : P.underlying K = some (.int .i64)) (hT : P.underlying T = some (.map K K)) (hz : ∀ w, (zeroValue K).run P w = .ok (.int .i64 0) w) (h : ∀ w, S w → Mp P K w b n M) :
    ∀ w, S w → (execOp ρ o).run P w = .ok (.value (.int .i64 (look M k))) w := fun w hw => by
  have hrun := (h w hw).look hK hT hz hk
  simp [execOp, ho, hm, hx, hrun, Result.andThen]
theorem y_lenm {x : Operand} (ho : o.op = .call { callee := .builtin .len, args := #[x], argTypes := #[T] }) (hx : ρ x = .map (some b)) (hT : P.underlying T = some (.map K K)) (h : ∀ w, S w → Mp P K w b n M) :
    ∀ w, S w → (execOp ρ o).run P w = .ok (.value (.int .i64 (M.length : Int))) w := fun w hw => by
  have hrun := (h w hw).len hT o.type
  simp [execOp, ho, resolve, invoke, builtin, hx, hrun, Result.andThen]
variable {ops : Array Oper} {rest : List Oper} {a : Act} {w : World} {Q : Exit → Act → World → Prop}
theorem wpList_mapUpdate_mp (hw : Region.wanted o (yielded ops a.tmps) = true) (m x y : Operand) (T K : TypeId) (k v : Int) (ho : o.op = .mapUpdate T m x y) (b n : Nat) (M : List (Int × Int)) (hm : a.eval m = .map (some b)) (hx : a.eval x = .int .i64 k) (hy : a.eval y = .int .i64 v) (hk : (Lit.int .i64 k).wf = true) (hv : (Lit.int .i64 v).wf = true) (hK : P.underlying K = some (.int .i64)) (hT : P.underlying T = some (.map K K)) (hM : Mp P K w b n M) (hn : n ≤ 1000)
    (h : ∀ w', Mp P K w' b (n + 1) (put k v M) → w.grownBy w' (some b) → wpList P ops Q rest (a.put o.dst undef) w') : wpList P ops Q (o :: rest) a w := by
  obtain ⟨w', hrun, h1, h2⟩ := hM.store hK hT hn hk hv
  refine wpList_step fun _ hK' => ?_
  rw [if_pos hw]
  unfold Oper.wp
  simp [execOp, ho, hm, hx, hy, hrun, Result.andThen]
  exact hK' _ _ (h w' h1 h2)
theorem wpList_makeMap_mp (hw : Region.wanted o (yielded ops a.tmps) = true) (T K : TypeId) (ho : o.op = .makeMap T none) (hT : P.underlying T = some (.map K K))
    (h : ∀ w', Mp P K w' w.heap.size 0 [] → w.grownBy w' none → Hid (w'.heap.size = w.heap.size + 1) → wpList P ops Q rest (a.put o.dst (.map (some w.heap.size))) w') : wpList P ops Q (o :: rest) a w := by
  have hrun := run_makeMap (P := P) T w
  refine wpList_step fun _ hK' => ?_
  rw [if_pos hw]
  unfold Oper.wp
  simp [execOp, ho, hrun, Result.andThen]
  exact hK' _ _ (h _ (Mp.made w P K) (World.grownBy_alloc w _ none) (Lib.hid (by simp)))
end
end Go.Proofs.Ytjhpbpoldedldaa.Sp
namespace Go.Proofs.Ytjhpbpoldedldaa.Vm
open Go.RowKit Go.ChangeShapes Go.WideShapes Mem Rc Sl
def kB : St Bool := ⟨1, fun b => [.bool b], fun _ => True, false, fun _ => rfl, fun _ u hu => by rw [List.mem_singleton.1 hu]; rfl, by omega⟩
section
variable {H : Type} {enc : TypeId × Value → H} {w : World} {base : Nat} {held : Bool}
theorem cells_some {a : Addr} {cs : List Value} {n : Nat} (h : w.cells? base a n = some cs) : cs.length = n ∧ ∀ j, j < n → w.cell? (a.add j) = cs[j]? := by
  obtain ⟨h1, h2, h3⟩ := World.cells?_some h
  exact ⟨h2, h3⟩
theorem open_lst {α : Type} {k : St α} {t e : TypeId} (ht : Try.prog.underlying t = some (.slice e)) (hc : Try.prog.cellsOf e = k.s)
    (one : ∀ (n : Nat) (cs : List Value) (x : DataW H × List MemPlace), DataW.trod enc Try.prog w base (fun _ => true) held n e cs = some x → ∃ r : α, cs = k.cells r ∧ k.wf r)
    {fuel : Nat} {cs : List Value} {x : DataW H × List MemPlace} (hf : DataW.trod enc Try.prog w base (fun _ => true) held fuel t cs = some x) :
    ∃ (A : Option Addr) (m c : Nat) (xs : List α), cs = [.slice A m c] ∧ Lst k w w.heap.size A m xs ∧ m ≤ c ∧ c ≤ maxLen := by
  rcases DataW.trod_slice ht hf with ⟨hcs, _⟩ | ⟨a, len, cap, elems, rest, n, _, hcs, _, hb, hl, hm, hlen, hel, _, _⟩
  · exact ⟨none, 0, 0, [], hcs, Lst.nil _ _ _ _, Nat.le_refl _, by simp [maxLen]⟩
  · have each : ∀ i, i < len → ∃ r : α, k.wf r ∧ ∀ j, j < k.s → w.cell? ((a.add (i * k.s)).add j) = (k.cells r)[j]? := fun i hi => by
      have hi' : i < elems.length := by rw [hlen]; exact hi
      have e := hel i hi
      rw [hc, List.getElem?_eq_getElem hi', Option.bind_eq_some_iff] at e
      obtain ⟨cs, hc, ht⟩ := e
      obtain ⟨r, rfl, hw⟩ := one _ _ _ ht
      exact ⟨r, hw, (cells_some hc).2⟩
    have hch : ∃ F : Nat → α, ∀ i, i < len → k.wf (F i) ∧ ∀ j, j < k.s → w.cell? ((a.add (i * k.s)).add j) = (k.cells (F i))[j]? :=
      ⟨fun i => if h : i < len then Classical.choose (each i h) else k.d, fun i hi => by
        have := Classical.choose_spec (each i hi)
        simp only [hi, dif_pos]
        exact this⟩
    obtain ⟨F, hF⟩ := hch
    refine ⟨some a, len, cap, (List.range len).map F, hcs, ⟨by simp, fun r hr => ?_, fun h0 => ?_⟩, hl, hm⟩
    · obtain ⟨i, hi, rfl⟩ := List.mem_map.1 hr
      exact (hF i (List.mem_range.1 hi)).1
    · have h00 := (hF 0 h0).2 0 k.pos
      have hk0 : 0 < (k.cells (F 0)).length := by rw [k.len]; exact k.pos
      rw [List.getElem?_eq_getElem hk0, Nat.zero_mul] at h00
      obtain ⟨u0, h00⟩ : ∃ u, w.cell? a = some u := ⟨_, by simpa [Addr.add] using h00⟩
      obtain ⟨b, off, spot⟩ := a
      have hspot : spot = none := by simpa [Addr.add] using World.cell?_spot h00
      subst hspot
      have hlt : b < w.heap.size := by simpa [Addr.add] using World.block_lt_of_cell? w _ h00
      have ea : ∀ o j : Nat, (Addr.mk b o none).add j = ⟨b, o + j, none⟩ := fun o j => by unfold Addr.add; split <;> simp_all
      refine ⟨b, off, rfl, hlt, fun q v hv => ?_⟩
      have hq := (List.getElem?_eq_some_iff.1 hv).1
      rw [flat_length] at hq
      simp only [List.length_map, List.length_range] at hq
      have hq1 : q / k.s < len := Nat.div_lt_of_lt_mul (by rw [Nat.mul_comm]; exact hq)
      have hq2 := Nat.mod_lt q k.pos
      have hq3 : q / k.s * k.s + q % k.s = q := by rw [Nat.mul_comm]; exact Nat.div_add_mod q k.s
      have hv' := hv
      have h4 := flat_at (k := k) ((List.range len).map F) (q / k.s) (q % k.s) hq2 (by simpa using hq1)
      rw [hq3] at h4
      rw [h4] at hv'
      have hg : ((List.range len).map F).getD (q / k.s) k.d = F (q / k.s) := by
        rw [List.getD_eq_getElem?_getD, List.getElem?_map, List.getElem?_range hq1]
        rfl
      rw [hg, ← (hF (q / k.s) hq1).2 (q % k.s) hq2, ea, ea, Nat.add_assoc, hq3] at hv'
      exact hv'
theorem open_lstT {α : Type} {k : St α} {t e : TypeId} (ht : Try.prog.underlying t = some (.slice e)) (hc : Try.prog.cellsOf e = k.s)
    (one : ∀ (n : Nat) (cs : List Value) (x : DataW H × List MemPlace), DataW.trod enc Try.prog w base (fun _ => true) held n e cs = some x → ∃ r : α, cs = k.cells r ∧ k.wf r)
    {A : Option Addr} {m c : Nat} {d : DataW H} {p : List MemPlace} (h : DataW.Trod enc Try.prog w base (fun _ => true) held t (.slice A m c) d p) : ∃ xs, Lst k w w.heap.size A m xs ∧ m ≤ c ∧ c ≤ maxLen := by
  obtain ⟨fuel, hf⟩ := h
  simp only [Value.cells] at hf
  obtain ⟨A', m', c', xs, e, h⟩ := open_lst ht hc one hf
  simp at e
  obtain ⟨rfl, rfl, rfl⟩ := e
  exact ⟨xs, h⟩
theorem pair_fields : ∃ f0 f1 : Field, Try.prog.underlying 36 = some (.struct #[f0, f1]) ∧ (f0.offset = 0 ∧ f0.type = 2) ∧ (f1.offset = 1 ∧ f1.type = 2) :=
  ⟨_, _, Try.underlying36, ⟨rfl, rfl⟩, ⟨rfl, rfl⟩⟩
end
end Go.Proofs.Ytjhpbpoldedldaa.Vm
namespace Go.Proofs.Ytjhpbpoldedldaa.Sp
open Go.RowKit Go.ChangeShapes Go.WideShapes Mem Rc Sl Vm
section
variable {H : Type} {enc : TypeId × Value → H} {w : World} {base : Nat} {held : Bool}
set_option maxRecDepth 100000 in
theorem open_pair1 (n : Nat) (cs : List Value) (x : DataW H × List MemPlace) (h : DataW.trod enc Try.prog w base (fun _ => true) held n 36 cs = some x) : ∃ r : Int × Int, cs = kP.cells r ∧ kP.wf r := by
  obtain ⟨f0, f1, hu, ⟨o0, t0⟩, ⟨o1, t1⟩⟩ := pair_fields
  obtain ⟨xs, m, _, _, hl, hxl, hel⟩ := DataW.trod_struct hu h
  have c6 : Try.prog.cellsOf 2 = 1 := by kernel_rfl
  have cc : Try.prog.cellsOf 36 = 2 := by kernel_rfl
  rw [cc] at hl
  have hx2 : xs.length = 2 := hxl
  have e0 := hel 0 f0 rfl
  have e1 := hel 1 f1 rfl
  rw [o0, t0, c6] at e0
  rw [o1, t1, c6] at e1
  obtain ⟨z0, q0, w0⟩ := field_int (by omega) Try.underlying2 e0 (by simp [hx2])
  obtain ⟨z1, q1, w1⟩ := field_int (by omega) Try.underlying2 e1 (by simp [hx2])
  refine ⟨(z0, z1), ?_, w0, w1⟩
  apply List.ext_getElem?
  intro i
  match i with
  | 0 => exact q0
  | 1 => exact q1
  | i + 2 => rw [List.getElem?_eq_none (by omega), List.getElem?_eq_none (by simp [kP, pcells])]
end
end Go.Proofs.Ytjhpbpoldedldaa.Sp
