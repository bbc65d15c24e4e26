/-
  The first line of stage 11's laws, by its contract.
  What the frame of a proof says of a program, a pair, a list of truths that came in.
  One struct stored into a list whose block is known whole: no program here.
-/
import Derived.Test.YteipkkakjgfchaaB3
import Derived.Test.YteipkkakjgfchaaB5
import Derived.Test.YteipkkakjgfchaaB2
import Derived.WideShapes
import Derived.ChangeArms
set_option linter.unusedVariables false
namespace Go.Proofs.Yteipkkakjgfchaa.Vm
open Go.RowKit Go.Shelf Go.Proofs.Yteipkkakjgfchaa Mem Held Rc Rs Sl
attribute [local irreducible] wpList wpListIn Calls
theorem zero_prog : (Try.prog.info? 27).bind (·.zero) = some (.agg #[.int .i64 0, .slice none 0 0, .slice none 0 0, .slice none 0 0]) := by kernel_rfl
set_option maxRecDepth 100000 in
set_option maxHeartbeats 8000000 in
theorem awake11_any (w : World) : Calls Try.prog 8 #[] w fun e w' => e = .returned (.bool true) ∧ Below w.heap.size w w' := by
  have HC := Lib.hid (show checkE 1 [] [⟨2, 0, 0, 1, 0, 0⟩] [] = 0 by decide +kernel)
  have HF := Lib.hid (show foldV 1 [] [⟨2, 0, 0, 1, 0, 0⟩] [] 2 3 = 5 by decide +kernel)
  have HC0 := Lib.hid (show checkE 0 [] [] [] = 8 by decide +kernel)
  have HM := Lib.hid (show (mapR 1 [] [⟨2, 0, 0, 1, 0, 0⟩] [] 0 0 0).length = 1 by decide +kernel)
  go_enter Try.func8, Try.ntmps8
  go_wp2_with (first
    | (refine wpList_build_blk rfl 24 _ rfl #[.int .i64 2, .int .i64 0, .int .i64 0, .int .i64 1, .int .i64 0, .int .i64 0] (by kernel_rfl) ?_)
    | (refine wpList_build_lst (w := w) (k := kO) rfl 25 24 1 _ rfl Try.underlying25 _ 48 info_op rfl [⟨2, 0, 0, 1, 0, 0⟩] rfl (by kernel_rfl) (by omega) (by decide) ?_; intro w1 q1 g1 z1)
    | (refine wpList_build_blk rfl 27 _ rfl #[.int .i64 1, .slice none 0 0, .slice (some ⟨w.heap.size, 0, none⟩) 1 1, .slice none 0 0] (by kernel_rfl) ?_)
    | (refine wpList_alloc_blk (w := w1) rfl 27 rfl _ zero_prog ?_; intro w2 q2 g2 z2)
    | (refine wpList_store_blk (w := w2) rfl 27 _ _ rfl w1.heap.size 4 rfl 27 _ #[.int .i64 1, .slice none 0 0, .slice (some ⟨w.heap.size, 0, none⟩) 1 1, .slice none 0 0] rfl q2 info_prog rfl rfl (by kernel_rfl) ?_; intro w3 q3 g3 z3)
    | (refine wpList_load_blk (w := w3) rfl 27 _ rfl w1.heap.size 4 rfl 27 _ q3 _ Try.underlying27 rfl (by kernel_rfl) rfl ?_))
  have lw := q1.lt
  have l1 := q3.lt
  have b1 : Below w.heap.size w w1 := (Below.refl _ w).grown g1 (Nat.le_refl _) (by simp)
  have b3 : Below w.heap.size w w3 := (b1.grown g2 b1.size (by simp)).grown g3 (Nat.le_trans b1.size g2.size) (fun r e => by cases e; exact b1.size)
  have q13 : Blk w3 w.heap.size 24 (flat kO [⟨2, 0, 0, 1, 0, 0⟩]).toArray := (q1.grown g2 (by simp)).grown g3 (by intro e; injection e with e; omega)
  have L : Lst kO w3 w3.heap.size (some ⟨w.heap.size, 0, none⟩) 1 [⟨2, 0, 0, 1, 0, 0⟩] := lst_whole q13 rfl (fun x hx => by rw [List.mem_singleton.1 hx]; exact ⟨rfl, rfl, rfl, rfl, rfl, rfl⟩)
  clear q1 q2 q13 g1 g2 g3 z1 z2 z3 b1
  refine (check_any w3.heap.size 1 _ _ _ _ _ _ _ _ _ [] _ [] w3 (Lst.nil _ _ _ _) L (Lst.nil _ _ _ _) (Nat.le_refl _)).mono ?_
  rintro e w4 ⟨rfl, b4⟩
  rw [HC.out]
  have q4 := q3.after b4
  have L4 := (L.below b4).more b4.size
  have b4 := b3.trans (b4.mono b3.size)
  clear q3 L b3
  go_wp2_with (refine wpList_load_blk (w := w4) rfl 27 _ rfl w1.heap.size 4 rfl 27 _ q4 _ Try.underlying27 rfl (by kernel_rfl) rfl ?_)
  refine (fold_any w4.heap.size 1 _ _ _ _ _ _ _ _ _ [] _ [] 2 3 w4 rfl rfl (Lst.nil _ _ _ _) L4 (Lst.nil _ _ _ _) (Nat.le_refl _)).mono ?_
  rintro e w5 ⟨rfl, b5⟩
  rw [HF.out]
  have q5 := q4.after b5
  have L5 := (L4.below b5).more b5.size
  have b5 := b4.trans (b5.mono b4.size)
  clear q4 L4 b4
  go_wp2_with (refine wpList_run (w := w5) rfl (v := .agg #[.int .i64 0, .slice none 0 0, .slice none 0 0, .slice none 0 0]) (y_build (S := fun _ => True) rfl (by kernel_rfl) _ trivial) ?_)
  refine (check_any w5.heap.size 0 _ _ _ _ _ _ _ _ _ [] [] [] w5 (Lst.nil _ _ _ _) (Lst.nil _ _ _ _) (Lst.nil _ _ _ _) (Nat.le_refl _)).mono ?_
  rintro e w6 ⟨rfl, b6⟩
  rw [HC0.out]
  have q6 := q5.after b6
  have L6 := (L5.below b6).more b6.size
  have b6 := b5.trans (b6.mono b5.size)
  clear q5 L5 b5
  go_wp2_with (first
    | (refine wpList_load_blk (w := w6) rfl 27 _ rfl w1.heap.size 4 rfl 27 _ q6 _ Try.underlying27 rfl (by kernel_rfl) rfl ?_)
    | (refine wpList_run (w := w6) rfl (v := .agg #[.int .i64 0, .int .i64 0]) (y_build (S := fun _ => True) rfl (by kernel_rfl) _ trivial) ?_))
  refine (map_any w6.heap.size 1 _ _ _ _ _ _ _ _ _ [] _ [] 0 0 0 w6 rfl rfl rfl (Lst.nil _ _ _ _) L6 (Lst.nil _ _ _ _) (Nat.le_refl _)).mono ?_
  rintro e w7 ⟨A', n', c', rfl, o7, b7⟩
  obtain ⟨A9, c9, e9, _⟩ := o7.form
  rw [HM.out] at e9
  injection e9 with e1 e2 e3
  subst e2
  have b7 := b6.trans (b7.mono b6.size)
  clear b6 q6 L6 o7
  go_wp2_with fail
  go_ret
  exact ⟨rfl, b7⟩
end Go.Proofs.Yteipkkakjgfchaa.Vm
namespace Go.Proofs.Yteipkkakjgfchaa.Vm
open Go.RowKit Go.ChangeShapes Go.WideShapes Mem Rc Sl
def kB : St Bool := ⟨1, fun b => [.bool b], fun _ => True, false, fun _ => rfl, fun _ u hu => by rw [List.mem_singleton.1 hu]; rfl, by omega⟩
section
variable {H : Type} {enc : TypeId × Value → H} {w : World} {base : Nat} {held : Bool}
theorem cells_some {a : Addr} {cs : List Value} {n : Nat} (h : w.cells? base a n = some cs) : cs.length = n ∧ ∀ j, j < n → w.cell? (a.add j) = cs[j]? := by
  obtain ⟨h1, h2, h3⟩ := World.cells?_some h
  exact ⟨h2, h3⟩
theorem open_lst {α : Type} {k : St α} {t e : TypeId} (ht : Try.prog.underlying t = some (.slice e)) (hc : Try.prog.cellsOf e = k.s)
    (one : ∀ (n : Nat) (cs : List Value) (x : DataW H × List MemPlace), DataW.trod enc Try.prog w base (fun _ => true) held n e cs = some x → ∃ r : α, cs = k.cells r ∧ k.wf r)
    {fuel : Nat} {cs : List Value} {x : DataW H × List MemPlace} (hf : DataW.trod enc Try.prog w base (fun _ => true) held fuel t cs = some x) :
    ∃ (A : Option Addr) (m c : Nat) (xs : List α), cs = [.slice A m c] ∧ Lst k w w.heap.size A m xs ∧ m ≤ c ∧ c ≤ maxLen := by
  rcases DataW.trod_slice ht hf with ⟨hcs, _⟩ | ⟨a, len, cap, elems, rest, n, _, hcs, _, hb, hl, hm, hlen, hel, _, _⟩
  · exact ⟨none, 0, 0, [], hcs, Lst.nil _ _ _ _, Nat.le_refl _, by simp [maxLen]⟩
  · have each : ∀ i, i < len → ∃ r : α, k.wf r ∧ ∀ j, j < k.s → w.cell? ((a.add (i * k.s)).add j) = (k.cells r)[j]? := fun i hi => by
      have hi' : i < elems.length := by rw [hlen]; exact hi
      have e := hel i hi
      rw [hc, List.getElem?_eq_getElem hi', Option.bind_eq_some_iff] at e
      obtain ⟨cs, hc, ht⟩ := e
      obtain ⟨r, rfl, hw⟩ := one _ _ _ ht
      exact ⟨r, hw, (cells_some hc).2⟩
    have hch : ∃ F : Nat → α, ∀ i, i < len → k.wf (F i) ∧ ∀ j, j < k.s → w.cell? ((a.add (i * k.s)).add j) = (k.cells (F i))[j]? :=
      ⟨fun i => if h : i < len then Classical.choose (each i h) else k.d, fun i hi => by
        have := Classical.choose_spec (each i hi)
        simp only [hi, dif_pos]
        exact this⟩
    obtain ⟨F, hF⟩ := hch
    refine ⟨some a, len, cap, (List.range len).map F, hcs, ⟨by simp, fun r hr => ?_, fun h0 => ?_⟩, hl, hm⟩
    · obtain ⟨i, hi, rfl⟩ := List.mem_map.1 hr
      exact (hF i (List.mem_range.1 hi)).1
    · have h00 := (hF 0 h0).2 0 k.pos
      have hk0 : 0 < (k.cells (F 0)).length := by rw [k.len]; exact k.pos
      rw [List.getElem?_eq_getElem hk0, Nat.zero_mul] at h00
      obtain ⟨u0, h00⟩ : ∃ u, w.cell? a = some u := ⟨_, by simpa [Addr.add] using h00⟩
      obtain ⟨b, off, spot⟩ := a
      have hspot : spot = none := by simpa [Addr.add] using World.cell?_spot h00
      subst hspot
      have hlt : b < w.heap.size := by simpa [Addr.add] using World.block_lt_of_cell? w _ h00
      have ea : ∀ o j : Nat, (Addr.mk b o none).add j = ⟨b, o + j, none⟩ := fun o j => by unfold Addr.add; split <;> simp_all
      refine ⟨b, off, rfl, hlt, fun q v hv => ?_⟩
      have hq := (List.getElem?_eq_some_iff.1 hv).1
      rw [flat_length] at hq
      simp only [List.length_map, List.length_range] at hq
      have hq1 : q / k.s < len := Nat.div_lt_of_lt_mul (by rw [Nat.mul_comm]; exact hq)
      have hq2 := Nat.mod_lt q k.pos
      have hq3 : q / k.s * k.s + q % k.s = q := by rw [Nat.mul_comm]; exact Nat.div_add_mod q k.s
      have hv' := hv
      have h4 := flat_at (k := k) ((List.range len).map F) (q / k.s) (q % k.s) hq2 (by simpa using hq1)
      rw [hq3] at h4
      rw [h4] at hv'
      have hg : ((List.range len).map F).getD (q / k.s) k.d = F (q / k.s) := by
        rw [List.getD_eq_getElem?_getD, List.getElem?_map, List.getElem?_range hq1]
        rfl
      rw [hg, ← (hF (q / k.s) hq1).2 (q % k.s) hq2, ea, ea, Nat.add_assoc, hq3] at hv'
      exact hv'
theorem open_lstT {α : Type} {k : St α} {t e : TypeId} (ht : Try.prog.underlying t = some (.slice e)) (hc : Try.prog.cellsOf e = k.s)
    (one : ∀ (n : Nat) (cs : List Value) (x : DataW H × List MemPlace), DataW.trod enc Try.prog w base (fun _ => true) held n e cs = some x → ∃ r : α, cs = k.cells r ∧ k.wf r)
    {A : Option Addr} {m c : Nat} {d : DataW H} {p : List MemPlace} (h : DataW.Trod enc Try.prog w base (fun _ => true) held t (.slice A m c) d p) : ∃ xs, Lst k w w.heap.size A m xs ∧ m ≤ c ∧ c ≤ maxLen := by
  obtain ⟨fuel, hf⟩ := h
  simp only [Value.cells] at hf
  obtain ⟨A', m', c', xs, e, h⟩ := open_lst ht hc one hf
  simp at e
  obtain ⟨rfl, rfl, rfl⟩ := e
  exact ⟨xs, h⟩
theorem open_truth (n : Nat) (cs : List Value) (x : DataW H × List MemPlace) (h : DataW.trod enc Try.prog w base (fun _ => true) held n 4 cs = some x) : ∃ b : Bool, cs = kB.cells b ∧ kB.wf b := by
  obtain ⟨b, hb, _⟩ := DataW.trod_bool Try.underlying4 h
  exact ⟨b, hb, trivial⟩
end
end Go.Proofs.Yteipkkakjgfchaa.Vm
namespace Go.Proofs.Yteipkkakjgfchaa.Sl
open Go.RowKit Go.Shelf Mem Held
section
variable {α : Type} {k : St α} {P : Program} {ops : Array Oper} {o : Oper} {a : Act} {w : World} {Q : Exit → Act → World → Prop}
theorem wpList_store_lstB {rest : List Oper} (hgd : o.guard = none) (ty : TypeId) (x y : Operand) (ho : o.op = .store ty x y) (hsz : (P.info? ty).map (·.size) = some k.s) (g off j : Nat) (t : TypeId) (xs : List α) (f : α) (hoff : off = j * k.s) (hx : a.eval x = .pointer (some ⟨g, off, none⟩)) (hy : a.eval y = .agg (k.cells f).toArray)
    (hb : Blk w g t (flat k xs).toArray) (hj : j < xs.length) (h : ∀ w', Blk w' g t (flat k (xs.set j f)).toArray → w.grownBy w' (some g) → wpList P ops Q rest (a.put o.dst undef) w') : wpList P ops Q (o :: rest) a w := by
  subst hoff
  obtain ⟨h1, h2⟩ := blk_setCells (f := f) hb hj
  exact wpList_store_mid hgd ty x y ho g (j * k.s) (k.cells f).toArray hx hy h1 (by rw [hsz, List.size_toArray, k.len]) (all_oneCell_toArray (k.one f)) (h _ h2 (grown_setCells _ _ _ _))
theorem set_rep {α : Type} (x d : α) {i K : Nat} (hi : i < K) : (List.replicate i x ++ List.replicate (K - i) d).set i x = List.replicate (i + 1) x ++ List.replicate (K - (i + 1)) d := by
  rw [List.set_append_right _ _ (by simp), List.length_replicate, Nat.sub_self, show K - i = (K - (i + 1)) + 1 by omega, List.replicate_succ, List.set_cons_zero, ← List.singleton_append, ← List.append_assoc, List.replicate_succ' (n := i)]
end
end Go.Proofs.Yteipkkakjgfchaa.Sl
