/-
  The first line of stage 11's laws, by its contract.
  What the frame of a proof says of a program, a pair, a list of truths that came in.
  Two operations held against each other: no program here but the type of an operation.
  The functions Same and Plain of package dominohelp on operations, by their contracts.
  Lists of structs in a block that is filled step by step; append within the room: no program here.
  The functions Own and Kept of package dominohelp on operations, by their contracts.
-/
import Derived.Test.YteipkkakjgfchaaB3
import Derived.Test.YteipkkakjgfchaaB5
import Derived.Test.YteipkkakjgfchaaB2
import Derived.WideShapes
import Derived.ChangeArms
import Derived.Laws.StructEq
import Derived.Test.YteipkkakjgfchaaB4
import Derived.OwnWalk
set_option linter.unusedVariables false
namespace Go.Proofs.Yteipkkakjgfchaa.Vm
open Go.RowKit Go.Shelf Go.Proofs.Yteipkkakjgfchaa Mem Held Rc Rs Sl
attribute [local irreducible] wpList wpListIn Calls
theorem zero_prog : (Try.prog.info? 27).bind (·.zero) = some (.agg #[.int .i64 0, .slice none 0 0, .slice none 0 0, .slice none 0 0]) := by kernel_rfl
set_option maxRecDepth 100000 in
set_option maxHeartbeats 8000000 in
theorem awake11_any (w : World) : Calls Try.prog 8 #[] w fun e w' => e = .returned (.bool true) ∧ Below w.heap.size w w' := by
  have HC := Lib.hid (show checkE 1 [] [⟨2, 0, 0, 1, 0, 0⟩] [] = 0 by decide +kernel)
  have HF := Lib.hid (show foldV 1 [] [⟨2, 0, 0, 1, 0, 0⟩] [] 2 3 = 5 by decide +kernel)
  have HC0 := Lib.hid (show checkE 0 [] [] [] = 8 by decide +kernel)
  have HM := Lib.hid (show (mapR 1 [] [⟨2, 0, 0, 1, 0, 0⟩] [] 0 0 0).length = 1 by decide +kernel)
  go_enter Try.func8, Try.ntmps8
  go_wp2_with (first
    | (refine wpList_build_blk rfl 24 _ rfl #[.int .i64 2, .int .i64 0, .int .i64 0, .int .i64 1, .int .i64 0, .int .i64 0] (by kernel_rfl) ?_)
    | (refine wpList_build_lst (w := w) (k := kO) rfl 25 24 1 _ rfl Try.underlying25 _ 48 info_op rfl [⟨2, 0, 0, 1, 0, 0⟩] rfl (by kernel_rfl) (by omega) (by decide) ?_; intro w1 q1 g1 z1)
    | (refine wpList_build_blk rfl 27 _ rfl #[.int .i64 1, .slice none 0 0, .slice (some ⟨w.heap.size, 0, none⟩) 1 1, .slice none 0 0] (by kernel_rfl) ?_)
    | (refine wpList_alloc_blk (w := w1) rfl 27 rfl _ zero_prog ?_; intro w2 q2 g2 z2)
    | (refine wpList_store_blk (w := w2) rfl 27 _ _ rfl w1.heap.size 4 rfl 27 _ #[.int .i64 1, .slice none 0 0, .slice (some ⟨w.heap.size, 0, none⟩) 1 1, .slice none 0 0] rfl q2 info_prog rfl rfl (by kernel_rfl) ?_; intro w3 q3 g3 z3)
    | (refine wpList_load_blk (w := w3) rfl 27 _ rfl w1.heap.size 4 rfl 27 _ q3 _ Try.underlying27 rfl (by kernel_rfl) rfl ?_))
  have lw := q1.lt
  have l1 := q3.lt
  have b1 : Below w.heap.size w w1 := (Below.refl _ w).grown g1 (Nat.le_refl _) (by simp)
  have b3 : Below w.heap.size w w3 := (b1.grown g2 b1.size (by simp)).grown g3 (Nat.le_trans b1.size g2.size) (fun r e => by cases e; exact b1.size)
  have q13 : Blk w3 w.heap.size 24 (flat kO [⟨2, 0, 0, 1, 0, 0⟩]).toArray := (q1.grown g2 (by simp)).grown g3 (by intro e; injection e with e; omega)
  have L : Lst kO w3 w3.heap.size (some ⟨w.heap.size, 0, none⟩) 1 [⟨2, 0, 0, 1, 0, 0⟩] := lst_whole q13 rfl (fun x hx => by rw [List.mem_singleton.1 hx]; exact ⟨rfl, rfl, rfl, rfl, rfl, rfl⟩)
  clear q1 q2 q13 g1 g2 g3 z1 z2 z3 b1
  refine (check_any w3.heap.size 1 _ _ _ _ _ _ _ _ _ [] _ [] w3 (Lst.nil _ _ _ _) L (Lst.nil _ _ _ _) (Nat.le_refl _)).mono ?_
  rintro e w4 ⟨rfl, b4⟩
  rw [HC.out]
  have q4 := q3.after b4
  have L4 := (L.below b4).more b4.size
  have b4 := b3.trans (b4.mono b3.size)
  clear q3 L b3
  go_wp2_with (refine wpList_load_blk (w := w4) rfl 27 _ rfl w1.heap.size 4 rfl 27 _ q4 _ Try.underlying27 rfl (by kernel_rfl) rfl ?_)
  refine (fold_any w4.heap.size 1 _ _ _ _ _ _ _ _ _ [] _ [] 2 3 w4 rfl rfl (Lst.nil _ _ _ _) L4 (Lst.nil _ _ _ _) (Nat.le_refl _)).mono ?_
  rintro e w5 ⟨rfl, b5⟩
  rw [HF.out]
  have q5 := q4.after b5
  have L5 := (L4.below b5).more b5.size
  have b5 := b4.trans (b5.mono b4.size)
  clear q4 L4 b4
  go_wp2_with (refine wpList_run (w := w5) rfl (v := .agg #[.int .i64 0, .slice none 0 0, .slice none 0 0, .slice none 0 0]) (y_build (S := fun _ => True) rfl (by kernel_rfl) _ trivial) ?_)
  refine (check_any w5.heap.size 0 _ _ _ _ _ _ _ _ _ [] [] [] w5 (Lst.nil _ _ _ _) (Lst.nil _ _ _ _) (Lst.nil _ _ _ _) (Nat.le_refl _)).mono ?_
  rintro e w6 ⟨rfl, b6⟩
  rw [HC0.out]
  have q6 := q5.after b6
  have L6 := (L5.below b6).more b6.size
  have b6 := b5.trans (b6.mono b5.size)
  clear q5 L5 b5
  go_wp2_with (first
    | (refine wpList_load_blk (w := w6) rfl 27 _ rfl w1.heap.size 4 rfl 27 _ q6 _ Try.underlying27 rfl (by kernel_rfl) rfl ?_)
    | (refine wpList_run (w := w6) rfl (v := .agg #[.int .i64 0, .int .i64 0]) (y_build (S := fun _ => True) rfl (by kernel_rfl) _ trivial) ?_))
  refine (map_any w6.heap.size 1 _ _ _ _ _ _ _ _ _ [] _ [] 0 0 0 w6 rfl rfl rfl (Lst.nil _ _ _ _) L6 (Lst.nil _ _ _ _) (Nat.le_refl _)).mono ?_
  rintro e w7 ⟨A', n', c', rfl, o7, b7⟩
  obtain ⟨A9, c9, e9, _⟩ := o7.form
  rw [HM.out] at e9
  injection e9 with e1 e2 e3
  subst e2
  have b7 := b6.trans (b7.mono b6.size)
  clear b6 q6 L6 o7
  go_wp2_with fail
  go_ret
  exact ⟨rfl, b7⟩
end Go.Proofs.Yteipkkakjgfchaa.Vm
namespace Go.Proofs.Yteipkkakjgfchaa.Vm
open Go.RowKit Go.ChangeShapes Go.WideShapes Mem Rc Sl
def kB : St Bool := ⟨1, fun b => [.bool b], fun _ => True, false, fun _ => rfl, fun _ u hu => by rw [List.mem_singleton.1 hu]; rfl, by omega⟩
section
variable {H : Type} {enc : TypeId × Value → H} {w : World} {base : Nat} {held : Bool}
theorem cells_some {a : Addr} {cs : List Value} {n : Nat} (h : w.cells? base a n = some cs) : cs.length = n ∧ ∀ j, j < n → w.cell? (a.add j) = cs[j]? := by
  obtain ⟨h1, h2, h3⟩ := World.cells?_some h
  exact ⟨h2, h3⟩
theorem open_lst {α : Type} {k : St α} {t e : TypeId} (ht : Try.prog.underlying t = some (.slice e)) (hc : Try.prog.cellsOf e = k.s)
    (one : ∀ (n : Nat) (cs : List Value) (x : DataW H × List MemPlace), DataW.trod enc Try.prog w base (fun _ => true) held n e cs = some x → ∃ r : α, cs = k.cells r ∧ k.wf r)
    {fuel : Nat} {cs : List Value} {x : DataW H × List MemPlace} (hf : DataW.trod enc Try.prog w base (fun _ => true) held fuel t cs = some x) :
    ∃ (A : Option Addr) (m c : Nat) (xs : List α), cs = [.slice A m c] ∧ Lst k w w.heap.size A m xs ∧ m ≤ c ∧ c ≤ maxLen := by
  rcases DataW.trod_slice ht hf with ⟨hcs, _⟩ | ⟨a, len, cap, elems, rest, n, _, hcs, _, hb, hl, hm, hlen, hel, _, _⟩
  · exact ⟨none, 0, 0, [], hcs, Lst.nil _ _ _ _, Nat.le_refl _, by simp [maxLen]⟩
  · have each : ∀ i, i < len → ∃ r : α, k.wf r ∧ ∀ j, j < k.s → w.cell? ((a.add (i * k.s)).add j) = (k.cells r)[j]? := fun i hi => by
      have hi' : i < elems.length := by rw [hlen]; exact hi
      have e := hel i hi
      rw [hc, List.getElem?_eq_getElem hi', Option.bind_eq_some_iff] at e
      obtain ⟨cs, hc, ht⟩ := e
      obtain ⟨r, rfl, hw⟩ := one _ _ _ ht
      exact ⟨r, hw, (cells_some hc).2⟩
    have hch : ∃ F : Nat → α, ∀ i, i < len → k.wf (F i) ∧ ∀ j, j < k.s → w.cell? ((a.add (i * k.s)).add j) = (k.cells (F i))[j]? :=
      ⟨fun i => if h : i < len then Classical.choose (each i h) else k.d, fun i hi => by
        have := Classical.choose_spec (each i hi)
        simp only [hi, dif_pos]
        exact this⟩
    obtain ⟨F, hF⟩ := hch
    refine ⟨some a, len, cap, (List.range len).map F, hcs, ⟨by simp, fun r hr => ?_, fun h0 => ?_⟩, hl, hm⟩
    · obtain ⟨i, hi, rfl⟩ := List.mem_map.1 hr
      exact (hF i (List.mem_range.1 hi)).1
    · have h00 := (hF 0 h0).2 0 k.pos
      have hk0 : 0 < (k.cells (F 0)).length := by rw [k.len]; exact k.pos
      rw [List.getElem?_eq_getElem hk0, Nat.zero_mul] at h00
      obtain ⟨u0, h00⟩ : ∃ u, w.cell? a = some u := ⟨_, by simpa [Addr.add] using h00⟩
      obtain ⟨b, off, spot⟩ := a
      have hspot : spot = none := by simpa [Addr.add] using World.cell?_spot h00
      subst hspot
      have hlt : b < w.heap.size := by simpa [Addr.add] using World.block_lt_of_cell? w _ h00
      have ea : ∀ o j : Nat, (Addr.mk b o none).add j = ⟨b, o + j, none⟩ := fun o j => by unfold Addr.add; split <;> simp_all
      refine ⟨b, off, rfl, hlt, fun q v hv => ?_⟩
      have hq := (List.getElem?_eq_some_iff.1 hv).1
      rw [flat_length] at hq
      simp only [List.length_map, List.length_range] at hq
      have hq1 : q / k.s < len := Nat.div_lt_of_lt_mul (by rw [Nat.mul_comm]; exact hq)
      have hq2 := Nat.mod_lt q k.pos
      have hq3 : q / k.s * k.s + q % k.s = q := by rw [Nat.mul_comm]; exact Nat.div_add_mod q k.s
      have hv' := hv
      have h4 := flat_at (k := k) ((List.range len).map F) (q / k.s) (q % k.s) hq2 (by simpa using hq1)
      rw [hq3] at h4
      rw [h4] at hv'
      have hg : ((List.range len).map F).getD (q / k.s) k.d = F (q / k.s) := by
        rw [List.getD_eq_getElem?_getD, List.getElem?_map, List.getElem?_range hq1]
        rfl
      rw [hg, ← (hF (q / k.s) hq1).2 (q % k.s) hq2, ea, ea, Nat.add_assoc, hq3] at hv'
      exact hv'
theorem op_fields : ∃ f0 f1 f2 f3 f4 f5 : Field, Try.prog.underlying 24 = some (.struct #[f0, f1, f2, f3, f4, f5]) ∧ (f0.offset = 0 ∧ f0.type = 3) ∧ (f1.offset = 1 ∧ f1.type = 3) ∧ (f2.offset = 2 ∧ f2.type = 3) ∧ (f3.offset = 3 ∧ f3.type = 3) ∧ (f4.offset = 4 ∧ f4.type = 3) ∧ (f5.offset = 5 ∧ f5.type = 2) :=
  ⟨_, _, _, _, _, _, Try.underlying24, ⟨rfl, rfl⟩, ⟨rfl, rfl⟩, ⟨rfl, rfl⟩, ⟨rfl, rfl⟩, ⟨rfl, rfl⟩, ⟨rfl, rfl⟩⟩
theorem open_op (n : Nat) (cs : List Value) (x : DataW H × List MemPlace) (h : DataW.trod enc Try.prog w base (fun _ => true) held n 24 cs = some x) : ∃ o : O, cs = kO.cells o ∧ kO.wf o := by
  obtain ⟨f0, f1, f2, f3, f4, f5, hu, ⟨o0, t0⟩, ⟨o1, t1⟩, ⟨o2, t2⟩, ⟨o3, t3⟩, ⟨o4, t4⟩, ⟨o5, t5⟩⟩ := op_fields
  obtain ⟨xs, m, _, _, hl, hxl, hel⟩ := DataW.trod_struct hu h
  have ci : Try.prog.cellsOf 3 = 1 := by kernel_rfl
  have c6 : Try.prog.cellsOf 2 = 1 := by kernel_rfl
  have cc : Try.prog.cellsOf 24 = 6 := by kernel_rfl
  rw [cc] at hl
  have hx6 : xs.length = 6 := hxl
  have e0 := hel 0 f0 rfl
  have e1 := hel 1 f1 rfl
  have e2 := hel 2 f2 rfl
  have e3 := hel 3 f3 rfl
  have e4 := hel 4 f4 rfl
  have e5 := hel 5 f5 rfl
  rw [o0, t0, ci] at e0
  rw [o1, t1, ci] at e1
  rw [o2, t2, ci] at e2
  rw [o3, t3, ci] at e3
  rw [o4, t4, ci] at e4
  rw [o5, t5, c6] at e5
  obtain ⟨z0, q0, w0⟩ := field_int (by omega) Try.underlying3 e0 (by simp [hx6])
  obtain ⟨z1, q1, w1⟩ := field_int (by omega) Try.underlying3 e1 (by simp [hx6])
  obtain ⟨z2, q2, w2⟩ := field_int (by omega) Try.underlying3 e2 (by simp [hx6])
  obtain ⟨z3, q3, w3⟩ := field_int (by omega) Try.underlying3 e3 (by simp [hx6])
  obtain ⟨z4, q4, w4⟩ := field_int (by omega) Try.underlying3 e4 (by simp [hx6])
  obtain ⟨z5, q5, w5⟩ := field_int (by omega) Try.underlying2 e5 (by simp [hx6])
  refine ⟨⟨z0, z1, z2, z3, z4, z5⟩, ?_, w0, w1, w2, w3, w4, w5⟩
  apply List.ext_getElem?
  intro i
  match i with
  | 0 => exact q0
  | 1 => exact q1
  | 2 => exact q2
  | 3 => exact q3
  | 4 => exact q4
  | 5 => exact q5
  | i + 6 => rw [List.getElem?_eq_none (by omega), List.getElem?_eq_none (by simp [kO, O.cells])]
theorem prog_fields : ∃ f0 f1 f2 f3 : Field, Try.prog.underlying 27 = some (.struct #[f0, f1, f2, f3]) ∧ (f0.offset = 0 ∧ f0.type = 3) ∧ (f1.offset = 1 ∧ f1.type = 25) ∧ (f2.offset = 2 ∧ f2.type = 25) ∧ (f3.offset = 3 ∧ f3.type = 25) :=
  ⟨_, _, _, _, Try.underlying27, ⟨rfl, rfl⟩, ⟨rfl, rfl⟩, ⟨rfl, rfl⟩, ⟨rfl, rfl⟩⟩
theorem field_ops {cs : List Value} {j n : Nat} {x : Option (DataW H × List MemPlace)} (hj : j < cs.length) (h : DataW.trod enc Try.prog w base (fun _ => true) held n 25 ((cs.drop j).take 1) = x) (hx : x.isSome = true) : ∃ (A : Option Addr) (m c : Nat) (xs : List O), cs[j]? = some (.slice A m c) ∧ Lst kO w w.heap.size A m xs ∧ m ≤ c ∧ c ≤ maxLen := by
  obtain ⟨y, rfl⟩ := Option.isSome_iff_exists.1 hx
  obtain ⟨A, m, c, xs, h2, h3⟩ := open_lst (k := kO) Try.underlying25 (by kernel_rfl) open_op h
  rw [List.drop_eq_getElem_cons hj] at h2
  simp only [List.take_succ_cons, List.take_zero] at h2
  exact ⟨A, m, c, xs, by rw [List.getElem?_eq_getElem hj, (List.cons.inj h2).1], h3⟩
set_option maxRecDepth 100000 in
theorem open_prog {r : Reach} {b0 : Nat} {v : Value} {d : DataW H} {p : List MemPlace} (hval : Value.okWide Try.prog w r b0 27 v) (h : DataW.Trod enc Try.prog w base (fun _ => true) held 27 v d p) :
    ∃ (K : Int) (A1 : Option Addr) (n1 c1 : Nat) (x1 : List O) (A2 : Option Addr) (n2 c2 : Nat) (x2 : List O) (A3 : Option Addr) (n3 c3 : Nat) (x3 : List O), v = .agg #[.int .i64 K, .slice A1 n1 c1, .slice A2 n2 c2, .slice A3 n3 c3] ∧ (Lit.int .i64 K).wf = true ∧
      (Lst kO w w.heap.size A1 n1 x1 ∧ n1 ≤ c1 ∧ c1 ≤ maxLen) ∧ (Lst kO w w.heap.size A2 n2 x2 ∧ n2 ≤ c2 ∧ c2 ≤ maxLen) ∧ (Lst kO w w.heap.size A3 n3 x3 ∧ n3 ≤ c3 ∧ c3 ≤ maxLen) := by
  obtain ⟨f0, f1, f2, f3, hu, ⟨o0, t0⟩, ⟨o1, t1⟩, ⟨o2, t2⟩, ⟨o3, t3⟩⟩ := prog_fields
  obtain ⟨cs, rfl, hsz⟩ := okWide_struct hu hval
  obtain ⟨fuel, hf⟩ := h
  simp only [Value.cells] at hf
  obtain ⟨xs, m, _, _, hl, hxl, hel⟩ := DataW.trod_struct hu hf
  have ci : Try.prog.cellsOf 3 = 1 := by kernel_rfl
  have cs1 : Try.prog.cellsOf 25 = 1 := by kernel_rfl
  have cc : Try.prog.cellsOf 27 = 4 := by kernel_rfl
  rw [cc] at hl
  have hx4 : xs.length = 4 := hxl
  have e0 := hel 0 f0 rfl
  have e1 := hel 1 f1 rfl
  have e2 := hel 2 f2 rfl
  have e3 := hel 3 f3 rfl
  rw [o0, t0, ci] at e0
  rw [o1, t1, cs1] at e1
  rw [o2, t2, cs1] at e2
  rw [o3, t3, cs1] at e3
  obtain ⟨z0, q0, w0⟩ := field_int (by omega) Try.underlying3 e0 (by simp [hx4])
  obtain ⟨A1, n1, c1, x1, q1, k1⟩ := field_ops (by omega) e1 (by simp [hx4])
  obtain ⟨A2, n2, c2, x2, q2, k2⟩ := field_ops (by omega) e2 (by simp [hx4])
  obtain ⟨A3, n3, c3, x3, q3, k3⟩ := field_ops (by omega) e3 (by simp [hx4])
  refine ⟨z0, A1, n1, c1, x1, A2, n2, c2, x2, A3, n3, c3, x3, ?_, w0, k1, k2, k3⟩
  congr 1
  apply Array.ext'
  apply List.ext_getElem?
  intro i
  match i with
  | 0 => exact q0
  | 1 => exact q1
  | 2 => exact q2
  | 3 => exact q3
  | i + 4 => rw [List.getElem?_eq_none (by omega), List.getElem?_eq_none (by simp)]
theorem pair_fields : ∃ f0 f1 : Field, Try.prog.underlying 40 = some (.struct #[f0, f1]) ∧ (f0.offset = 0 ∧ f0.type = 2) ∧ (f1.offset = 1 ∧ f1.type = 2) :=
  ⟨_, _, Try.underlying40, ⟨rfl, rfl⟩, ⟨rfl, rfl⟩⟩
theorem open_pair {r : Reach} {b0 : Nat} {v : Value} {d : DataW H} {p : List MemPlace} (hval : Value.okWide Try.prog w r b0 40 v) (h : DataW.Trod enc Try.prog w base (fun _ => true) held 40 v d p) :
    ∃ key val : Int, v = .agg #[.int .i64 key, .int .i64 val] ∧ (Lit.int .i64 key).wf = true ∧ (Lit.int .i64 val).wf = true := by
  obtain ⟨f0, f1, hu, ⟨o0, t0⟩, ⟨o1, t1⟩⟩ := pair_fields
  obtain ⟨cs, rfl, hsz⟩ := okWide_struct hu hval
  obtain ⟨fuel, hf⟩ := h
  simp only [Value.cells] at hf
  obtain ⟨xs, m, _, _, hl, hxl, hel⟩ := DataW.trod_struct hu hf
  have c6 : Try.prog.cellsOf 2 = 1 := by kernel_rfl
  have cc : Try.prog.cellsOf 40 = 2 := by kernel_rfl
  rw [cc] at hl
  have hx2 : xs.length = 2 := hxl
  have e0 := hel 0 f0 rfl
  have e1 := hel 1 f1 rfl
  rw [o0, t0, c6] at e0
  rw [o1, t1, c6] at e1
  obtain ⟨z0, q0, w0⟩ := field_int (by omega) Try.underlying2 e0 (by simp [hx2])
  obtain ⟨z1, q1, w1⟩ := field_int (by omega) Try.underlying2 e1 (by simp [hx2])
  refine ⟨z0, z1, ?_, w0, w1⟩
  congr 1
  apply Array.ext'
  apply List.ext_getElem?
  intro i
  match i with
  | 0 => exact q0
  | 1 => exact q1
  | i + 2 => rw [List.getElem?_eq_none (by omega), List.getElem?_eq_none (by simp)]
end
end Go.Proofs.Yteipkkakjgfchaa.Vm
namespace Go.Proofs.Yteipkkakjgfchaa.Os
open Go.RowKit Go.Shelf Mem Held Rc Sl Vm
theorem O_iff {a b : O} : a = b ↔ a.code = b.code ∧ a.d = b.d ∧ a.a = b.a ∧ a.b = b.b ∧ a.c = b.c ∧ a.n = b.n := ⟨fun e => by rw [e]; exact ⟨rfl, rfl, rfl, rfl, rfl, rfl⟩, fun h => O.ext' h.1 h.2.1 h.2.2.1 h.2.2.2.1 h.2.2.2.2.1 h.2.2.2.2.2⟩
theorem key_op (w : World) (a b : O) :
    (Op.equalIn 10000 24 (.agg #[.int .i64 a.code, .int .i64 a.d, .int .i64 a.a, .int .i64 a.b, .int .i64 a.c, .int .i64 a.n]) (.agg #[.int .i64 b.code, .int .i64 b.d, .int .i64 b.a, .int .i64 b.b, .int .i64 b.c, .int .i64 b.n])).run Try.prog w = .ok (decide (a.code = b.code ∧ a.d = b.d ∧ a.a = b.a ∧ a.b = b.b ∧ a.c = b.c ∧ a.n = b.n)) w := by
  have hu : Try.prog.underlying 24 = some (.struct (Try.prog.fieldsOf 24)) := by kernel_rfl
  have hp : Try.prog.stoodInHeld 24 = false := by kernel_rfl
  have ei : ∀ (d : Nat) (k : IntKind) (x y : Int), (Op.equalIn (d + 1) 2 (.int k x) (.int k y)).run Try.prog w = .ok (x == y) w := fun d k x y => run_equalIn_int w d 2 k .i64 x y Try.underlying2
  have ej : ∀ (d : Nat) (k : IntKind) (x y : Int), (Op.equalIn (d + 1) 3 (.int k x) (.int k y)).run Try.prog w = .ok (x == y) w := fun d k x y => run_equalIn_int w d 3 k .i64 x y Try.underlying3
  rw [show (10000 : Nat) = 9998 + 1 + 1 from rfl, run_equalIn_agg w (9998 + 1) _ _ _ hu hp]
  simp only [Program.fieldsOf, Try.underlying24, Op.eqFields, Go.part, isAgg, Sem.run_bind, run_underlying Try.underlying2, run_underlying Try.underlying3, Result.andThen_ok, Sem.run_pure, Sem.run_ite]
  simp [ei, ej]
  by_cases h0 : a.code = b.code <;> by_cases h1 : a.d = b.d <;> by_cases h2 : a.a = b.a <;> by_cases h3 : a.b = b.b <;> by_cases h4 : a.c = b.c <;> by_cases h5 : a.n = b.n <;> simp [h0, h1, h2, h3, h4, h5]
theorem eql_op (w : World) (a b : O) : (binOp .eql 24 (.agg #[.int .i64 a.code, .int .i64 a.d, .int .i64 a.a, .int .i64 a.b, .int .i64 a.c, .int .i64 a.n]) (.agg #[.int .i64 b.code, .int .i64 b.d, .int .i64 b.a, .int .i64 b.b, .int .i64 b.c, .int .i64 b.n])).run Try.prog w = .ok (.bool (decide (a.code = b.code ∧ a.d = b.d ∧ a.a = b.a ∧ a.b = b.b ∧ a.c = b.c ∧ a.n = b.n))) w := by
  rw [run_eql_struct, key_op]
  rfl
theorem neq_op (w : World) (a b : O) : (binOp .neq 24 (.agg #[.int .i64 a.code, .int .i64 a.d, .int .i64 a.a, .int .i64 a.b, .int .i64 a.c, .int .i64 a.n]) (.agg #[.int .i64 b.code, .int .i64 b.d, .int .i64 b.a, .int .i64 b.b, .int .i64 b.c, .int .i64 b.n])).run Try.prog w = .ok (.bool (!decide (a.code = b.code ∧ a.d = b.d ∧ a.a = b.a ∧ a.b = b.b ∧ a.c = b.c ∧ a.n = b.n))) w := by
  rw [run_neq_struct, key_op]
  rfl
section
variable {S : World → Prop} {ρ : Operand → Value} {o : Oper}
theorem y_eqo {ty : TypeId} {x y : Operand} {a b : O} {r : Bool} (ho : o.op = .binOp .eql 24 x y ty) (hx : ρ x = .agg #[.int .i64 a.code, .int .i64 a.d, .int .i64 a.a, .int .i64 a.b, .int .i64 a.c, .int .i64 a.n]) (hy : ρ y = .agg #[.int .i64 b.code, .int .i64 b.d, .int .i64 b.a, .int .i64 b.b, .int .i64 b.c, .int .i64 b.n])
    (hr : decide (a.code = b.code ∧ a.d = b.d ∧ a.a = b.a ∧ a.b = b.b ∧ a.c = b.c ∧ a.n = b.n) = r) : ∀ w, S w → (execOp ρ o).run Try.prog w = .ok (.value (.bool r)) w :=
  Held.y_bin ho hx hy (fun w => by simp [eqGuard, show Try.prog.eqGuardType Try.prog.depth 24 = false by kernel_rfl]) (fun w => by rw [← hr]; exact eql_op w a b)
theorem y_neo {ty : TypeId} {x y : Operand} {a b : O} {r : Bool} (ho : o.op = .binOp .neq 24 x y ty) (hx : ρ x = .agg #[.int .i64 a.code, .int .i64 a.d, .int .i64 a.a, .int .i64 a.b, .int .i64 a.c, .int .i64 a.n]) (hy : ρ y = .agg #[.int .i64 b.code, .int .i64 b.d, .int .i64 b.a, .int .i64 b.b, .int .i64 b.c, .int .i64 b.n])
    (hr : (!decide (a.code = b.code ∧ a.d = b.d ∧ a.a = b.a ∧ a.b = b.b ∧ a.c = b.c ∧ a.n = b.n)) = r) : ∀ w, S w → (execOp ρ o).run Try.prog w = .ok (.value (.bool r)) w :=
  Held.y_bin ho hx hy (fun w => by simp [eqGuard, show Try.prog.eqGuardType Try.prog.depth 24 = false by kernel_rfl]) (fun w => by rw [← hr]; exact neq_op w a b)
end
end Go.Proofs.Yteipkkakjgfchaa.Os
namespace Go.Proofs.Yteipkkakjgfchaa.Os
open Go.RowKit Go.Shelf Go.Proofs.Yteipkkakjgfchaa Mem Held Rc Rs Sl Vm
attribute [local irreducible] wpList wpListIn Calls
theorem eqo_any (a b : O) (w : World) : Calls Try.prog 29 #[.agg #[.int .i64 a.code, .int .i64 a.d, .int .i64 a.a, .int .i64 a.b, .int .i64 a.c, .int .i64 a.n], .agg #[.int .i64 b.code, .int .i64 b.d, .int .i64 b.a, .int .i64 b.b, .int .i64 b.c, .int .i64 b.n]] w fun e w' => e = .returned (.bool (decide (a = b))) ∧ Below w.heap.size w w' := by
  have HR := Lib.hid (show decide (a.code = b.code ∧ a.d = b.d ∧ a.a = b.a ∧ a.b = b.b ∧ a.c = b.c ∧ a.n = b.n) = decide (a = b) from decide_eq_decide.2 O_iff.symm)
  go_enter Try.func29, Try.ntmps29
  go_wp2_with (first
    | (refine wpList_box_blk (w := w) rfl 24 _ rfl _ rfl ?_; intro w1 q1 g1 z1)
    | (refine wpList_box_blk (w := w1) rfl 24 _ rfl _ rfl ?_; intro w2 q2 g2 z2; have q1 := q1.grown g2 (by simp))
    | (refine wpList_load_blk (w := w2) rfl 24 _ rfl w.heap.size 6 rfl 24 _ q1 _ Try.underlying24 rfl (by kernel_rfl) rfl ?_)
    | (refine wpList_load_blk (w := w2) rfl 24 _ rfl w1.heap.size 6 rfl 24 _ q2 _ Try.underlying24 rfl (by kernel_rfl) rfl ?_)
    | (refine wpList_run rfl (v := .bool (decide (a = b))) (y_eqo (S := fun _ => True) rfl rfl rfl HR.out _ trivial) ?_))
  go_ret
  exact ⟨rfl, ((Below.refl _ w).grown g1 (Nat.le_refl _) (by simp)).grown g2 g1.size (by simp)⟩
theorem take_stepO {xs ys : List O} {k : Nat} (hx : k < xs.length) (hy : k < ys.length) (h : xs.take k = ys.take k) (e : xs.getD k O0 = ys.getD k O0) : xs.take (k + 1) = ys.take (k + 1) := by
  rw [List.take_add_one, List.take_add_one, h]
  simp only [List.getD_eq_getElem?_getD, List.getElem?_eq_getElem hx, List.getElem?_eq_getElem hy, Option.getD_some] at e
  rw [List.getElem?_eq_getElem hx, List.getElem?_eq_getElem hy, e]
set_option maxRecDepth 100000 in
set_option maxHeartbeats 4000000 in
theorem same_any (B B' : Nat) (A A' : Option Addr) (n n' c c' : Nat) (rs rs' : List O) (w : World) (h : Lst kO w B A n rs) (h' : Lst kO w B' A' n' rs') (hB : B ≤ w.heap.size) (hB' : B' ≤ w.heap.size) (hn : n ≤ 1073741824) (hn' : n' ≤ 1073741824) :
    Calls Try.prog 28 #[.slice A n c, .slice A' n' c', .func (.func 29) #[] #[]] w fun e w' => e = .returned (.bool (decide (rs = rs'))) ∧ Below w.heap.size w w' := by
  by_cases hnn : n = n'
  · subst hnn
    have hne : ((n : Int) != (n : Int)) = false := by simp
    have HL := Lib.hid h.1
    have HL' := Lib.hid h'.1
    go_enter Try.func28, Try.ntmps28
    go_wp2_with fail
    go_loopw [7] (fun i wr => ∃ k : Nat, k ≤ n ∧ i = .int .i64 k ∧ Below w.heap.size w wr ∧ Hid (rs.take k = rs'.take k)) (fun i _ => n - (intOf i).toNat)
    case atStart => exact ⟨0, by omega, rfl, Below.refl _ _, Lib.hid rfl⟩
    case round =>
      obtain ⟨k, hk, rfl, hst, ht⟩ := hrel
      have hBk := Nat.le_trans hB hst.size
      have hBk' := Nat.le_trans hB' hst.size
      by_cases hlt : k < n
      · obtain ⟨b, off, rfl, hb, hx⟩ := (h.below (hst.mono hB)).at_ hlt
        have hx : wr.rangeAt b (off + k * 6) (rs.getD k O0).cells := hx
        obtain ⟨b', off', rfl, hb', hy⟩ := (h'.below (hst.mono hB')).at_ hlt
        have hy : wr.rangeAt b' (off' + k * 6) (rs'.getD k O0).cells := hy
        have hlt' : (k : Int) < (n : Int) := by omega
        have hk0 : (0 : Int) ≤ (k : Int) := by omega
        by_cases hq0 : rs.getD k O0 = rs'.getD k O0
        · have HT := Lib.hid (take_stepO (by have := HL.out; omega) (by have := HL'.out; omega) ht.out hq0)
          have hq : decide (rs.getD k O0 = rs'.getD k O0) = true := by simpa using hq0
          clear hq0
          generalize rs.getD k O0 = x at hx hq
          generalize rs'.getD k O0 = y at hy hq
          go_wp2_with fail
          refine wp_region_held (S := fun W => Below wr.heap.size wr W) (by kernel_rfl) ?_
          change wpAnyH _ _ _ _ _ _ _ _ wr.drew
          have c0_0 := (Below.refl wr.heap.size wr).drew
          refine Held.tk (v := .func (.func 29) #[] #[]) 0 (some 19) rfl (Held.y_move rfl rfl) c0_0 ?_
          simp only [Act.put, Z1, Z2, Z3]
          refine Held.tk (v := .slice (some ⟨b, off, none⟩) n c) 1 (some 20) rfl (Held.y_move rfl rfl) c0_0 ?_
          simp only [Act.put, Z1, Z2, Z3]
          refine Held.tk (v := .int .i64 (k : Int)) 2 (some 21) rfl (Held.y_move rfl rfl) c0_0 ?_
          simp only [Act.put, Z1, Z2, Z3]
          refine Held.tk (v := .pointer (some ⟨b, off + k * 6, none⟩)) 3 (some 22) rfl (Held.y_addr rfl rfl rfl (run_addr_of 25 24 b off n c k 6 .i64 Try.underlying25 (by kernel_rfl) hlt)) c0_0 ?_
          simp only [Act.put, Z1, Z2, Z3]
          refine Held.tk (v := .agg #[.int .i64 x.code, .int .i64 x.d, .int .i64 x.a, .int .i64 x.b, .int .i64 x.c, .int .i64 x.n]) 4 (some 23) rfl (y_load_range (n := 6) (cs := x.cells) rfl rfl Try.underlying24 rfl (by kernel_rfl) rfl (fun W hW => range_below hx hW (Nat.lt_of_lt_of_le hb hBk))) c0_0 ?_
          simp only [Act.put, Z1, Z2, Z3]
          refine Held.tk (v := .slice (some ⟨b', off', none⟩) n c') 5 (some 24) rfl (Held.y_move rfl rfl) c0_0 ?_
          simp only [Act.put, Z1, Z2, Z3]
          refine Held.tk (v := .int .i64 (k : Int)) 6 (some 25) rfl (Held.y_move rfl rfl) c0_0 ?_
          simp only [Act.put, Z1, Z2, Z3]
          refine Held.tk (v := .pointer (some ⟨b', off' + k * 6, none⟩)) 7 (some 26) rfl (Held.y_addr rfl rfl rfl (run_addr_of 25 24 b' off' n c' k 6 .i64 Try.underlying25 (by kernel_rfl) hlt)) c0_0 ?_
          simp only [Act.put, Z1, Z2, Z3]
          refine Held.tk (v := .agg #[.int .i64 y.code, .int .i64 y.d, .int .i64 y.a, .int .i64 y.b, .int .i64 y.c, .int .i64 y.n]) 8 (some 27) rfl (y_load_range (n := 6) (cs := y.cells) rfl rfl Try.underlying24 rfl (by kernel_rfl) rfl (fun W hW => range_below hy hW (Nat.lt_of_lt_of_le hb' hBk'))) c0_0 ?_
          simp only [Act.put, Z1, Z2, Z3]
          refine Held.one 9 (by kernel_rfl) ?_
          refine Rs.op_callv 9 (some 28) 29 #[] #[.agg #[.int .i64 x.code, .int .i64 x.d, .int .i64 x.a, .int .i64 x.b, .int .i64 x.c, .int .i64 x.n], .agg #[.int .i64 y.code, .int .i64 y.d, .int .i64 y.a, .int .i64 y.b, .int .i64 y.c, .int .i64 y.n]] rfl rfl rfl rfl rfl (enters_of Try.func29 (by kernel_rfl) rfl) (by simp [Act.eval])
            (by have := eqo_any x y wr.drew; rwa [hq] at this) ?_
          rintro e w1 ⟨rfl, b1⟩
          have c0_1 := c0_0.trans (b1.mono c0_0.size)
          refine ⟨_, rfl, c0_1, ?_⟩
          simp only [Act.put, Z1, Z2, Z3]
          refine Held.tk (v := .bool false) 10 (some 29) rfl (Held.y_not rfl rfl rfl) c0_1 ?_
          simp only [Act.put, Z1, Z2, Z3]
          refine wpAnyH_done (by kernel_rfl) ?_ _
          have dz := hst.trans (c0_1.mono hst.size)
          generalize w1 = wz at dz ⊢
          clear hx hy c0_1
          go_wp2_with fail
          go_roundw
          case rel => exact ⟨k + 1, by omega, by go_num, dz, HT⟩
          case measure => simp [intOf]; omega
        · have HF := Lib.hid (show decide (rs = rs') = false by
            rw [decide_eq_false_iff_not]; intro e; exact hq0 (by rw [e]))
          have hq : decide (rs.getD k O0 = rs'.getD k O0) = false := by simpa using hq0
          clear hq0
          generalize rs.getD k O0 = x at hx hq
          generalize rs'.getD k O0 = y at hy hq
          go_wp2_with fail
          refine wp_region_held (S := fun W => Below wr.heap.size wr W) (by kernel_rfl) ?_
          change wpAnyH _ _ _ _ _ _ _ _ wr.drew
          have c0_0 := (Below.refl wr.heap.size wr).drew
          refine Held.tk (v := .func (.func 29) #[] #[]) 0 (some 19) rfl (Held.y_move rfl rfl) c0_0 ?_
          simp only [Act.put, Z1, Z2, Z3]
          refine Held.tk (v := .slice (some ⟨b, off, none⟩) n c) 1 (some 20) rfl (Held.y_move rfl rfl) c0_0 ?_
          simp only [Act.put, Z1, Z2, Z3]
          refine Held.tk (v := .int .i64 (k : Int)) 2 (some 21) rfl (Held.y_move rfl rfl) c0_0 ?_
          simp only [Act.put, Z1, Z2, Z3]
          refine Held.tk (v := .pointer (some ⟨b, off + k * 6, none⟩)) 3 (some 22) rfl (Held.y_addr rfl rfl rfl (run_addr_of 25 24 b off n c k 6 .i64 Try.underlying25 (by kernel_rfl) hlt)) c0_0 ?_
          simp only [Act.put, Z1, Z2, Z3]
          refine Held.tk (v := .agg #[.int .i64 x.code, .int .i64 x.d, .int .i64 x.a, .int .i64 x.b, .int .i64 x.c, .int .i64 x.n]) 4 (some 23) rfl (y_load_range (n := 6) (cs := x.cells) rfl rfl Try.underlying24 rfl (by kernel_rfl) rfl (fun W hW => range_below hx hW (Nat.lt_of_lt_of_le hb hBk))) c0_0 ?_
          simp only [Act.put, Z1, Z2, Z3]
          refine Held.tk (v := .slice (some ⟨b', off', none⟩) n c') 5 (some 24) rfl (Held.y_move rfl rfl) c0_0 ?_
          simp only [Act.put, Z1, Z2, Z3]
          refine Held.tk (v := .int .i64 (k : Int)) 6 (some 25) rfl (Held.y_move rfl rfl) c0_0 ?_
          simp only [Act.put, Z1, Z2, Z3]
          refine Held.tk (v := .pointer (some ⟨b', off' + k * 6, none⟩)) 7 (some 26) rfl (Held.y_addr rfl rfl rfl (run_addr_of 25 24 b' off' n c' k 6 .i64 Try.underlying25 (by kernel_rfl) hlt)) c0_0 ?_
          simp only [Act.put, Z1, Z2, Z3]
          refine Held.tk (v := .agg #[.int .i64 y.code, .int .i64 y.d, .int .i64 y.a, .int .i64 y.b, .int .i64 y.c, .int .i64 y.n]) 8 (some 27) rfl (y_load_range (n := 6) (cs := y.cells) rfl rfl Try.underlying24 rfl (by kernel_rfl) rfl (fun W hW => range_below hy hW (Nat.lt_of_lt_of_le hb' hBk'))) c0_0 ?_
          simp only [Act.put, Z1, Z2, Z3]
          refine Held.one 9 (by kernel_rfl) ?_
          refine Rs.op_callv 9 (some 28) 29 #[] #[.agg #[.int .i64 x.code, .int .i64 x.d, .int .i64 x.a, .int .i64 x.b, .int .i64 x.c, .int .i64 x.n], .agg #[.int .i64 y.code, .int .i64 y.d, .int .i64 y.a, .int .i64 y.b, .int .i64 y.c, .int .i64 y.n]] rfl rfl rfl rfl rfl (enters_of Try.func29 (by kernel_rfl) rfl) (by simp [Act.eval])
            (by have := eqo_any x y wr.drew; rwa [hq] at this) ?_
          rintro e w1 ⟨rfl, b1⟩
          have c0_1 := c0_0.trans (b1.mono c0_0.size)
          refine ⟨_, rfl, c0_1, ?_⟩
          simp only [Act.put, Z1, Z2, Z3]
          refine Held.tk (v := .bool true) 10 (some 29) rfl (Held.y_not rfl rfl rfl) c0_1 ?_
          simp only [Act.put, Z1, Z2, Z3]
          refine wpAnyH_done (by kernel_rfl) ?_ _
          have dz := hst.trans (c0_1.mono hst.size)
          generalize w1 = wz at dz ⊢
          clear hx hy c0_1
          go_wp2_with fail
          go_ret
          exact ⟨Mem.ret_bool HF.out.symm, dz⟩
      · have HF := Lib.hid (show decide (rs = rs') = true by
          have e1 := ht.out
          rw [List.take_of_length_le (by have := HL.out; omega), List.take_of_length_le (by have := HL'.out; omega)] at e1
          simpa using e1)
        go_wp2_with fail
        go_ret
        exact ⟨Mem.ret_bool HF.out.symm, hst⟩
  · have hne : ((n : Int) != (n' : Int)) = true := by simp; omega
    have HF := Lib.hid (show decide (rs = rs') = false by
      rw [decide_eq_false_iff_not]; intro e; exact hnn (by rw [← h.1, ← h'.1, e]))
    clear h h' hnn
    go_enter Try.func28, Try.ntmps28
    go_wp2_with fail
    go_ret
    exact ⟨Mem.ret_bool HF.out.symm, Below.refl _ _⟩
theorem plain_any (B B' : Nat) (A A' : Option Addr) (n n' c c' : Nat) (rs rs' : List O) (w : World) (h : Lst kO w B A n rs) (h' : Lst kO w B' A' n' rs') (hB : B ≤ w.heap.size) (hB' : B' ≤ w.heap.size) (hn : n ≤ 1073741824) (hn' : n' ≤ 1073741824) :
    Calls Try.prog 22 #[.slice A n c, .slice A' n' c'] w fun e w' => e = .returned (.bool (decide (rs = rs'))) ∧ Below w.heap.size w w' := by
  go_enter Try.func22, Try.ntmps22
  go_wp2_with fail
  refine (same_any B B' A A' n n' c c' rs rs' w h h' hB hB' hn hn').mono ?_
  rintro e w' ⟨rfl, hst⟩
  go_wp2_with fail
  go_ret
  exact ⟨rfl, hst⟩
end Go.Proofs.Yteipkkakjgfchaa.Os
namespace Go.Proofs.Yteipkkakjgfchaa.Sl
open Go.RowKit Go.Shelf Mem Held
section
variable {α : Type} {k : St α}
theorem run_append_lst_fits {P : Program} (ts e : TypeId) (hu : P.underlying ts = some (.slice e)) (ie : TypeInfo) (hie : P.info? e = some ie) (hsz : ie.size = k.s) {ty : TypeId} (w : World) (base g cap B m c : Nat) (A : Option Addr) (rs0 rs : List α) (hown : w.ownsRow base e k.s (.slice (some ⟨g, 0, none⟩) rs0.length cap) rs0.length (flat k rs0)) (h : Lst k w B A m rs) (hfit : rs0.length + m ≤ cap) :
    ∃ w', (Builtin.append_ #[ts, ts] ty #[.slice (some ⟨g, 0, none⟩) rs0.length cap, .slice A m c]).run P w = .ok (.slice (some ⟨g, 0, none⟩) (rs0.length + m) cap) w' ∧ w'.ownsRow base e k.s (.slice (some ⟨g, 0, none⟩) (rs0.length + m) cap) (rs0.length + m) (flat k (rs0 ++ rs)) ∧ w.grownBy w' (some g) := by
  cases A with
  | none =>
    have hm : m = 0 := by
      rcases Nat.eq_zero_or_pos m with h0 | h0
      · exact h0
      · obtain ⟨_, _, e, _⟩ := h.2.2 h0
        cases e
    subst hm
    have e : rs = [] := List.eq_nil_of_length_eq_zero h.1
    subst e
    refine ⟨w, ?_, by simpa using hown, World.grownBy.refl w _⟩
    simp [Builtin.append_, run_underlying hu, sizeOf, typeInfo, hie, Builtin.lenOf, Builtin.firstCells, show rs0.length ≤ cap by omega, storeCells]
  | some ad =>
    have hcells : ∀ j u, (flat k rs)[j]? = some u → w.cell? (ad.add j) = some u := fun j u hu => by
      have hj := (List.getElem?_eq_some_iff.1 hu).1
      have hm0 : 0 < m := by
        rcases Nat.eq_zero_or_pos m with h0 | h0
        · have : rs = [] := List.eq_nil_of_length_eq_zero (by rw [h.1, h0])
          rw [this] at hj
          simp [flat] at hj
        · exact h0
      obtain ⟨b, off, e, _, hc⟩ := h.2.2 hm0
      injection e with e
      subst e
      rw [show (Addr.mk b off none).add j = ⟨b, off + j, none⟩ by (unfold Addr.add; split <;> simp_all)]
      exact hc j u hu
    obtain ⟨w', h1, h2, h3⟩ := run_append_fits (P := P) w base ts ty e ie k.s hu hie hsz g rs0.length cap (flat k rs0) hown ad m c (flat k rs) (by rw [flat_length, h.1]) hcells (flat_cell rs) hfit
    exact ⟨w', h1, by rw [flat_append]; exact h2, h3⟩
theorem fill_of_ownL {w : World} {base g n cap : Nat} {t : TypeId} {cs M : List Value} (h : w.ownsRow base t k.s (.slice (some ⟨g, 0, none⟩) n cap) n cs) (hM : M.take (n * k.s) = cs) : Fill w g t (cap * k.s) M (n * k.s) := by
  rcases h.2 with ⟨e, _⟩ | ⟨g', cap', cur, e, hb, hg, hnc, hcm, hcs, ht⟩
  · cases e
  · injection e with e1 e2 e3
    injection e1 with e1
    injection e1 with e1
    subst e1
    subst e3
    exact ⟨cur, hg, hcs, by rw [hM, ht]⟩
theorem fill_cells {g : Nat} {t : TypeId} {cap : Nat} {L : List Value} : ∀ (vs : List Value) (q : Nat) (w : World), Fill w g t cap L q → (∀ j v, vs[j]? = some v → L[q + j]? = some v) → q + vs.length ≤ cap → Fill (w.setCells g q vs) g t cap L (q + vs.length)
  | [], q, w, h, _, _ => h
  | v :: r, q, w, h, hv, hc => by
    have h1 := h.step (u := v) (hv 0 v rfl) (by simp at hc; omega)
    have h2 := fill_cells r (q + 1) (w.setCell ⟨g, q, none⟩ v) h1 (fun j u hu => by
      have := hv (j + 1) u (by simpa using hu)
      rwa [show q + 1 + j = q + (j + 1) by omega]) (by simp at hc; omega)
    rw [show q + (v :: r).length = q + 1 + r.length by simp; omega]
    exact h2
end
section
variable {α : Type} {k : St α} {P : Program} {ops : Array Oper} {rest : List Oper} {o : Oper} {a : Act} {w : World} {Q : Exit → Act → World → Prop}
theorem wpList_store_fill (hgd : o.guard = none) (ty : TypeId) (x y : Operand) (ho : o.op = .store ty x y) (hsz : (P.info? ty).map (·.size) = some k.s) (g off j cap : Nat) (t : TypeId) (rs : List α) (f : α) (hoff : off = j * k.s) (hx : a.eval x = .pointer (some ⟨g, off, none⟩)) (hy : a.eval y = .agg (k.cells f).toArray)
    (hfl : Fill w g t cap (flat k rs) (j * k.s)) (hj : j < rs.length) (hf : rs.getD j k.d = f) (hc : j * k.s + k.s ≤ cap)
    (h : ∀ w', Fill w' g t cap (flat k rs) ((j + 1) * k.s) → w.grownBy w' (some g) → wpList P ops Q rest (a.put o.dst undef) w') : wpList P ops Q (o :: rest) a w := by
  subst hoff
  have hth : w.there g (j * k.s) (k.cells f).toArray.size := fun i hi => by
    have hi' : i < k.s := by rw [List.size_toArray, k.len] at hi; exact hi
    obtain ⟨u, hu⟩ := hfl.cell (i := j * k.s + i) (by omega)
    exact ⟨by rw [hu]; rfl, hfl.frozen _⟩
  refine wpList_store_mid hgd ty x y ho g (j * k.s) (k.cells f).toArray hx hy hth (by rw [hsz, List.size_toArray, k.len]) (all_oneCell_toArray (k.one f)) (h _ ?_ (grown_setCells _ _ _ _))
  have e := fill_cells (k.cells f) (j * k.s) w hfl (fun i v hv => by
    have hi' : i < k.s := by have := (List.getElem?_eq_some_iff.1 hv).1; rwa [k.len] at this
    rw [flat_at rs j i hi' hj, hf]
    exact hv) (by rw [k.len]; exact hc)
  rw [k.len] at e
  rw [Nat.add_mul, Nat.one_mul]
  exact e
end
end Go.Proofs.Yteipkkakjgfchaa.Sl
namespace Go.Proofs.Yteipkkakjgfchaa.Os
open Go.RowKit Go.Shelf Go.Proofs.Yteipkkakjgfchaa Mem Held Rc Rs Sl Vm
attribute [local irreducible] wpList wpListIn Calls
set_option maxRecDepth 100000 in
set_option maxHeartbeats 4000000 in
theorem own_any (B : Nat) (A : Option Addr) (n c : Nat) (rs : List O) (f : O) (w : World) (h : Lst kO w B A n rs) (hB : B ≤ w.heap.size) (hn : n ≤ 1048576) :
    Calls Try.prog 15 #[.slice A n c, .agg #[.int .i64 f.code, .int .i64 f.d, .int .i64 f.a, .int .i64 f.b, .int .i64 f.c, .int .i64 f.n]] w fun e w' => ∃ g, e = .returned (.slice (some ⟨g, 0, none⟩) n (n + 3)) ∧ w.heap.size ≤ g ∧ Blk w' g 24 (Sl.flat kO (rs ++ [f, f, f])).toArray ∧ Below w.heap.size w w' := by
  obtain ⟨ie, hie, hsb⟩ := Option.map_eq_some_iff.1 info_op
  simp only [Prod.mk.injEq] at hsb
  obtain ⟨hz0, hsz, hby⟩ := hsb
  obtain ⟨zr, hz⟩ : ∃ z, ie.zero = some z := by
    have := zero_op
    rw [hie] at this
    exact ⟨_, this⟩
  have HL := Lib.hid h.1
  go_enter Try.func15, Try.ntmps15
  go_wp2_with (first
    | (refine wpList_box_blk (w := w) rfl 24 _ rfl _ rfl ?_; intro w1 q1 g1 z1)
    | (at_make; refine wpList_make_own w1 rfl _ _ 25 rfl w1.heap.size 24 ie zr 6 Try.underlying25 hie hz hsz .i64 .i64 _ (n + 3) rfl rfl (by simp) (by rw [hby]; omega) (by unfold maxLen; omega) (Nat.le_refl _) ?_; intro w2 o2 g2; have b1 : Below w.heap.size w w1 := (Below.refl _ w).grown g1 (Nat.le_refl _) (by simp); have b2 := b1.grown g2 b1.size (by simp); obtain ⟨w3, hrun, o3, g3⟩ := run_append_lst_fits (k := kO) (P := Try.prog) 25 24 Try.underlying25 ie hie hsz w2 w1.heap.size w1.heap.size (n + 3) B n c A [] rs o2 (h.below (b2.mono hB)) (by simp); simp only [List.length_nil, Nat.zero_add, List.nil_append] at hrun o3)
    | (at_builtin; refine Rs.wpList_append_ran (w := w2) rfl _ _ 25 25 rfl _ _ _ w3 rfl rfl hrun ?_))
  have hsw : w.heap.size ≤ w1.heap.size := g1.size
  have l1 := q1.lt
  have q3 := (q1.grown g2 (by simp)).grown g3 (by intro e; injection e with e; omega)
  have b3 := b2.grown g3 b2.size (fun r e => by cases e; exact hsw)
  have hfill := fill_of_ownL (k := kO) (M := Sl.flat kO (rs ++ [f, f, f])) o3 (by rw [Sl.flat_append, List.take_left' (by rw [Sl.flat_length, HL.out])])
  clear o2 o3 g1 g2 g3 hrun q1 b1 b2 z1
  have HN := Lib.hid (show ∀ k, n ≤ k → k < n + 3 → (rs ++ [f, f, f]).getD k O0 = f from fun k h1 h2 => by
    have hz := HL.out
    rw [List.getD_eq_getElem?_getD, List.getElem?_append_right (by omega), hz]
    have : k - n = 0 ∨ k - n = 1 ∨ k - n = 2 := by omega
    rcases this with e | e | e <;> rw [e] <;> rfl)
  have HLEN := Lib.hid (show (rs ++ [f, f, f]).length = n + 3 by have := HL.out; simp; omega)
  go_loopw [7] (fun i wr => ∃ k : Nat, n ≤ k ∧ k ≤ n + 3 ∧ i = .int .i64 k ∧ Below w.heap.size w wr ∧ Blk wr w.heap.size 24 #[.int .i64 f.code, .int .i64 f.d, .int .i64 f.a, .int .i64 f.b, .int .i64 f.c, .int .i64 f.n] ∧ Fill wr w1.heap.size 24 ((n + 3) * 6) (Sl.flat kO (rs ++ [f, f, f])) (k * 6)) (fun i _ => n + 3 - (intOf i).toNat)
  case atStart => exact ⟨n, by omega, by omega, rfl, b3, q3, hfill⟩
  case round =>
    clear b3 q3 hfill
    obtain ⟨k, hk0, hk, rfl, hbl, q3, hfl⟩ := hrel
    by_cases hlt : k < n + 3
    · have HK := Lib.hid (show k < (rs ++ [f, f, f]).length by rw [HLEN.out]; exact hlt)
      have HG := Lib.hid (HN.out k hk0 hlt)
      have hlt' : (k : Int) < (n : Int) + 3 := by omega
      have hk1 : (0 : Int) ≤ (k : Int) := by omega
      go_wp2_with (first
        | (refine wpList_load_blk (w := wr) rfl 24 _ rfl w.heap.size 6 rfl 24 _ q3 _ Try.underlying24 rfl (by kernel_rfl) rfl ?_)
        | (refine wpList_run (w := wr) rfl (v := .pointer (some ⟨w1.heap.size, k * 6, none⟩)) (Held.y_addr (S := fun _ => True) rfl rfl rfl (by have := run_addr_of (P := Try.prog) 25 24 w1.heap.size 0 (n + 3) (n + 3) k 6 .i64 Try.underlying25 (by kernel_rfl) hlt; rwa [Nat.zero_add] at this) _ trivial) ?_)
        | (refine wpList_store_fill (k := kO) (w := wr) rfl 24 _ _ rfl size_op w1.heap.size (k * 6) k ((n + 3) * 6) _ _ f rfl rfl rfl hfl HK.out HG.out (by show k * 6 + 6 ≤ _; omega) ?_; intro w5 HF g5))
      have HB := hbl.grown g5 hbl.size (fun r e => by cases e; exact hsw)
      have HQ := q3.grown g5 (by intro e; injection e with e; omega)
      clear g5
      go_roundw
      case rel => exact ⟨k + 1, by omega, by omega, by go_num, HB, HQ, HF⟩
      case measure => simp [intOf]; omega
    · have HD := Lib.hid (hfl.done (by omega) (by rw [Sl.flat_length, HLEN.out]; rfl))
      go_wp2_with fail
      go_ret
      exact ⟨w1.heap.size, rfl, hsw, HD.out, hbl⟩
set_option maxRecDepth 100000 in
set_option maxHeartbeats 4000000 in
theorem kept_any (B : Nat) (A : Option Addr) (n c g : Nat) (rs : List O) (f : O) (w : World) (h : Lst kO w B A n rs) (hB : B ≤ w.heap.size) (hn : n ≤ 1048576) (hr : Blk w g 24 (Sl.flat kO (rs ++ [f, f, f])).toArray) :
    Calls Try.prog 16 #[.slice (some ⟨g, 0, none⟩) n (n + 3), .slice A n c, .agg #[.int .i64 f.code, .int .i64 f.d, .int .i64 f.a, .int .i64 f.b, .int .i64 f.c, .int .i64 f.n]] w fun e w' => e = .returned (.bool true) ∧ Below w.heap.size w w' := by
  have HL := Lib.hid h.1
  have HN := Lib.hid (show ∀ k, n ≤ k → k < n + 3 → (rs ++ [f, f, f]).getD k O0 = f from fun k h1 h2 => by
    have hz := HL.out
    rw [List.getD_eq_getElem?_getD, List.getElem?_append_right (by omega), hz]
    have : k - n = 0 ∨ k - n = 1 ∨ k - n = 2 := by omega
    rcases this with e | e | e <;> rw [e] <;> rfl)
  have HLEN := Lib.hid (show (rs ++ [f, f, f]).length = n + 3 by have := HL.out; simp; omega)
  go_enter Try.func16, Try.ntmps16
  go_wp2_with (refine wpList_box_blk (w := w) rfl 24 _ rfl _ rfl ?_; intro w1 q1 g1 z1)
  have b1 : Below w.heap.size w w1 := (Below.refl _ w).grown g1 (Nat.le_refl _) (by simp)
  have hgw := hr.lt
  have hr := hr.grown g1 (by simp)
  have h1 := h.below (b1.mono hB)
  have hi := lst_of_blk hr h.2.1
  rw [h.1] at hi
  clear g1 z1
  refine (plain_any w1.heap.size w1.heap.size (some ⟨g, 0, none⟩) A n n (n + 3) c rs rs w1 hi (h1.more (Nat.le_trans hB b1.size)) (Nat.le_refl _) (Nat.le_refl _) (by omega) (by omega)).mono ?_
  rintro e w2 ⟨rfl, b2⟩
  have hr := hr.after b2
  have q1 := q1.after b2
  have b2 := b1.trans (b2.mono b1.size)
  have ht : decide (rs = rs) = true := by simp
  rw [ht]
  clear b1 hi h1 ht
  go_wp2_with fail
  go_loopw [8] (fun i wr => ∃ k : Nat, n ≤ k ∧ k ≤ n + 3 ∧ i = .int .i64 k ∧ Blk wr g 24 (Sl.flat kO (rs ++ [f, f, f])).toArray ∧ Blk wr w.heap.size 24 #[.int .i64 f.code, .int .i64 f.d, .int .i64 f.a, .int .i64 f.b, .int .i64 f.c, .int .i64 f.n] ∧ Below w.heap.size w wr) (fun i _ => n + 3 - (intOf i).toNat)
  case atStart => exact ⟨n, by omega, by omega, rfl, hr, q1, b2⟩
  case round =>
    clear hr q1 b2
    obtain ⟨k, hk0, hk, rfl, hr, q1, hst⟩ := hrel
    by_cases hlt : k < n + 3
    · have hrg : wr.rangeAt g (0 + k * 6) f.cells := fun j v hv => by
        have hj : j < 6 := by have := (List.getElem?_eq_some_iff.1 hv).1; simpa [O.cells] using this
        rw [Nat.zero_add]
        refine hr.cell ?_
        have e6 := Sl.flat_at (k := kO) (rs ++ [f, f, f]) k j hj (by rw [HLEN.out]; exact hlt)
        rw [show (rs ++ [f, f, f]).getD k kO.d = f from HN.out k hk0 hlt] at e6
        rw [List.getElem?_toArray]
        exact e6.trans hv
      have hlt' : (k : Int) < (n : Int) + 3 := by omega
      have hk1 : (0 : Int) ≤ (k : Int) := by omega
      go_wp2_with fail
      refine wp_region_held (S := fun W => Below wr.heap.size wr W) (by kernel_rfl) ?_
      change wpAnyH _ _ _ _ _ _ _ _ wr.drew
      have c0_0 := (Below.refl wr.heap.size wr).drew
      refine Held.tk (v := .slice (some ⟨g, 0, none⟩) (n + 3) (n + 3)) 0 (some 34) rfl (Held.y_move rfl rfl) c0_0 ?_
      simp only [Act.put, Z1, Z2, Z3]
      refine Held.tk (v := .int .i64 (k : Int)) 1 (some 35) rfl (Held.y_move rfl rfl) c0_0 ?_
      simp only [Act.put, Z1, Z2, Z3]
      refine Held.tk (v := .pointer (some ⟨g, 0 + k * 6, none⟩)) 2 (some 36) rfl (Held.y_addr rfl rfl rfl (run_addr_of 25 24 g 0 (n + 3) (n + 3) k 6 .i64 Try.underlying25 (by kernel_rfl) hlt)) c0_0 ?_
      simp only [Act.put, Z1, Z2, Z3]
      refine Held.tk (v := .agg #[.int .i64 f.code, .int .i64 f.d, .int .i64 f.a, .int .i64 f.b, .int .i64 f.c, .int .i64 f.n]) 3 (some 37) rfl (y_load_range (n := 6) (cs := f.cells) rfl rfl Try.underlying24 rfl (by kernel_rfl) rfl (fun W hW => range_below hrg hW hr.lt)) c0_0 ?_
      simp only [Act.put, Z1, Z2, Z3]
      refine Held.tk (v := .agg #[.int .i64 f.code, .int .i64 f.d, .int .i64 f.a, .int .i64 f.b, .int .i64 f.c, .int .i64 f.n]) 4 (some 38) rfl (Held.y_load_blk (n := 6) rfl rfl Try.underlying24 rfl (by kernel_rfl) rfl (fun W hW => q1.below hW q1.lt)) c0_0 ?_
      simp only [Act.put, Z1, Z2, Z3]
      refine Held.tk (v := .bool false) 5 (some 39) rfl (y_neo (a := f) (b := f) rfl rfl rfl (by simp)) c0_0 ?_
      simp only [Act.put, Z1, Z2, Z3]
      refine wpAnyH_done (by kernel_rfl) ?_ _
      have hr := hr.after c0_0
      have q1 := q1.after c0_0
      have dz := hst.trans (c0_0.mono hst.size)
      generalize wr.drew = wz at hr q1 dz ⊢
      clear c0_0 hrg
      go_wp2_with fail
      go_roundw
      case rel => exact ⟨k + 1, by omega, by omega, by go_num, hr, q1, dz⟩
      case measure => simp [intOf]; omega
    · go_wp2_with fail
      go_ret
      exact ⟨rfl, hst⟩
end Go.Proofs.Yteipkkakjgfchaa.Os
