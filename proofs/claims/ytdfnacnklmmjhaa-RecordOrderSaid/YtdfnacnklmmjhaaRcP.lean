/-
  What the frame of a proof says of a record that came in by value; two records, two arrays of numbers held against each other. No conditions beyond those stated.
-/
import Derived.Test.YtdfnacnklmmjhaaRc1
import Derived.Test.YtdfnacnklmmjhaaEq
import Derived.WideShapes
import Derived.ChangeArms
import Derived.Laws.StructEq
namespace Go.Proofs.Ytdfnacnklmmjhaa.Rc
open Go.RowKit Go.ChangeShapes Go.WideShapes Go.Proofs.Ytdfnacnklmmjhaa.Mem
set_option linter.unusedVariables false

theorem rec_fields : ∃ f0 f1 f2 f3 : Field, Try.prog.underlying 23 = some (.struct #[f0, f1, f2, f3]) ∧ (f0.offset = 0 ∧ f0.type = 4) ∧ (f1.offset = 1 ∧ f1.type = 2) ∧ (f2.offset = 2 ∧ f2.type = 2) ∧ (f3.offset = 3 ∧ f3.type = 2) :=
  ⟨_, _, _, _, Try.underlying23, ⟨rfl, rfl⟩, ⟨rfl, rfl⟩, ⟨rfl, rfl⟩, ⟨rfl, rfl⟩⟩
section
variable {H : Type} {enc : TypeId × Value → H} {w : World} {base : Nat} {spare : Nat → Bool} {held : Bool}
theorem field_int {cs : List Value} {j n : Nat} {t : TypeId} {k : IntKind} {x : Option (DataW H × List MemPlace)} (hj : j < cs.length) (ht : Try.prog.underlying t = some (.int k)) (h : DataW.trod enc Try.prog w base spare held n t ((cs.drop j).take 1) = x) (hx : x.isSome = true) : ∃ z, cs[j]? = some (.int k z) ∧ (Lit.int k z).wf = true := by
  obtain ⟨y, rfl⟩ := Option.isSome_iff_exists.1 hx
  obtain ⟨z, h2, _, h3⟩ := DataW.trod_int ht h
  rw [List.drop_eq_getElem_cons hj] at h2
  simp only [List.take_succ_cons, List.take_zero] at h2
  exact ⟨z, by rw [List.getElem?_eq_getElem hj, (List.cons.inj h2).1], h3⟩
theorem field_bool {cs : List Value} {j n : Nat} {t : TypeId} {x : Option (DataW H × List MemPlace)} (hj : j < cs.length) (ht : Try.prog.underlying t = some .bool) (h : DataW.trod enc Try.prog w base spare held n t ((cs.drop j).take 1) = x) (hx : x.isSome = true) : ∃ b, cs[j]? = some (.bool b) := by
  obtain ⟨y, rfl⟩ := Option.isSome_iff_exists.1 hx
  obtain ⟨z, h2, _⟩ := DataW.trod_bool ht h
  rw [List.drop_eq_getElem_cons hj] at h2
  simp only [List.take_succ_cons, List.take_zero] at h2
  exact ⟨z, by rw [List.getElem?_eq_getElem hj, (List.cons.inj h2).1]⟩
set_option maxRecDepth 100000 in
theorem open_rec {r : Reach} {b0 : Nat} {v : Value} {d : DataW H} {p : List MemPlace} (hval : Value.okWide Try.prog w r b0 23 v) (h : DataW.Trod enc Try.prog w base spare held 23 v d p) :
    ∃ (x : Bool) (k v' s : Int), v = .agg #[.bool x, .int .i64 k, .int .i64 v', .int .i64 s] ∧ (Lit.int .i64 k).wf = true ∧ (Lit.int .i64 v').wf = true ∧ (Lit.int .i64 s).wf = true := by
  obtain ⟨f0, f1, f2, f3, hu, ⟨o0, t0⟩, ⟨o1, t1⟩, ⟨o2, t2⟩, ⟨o3, t3⟩⟩ := rec_fields
  obtain ⟨cs, rfl, hsz⟩ := okWide_struct hu hval
  obtain ⟨fuel, hf⟩ := h
  simp only [Value.cells] at hf
  obtain ⟨xs, m, _, _, hl, hxl, hel⟩ := DataW.trod_struct hu hf
  have cb : Try.prog.cellsOf 4 = 1 := by kernel_rfl
  have ci : Try.prog.cellsOf 2 = 1 := by kernel_rfl
  have c4 : Try.prog.cellsOf 23 = 4 := by kernel_rfl
  rw [c4] at hl
  have hx4 : xs.length = 4 := hxl
  have e0 := hel 0 f0 rfl
  have e1 := hel 1 f1 rfl
  have e2 := hel 2 f2 rfl
  have e3 := hel 3 f3 rfl
  rw [o0, t0, cb] at e0
  rw [o1, t1, ci] at e1
  rw [o2, t2, ci] at e2
  rw [o3, t3, ci] at e3
  obtain ⟨z0, q0⟩ := field_bool (by omega) Try.underlying4 e0 (by simp [hx4])
  obtain ⟨z1, q1, w1⟩ := field_int (by omega) Try.underlying2 e1 (by simp [hx4])
  obtain ⟨z2, q2, w2⟩ := field_int (by omega) Try.underlying2 e2 (by simp [hx4])
  obtain ⟨z3, q3, w3⟩ := field_int (by omega) Try.underlying2 e3 (by simp [hx4])
  refine ⟨z0, z1, z2, z3, ?_, w1, w2, w3⟩
  congr 1
  apply Array.ext'
  apply List.ext_getElem?
  intro i
  match i with
  | 0 => exact q0
  | 1 => exact q1
  | 2 => exact q2
  | 3 => exact q3
  | i + 4 => rw [List.getElem?_eq_none (by omega), List.getElem?_eq_none (by simp)]
end
theorem eql_arr_d {P : Program} (w : World) (t e : TypeId) (n : Nat) (k : IntKind) (xs ys : List Int) (ht : P.underlying t = some (.array n e)) (he : P.underlying e = some (.int k)) (hs : (P.info? e).map (·.size) = some 1) (hx : xs.length = n) (hy : ys.length = n) :
    (binOp .eql t (.agg (arr k xs)) (.agg (arr k ys))).run P w = .ok (.bool (decide (xs = ys))) w := by
  obtain ⟨inf, hi, h1⟩ := Option.map_eq_some_iff.1 hs
  have hc : P.cellsOf e = 1 := by simp [Program.cellsOf, hi, h1]
  have key : (Op.equalIn (9998 + 1 + 1) t (.agg (arr k xs)) (.agg (arr k ys))).run P w = .ok ((List.range n).all fun i => xs.getD i 0 == ys.getD i 0) w := by
    rw [run_equalIn_array w (9998 + 1) _ _ ht hi, hc]
    have hl : ∀ i ∈ List.range n, i < n := fun i hi => List.mem_range.1 hi
    generalize List.range n = l at hl ⊢
    induction l with
    | nil => simp [Op.eqItems]
    | cons i l ih =>
      have hi : i < n := hl i (by simp)
      have px : (Go.part e (arr k xs) (i * 1)).run P w = .ok (.int k (xs.getD i 0)) w := by
        have := arr_get k xs (i := i) (by omega)
        simp [Go.part, isAgg, run_underlying he, this]
      have py : (Go.part e (arr k ys) (i * 1)).run P w = .ok (.int k (ys.getD i 0)) w := by
        have := arr_get k ys (i := i) (by omega)
        simp [Go.part, isAgg, run_underlying he, this]
      have pe : (Op.equalIn (9998 + 1) e (.int k (xs.getD i 0)) (.int k (ys.getD i 0))).run P w = .ok (xs.getD i 0 == ys.getD i 0) w := run_equalIn_int w 9998 e k k _ _ he
      rw [Op.eqItems]
      simp only [Sem.run_bind, px, py, pe, Result.andThen_ok, List.all_cons]
      by_cases hq : xs.getD i 0 = ys.getD i 0
      · have hb : (xs.getD i 0 == ys.getD i 0) = true := by simpa using hq
        rw [hb]
        simp only [Bool.not_true, Bool.false_eq_true, if_false, Bool.true_and]
        exact ih fun j hj => hl j (by simp [hj])
      · have hb : (xs.getD i 0 == ys.getD i 0) = false := by simpa using hq
        rw [hb]
        simp
  have hall : ((List.range n).all fun i => xs.getD i 0 == ys.getD i 0) = decide (xs = ys) := by
    rw [Bool.eq_iff_iff]
    simp only [List.all_eq_true, List.mem_range, beq_iff_eq, decide_eq_true_eq]
    refine ⟨fun h => List.ext_getElem (by omega) fun i h1 h2 => ?_, fun h i _ => by rw [h]⟩
    have := h i (by omega)
    simpa [List.getD_eq_getElem?_getD, h1, h2] using this
  rw [run_eql_struct, show (10000 : Nat) = 9998 + 1 + 1 from rfl, key, hall]
  rfl

theorem key_rec (w : World) (d : Bool) (k v s : Int) (d' : Bool) (k' v' s' : Int) :
    (Op.equalIn 10000 23 (.agg #[.bool d, .int .i64 k, .int .i64 v, .int .i64 s]) (.agg #[.bool d', .int .i64 k', .int .i64 v', .int .i64 s'])).run Try.prog w = .ok (decide (d = d' ∧ k = k' ∧ v = v' ∧ s = s')) w := by
  have hu : Try.prog.underlying 23 = some (.struct (Try.prog.fieldsOf 23)) := by kernel_rfl
  have hp : Try.prog.stoodInHeld 23 = false := by kernel_rfl
  have ei : ∀ (d : Nat) (k : IntKind) (x y : Int), (Op.equalIn (d + 1) 2 (.int k x) (.int k y)).run Try.prog w = .ok (x == y) w := fun d k x y => run_equalIn_int w d 2 k .i64 x y Try.underlying2
  have eb : ∀ (d : Nat) (x y : Bool), (Op.equalIn (d + 1) 4 (.bool x) (.bool y)).run Try.prog w = .ok (x == y) w := fun d x y => by
    simp [Op.equalIn, run_underlying Try.underlying4]
  rw [show (10000 : Nat) = 9998 + 1 + 1 from rfl, run_equalIn_agg w (9998 + 1) _ _ _ hu hp]
  simp only [Program.fieldsOf, Try.underlying23, Op.eqFields, Go.part, isAgg, Sem.run_bind, run_underlying Try.underlying2, run_underlying Try.underlying4, Result.andThen_ok, Sem.run_pure, Sem.run_ite]
  simp [ei, eb]
  by_cases h0 : d = d' <;> by_cases h1 : k = k' <;> by_cases h2 : v = v' <;> by_cases h3 : s = s' <;> simp [h0, h1, h2, h3]
theorem eql_rec (w : World) (d : Bool) (k v s : Int) (d' : Bool) (k' v' s' : Int) :
    (binOp .eql 23 (.agg #[.bool d, .int .i64 k, .int .i64 v, .int .i64 s]) (.agg #[.bool d', .int .i64 k', .int .i64 v', .int .i64 s'])).run Try.prog w = .ok (.bool (decide (d = d' ∧ k = k' ∧ v = v' ∧ s = s'))) w := by
  rw [run_eql_struct, key_rec]
  rfl
theorem neq_rec (w : World) (d : Bool) (k v s : Int) (d' : Bool) (k' v' s' : Int) :
    (binOp .neq 23 (.agg #[.bool d, .int .i64 k, .int .i64 v, .int .i64 s]) (.agg #[.bool d', .int .i64 k', .int .i64 v', .int .i64 s'])).run Try.prog w = .ok (.bool (!decide (d = d' ∧ k = k' ∧ v = v' ∧ s = s'))) w := by
  rw [run_neq_struct, key_rec]
  rfl
section
variable {S : World → Prop} {ρ : Operand → Value} {o : Oper}
theorem y_eqr {ty : TypeId} {x y : Operand} {d : Bool} {k v s : Int} {d' : Bool} {k' v' s' : Int} {r : Bool} (ho : o.op = .binOp .eql 23 x y ty) (hx : ρ x = .agg #[.bool d, .int .i64 k, .int .i64 v, .int .i64 s]) (hy : ρ y = .agg #[.bool d', .int .i64 k', .int .i64 v', .int .i64 s'])
    (hr : decide (d = d' ∧ k = k' ∧ v = v' ∧ s = s') = r) : ∀ w, S w → (execOp ρ o).run Try.prog w = .ok (.value (.bool r)) w :=
  Held.y_bin ho hx hy (fun w => by simp [eqGuard, show Try.prog.eqGuardType Try.prog.depth 23 = false by kernel_rfl]) (fun w => by rw [← hr]; exact eql_rec w d k v s d' k' v' s')
theorem y_ner {ty : TypeId} {x y : Operand} {d : Bool} {k v s : Int} {d' : Bool} {k' v' s' : Int} {r : Bool} (ho : o.op = .binOp .neq 23 x y ty) (hx : ρ x = .agg #[.bool d, .int .i64 k, .int .i64 v, .int .i64 s]) (hy : ρ y = .agg #[.bool d', .int .i64 k', .int .i64 v', .int .i64 s'])
    (hr : (!decide (d = d' ∧ k = k' ∧ v = v' ∧ s = s')) = r) : ∀ w, S w → (execOp ρ o).run Try.prog w = .ok (.value (.bool r)) w :=
  Held.y_bin ho hx hy (fun w => by simp [eqGuard, show Try.prog.eqGuardType Try.prog.depth 23 = false by kernel_rfl]) (fun w => by rw [← hr]; exact neq_rec w d k v s d' k' v' s')
theorem y_eqa {P : Program} {t e ty : TypeId} {x y : Operand} {k : IntKind} {xs ys : List Int} {n : Nat} {r : Bool} (ho : o.op = .binOp .eql t x y ty) (hx : ρ x = .agg (arr k xs)) (hy : ρ y = .agg (arr k ys)) (hr : decide (xs = ys) = r) (hq : P.eqGuardType P.depth t = false) (ht : P.underlying t = some (.array n e)) (he : P.underlying e = some (.int k)) (hs : (P.info? e).map (·.size) = some 1) (hn : xs.length = n) (hn' : ys.length = n) :
    ∀ w, S w → (execOp ρ o).run P w = .ok (.value (.bool r)) w := Held.y_bin ho hx hy (fun w => by simp [eqGuard, hq]) (fun w => by rw [← hr]; exact eql_arr_d w t e n k xs ys ht he hs hn hn')
end
end Go.Proofs.Ytdfnacnklmmjhaa.Rc

