/-
  Tasks and spots held against each other, and the functions Same and Plain of package dominohelp on them, by their contracts.
  The document's Makes (package dominoref17), by its contract.
  The document's Ready (package dominoref17), by its contract.
-/
import Derived.Test.YtipmfficjomcoaaDoorB3
import Derived.Test.YtipmfficjomcoaaDoorB5
import Derived.Test.YtipmfficjomcoaaDoorB2
import Derived.Laws.StructEq
import Derived.Test.YtipmfficjomcoaaDoorB15
import Derived.Test.YtipmfficjomcoaaDoorB14
set_option linter.unusedVariables false
namespace Go.Proofs.YtipmfficjomcoaaDoor.Sh
open Go.RowKit Go.Shelf Mem Held Rs Sl
attribute [local irreducible] wpList wpListIn Calls
theorem Tk_iff {a b : Tk} : a = b ↔ a.kd = b.kd ∧ a.rd = b.rd ∧ a.a = b.a ∧ a.b = b.b ∧ a.up = b.up := ⟨fun e => by rw [e]; exact ⟨rfl, rfl, rfl, rfl, rfl⟩, fun h => Tk.ext' h.1 h.2.1 h.2.2.1 h.2.2.2.1 h.2.2.2.2⟩
theorem key_Tk (w : World) (a b : Tk) :
    (Op.equalIn 10000 34 (.agg #[.int .i64 a.kd, .int .i64 a.rd, .int .i64 a.a, .int .i64 a.b, .bool a.up]) (.agg #[.int .i64 b.kd, .int .i64 b.rd, .int .i64 b.a, .int .i64 b.b, .bool b.up])).run Tryd.prog w = .ok (decide (a.kd = b.kd ∧ a.rd = b.rd ∧ a.a = b.a ∧ a.b = b.b ∧ a.up = b.up)) w := by
  have hu : Tryd.prog.underlying 34 = some (.struct (Tryd.prog.fieldsOf 34)) := by kernel_rfl
  have hp : Tryd.prog.stoodInHeld 34 = false := by kernel_rfl
  have ej : ∀ (d : Nat) (k : IntKind) (x y : Int), (Op.equalIn (d + 1) 3 (.int k x) (.int k y)).run Tryd.prog w = .ok (x == y) w := fun d k x y => run_equalIn_int w d 3 k .i64 x y Tryd.underlying3
  have eb : ∀ (d : Nat) (x y : Bool), (Op.equalIn (d + 1) 4 (.bool x) (.bool y)).run Tryd.prog w = .ok (x == y) w := fun d x y => run_equalIn_bool' w d 4 x y Tryd.underlying4
  rw [show (10000 : Nat) = 9998 + 1 + 1 from rfl, run_equalIn_agg w (9998 + 1) _ _ _ hu hp]
  simp only [Program.fieldsOf, Tryd.underlying34, Op.eqFields, Go.part, isAgg, Sem.run_bind, run_underlying Tryd.underlying3, run_underlying Tryd.underlying4, Result.andThen_ok, Sem.run_pure, Sem.run_ite]
  simp [ej, eb]
  by_cases h0 : a.kd = b.kd <;> by_cases h1 : a.rd = b.rd <;> by_cases h2 : a.a = b.a <;> by_cases h3 : a.b = b.b <;> by_cases h4 : a.up = b.up <;> simp [h0, h1, h2, h3, h4]
theorem eql_Tk (w : World) (a b : Tk) : (binOp .eql 34 (.agg #[.int .i64 a.kd, .int .i64 a.rd, .int .i64 a.a, .int .i64 a.b, .bool a.up]) (.agg #[.int .i64 b.kd, .int .i64 b.rd, .int .i64 b.a, .int .i64 b.b, .bool b.up])).run Tryd.prog w = .ok (.bool (decide (a.kd = b.kd ∧ a.rd = b.rd ∧ a.a = b.a ∧ a.b = b.b ∧ a.up = b.up))) w := by
  rw [run_eql_struct, key_Tk]
  rfl
section
variable {S : World → Prop} {ρ : Operand → Value} {o : Oper}
theorem y_eqT {ty : TypeId} {x y : Operand} {a b : Tk} {r : Bool} (ho : o.op = .binOp .eql 34 x y ty) (hx : ρ x = .agg #[.int .i64 a.kd, .int .i64 a.rd, .int .i64 a.a, .int .i64 a.b, .bool a.up]) (hy : ρ y = .agg #[.int .i64 b.kd, .int .i64 b.rd, .int .i64 b.a, .int .i64 b.b, .bool b.up])
    (hr : decide (a.kd = b.kd ∧ a.rd = b.rd ∧ a.a = b.a ∧ a.b = b.b ∧ a.up = b.up) = r) : ∀ w, S w → (execOp ρ o).run Tryd.prog w = .ok (.value (.bool r)) w :=
  Held.y_bin ho hx hy (fun w => by simp [eqGuard, show Tryd.prog.eqGuardType Tryd.prog.depth 34 = false by kernel_rfl]) (fun w => by rw [← hr]; exact eql_Tk w a b)
end
theorem eqT_any (a b : Tk) (w : World) : Calls Tryd.prog 38 #[.agg #[.int .i64 a.kd, .int .i64 a.rd, .int .i64 a.a, .int .i64 a.b, .bool a.up], .agg #[.int .i64 b.kd, .int .i64 b.rd, .int .i64 b.a, .int .i64 b.b, .bool b.up]] w fun e w' => e = .returned (.bool (decide (a = b))) ∧ Below w.heap.size w w' := by
  have HR := Lib.hid (show decide (a.kd = b.kd ∧ a.rd = b.rd ∧ a.a = b.a ∧ a.b = b.b ∧ a.up = b.up) = decide (a = b) from decide_eq_decide.2 Tk_iff.symm)
  go_enter Tryd.func38, Tryd.ntmps38
  go_wp2_with (first
    | (refine wpList_box_blk (w := w) rfl 34 _ rfl _ rfl ?_; intro w1 q1 g1 z1)
    | (refine wpList_box_blk (w := w1) rfl 34 _ rfl _ rfl ?_; intro w2 q2 g2 z2; have q1 := q1.grown g2 (by simp))
    | (refine wpList_load_blk (w := w2) rfl 34 _ rfl w.heap.size 5 rfl 34 _ q1 _ Tryd.underlying34 rfl (by kernel_rfl) rfl ?_)
    | (refine wpList_load_blk (w := w2) rfl 34 _ rfl w1.heap.size 5 rfl 34 _ q2 _ Tryd.underlying34 rfl (by kernel_rfl) rfl ?_)
    | (refine wpList_run rfl (v := .bool (decide (a = b))) (y_eqT (S := fun _ => True) rfl rfl rfl HR.out _ trivial) ?_))
  go_ret
  exact ⟨rfl, ((Below.refl _ w).grown g1 (Nat.le_refl _) (by simp)).grown g2 g1.size (by simp)⟩
theorem take_stepT {xs ys : List Tk} {k : Nat} (hx : k < xs.length) (hy : k < ys.length) (h : xs.take k = ys.take k) (e : xs.getD k T0 = ys.getD k T0) : xs.take (k + 1) = ys.take (k + 1) := by
  rw [List.take_add_one, List.take_add_one, h]
  simp only [List.getD_eq_getElem?_getD, List.getElem?_eq_getElem hx, List.getElem?_eq_getElem hy, Option.getD_some] at e
  rw [List.getElem?_eq_getElem hx, List.getElem?_eq_getElem hy, e]
set_option maxRecDepth 100000 in
set_option maxHeartbeats 4000000 in
theorem sameT_any (B B' : Nat) (A A' : Option Addr) (n n' c c' : Nat) (rs rs' : List Tk) (w : World) (h : Lst kT w B A n rs) (h' : Lst kT w B' A' n' rs') (hB : B ≤ w.heap.size) (hB' : B' ≤ w.heap.size) (hn : n ≤ 1073741824) (hn' : n' ≤ 1073741824) :
    Calls Tryd.prog 37 #[.slice A n c, .slice A' n' c', .func (.func 38) #[] #[]] w fun e w' => e = .returned (.bool (decide (rs = rs'))) ∧ Below w.heap.size w w' := by
  by_cases hnn : n = n'
  · subst hnn
    have hne : ((n : Int) != (n : Int)) = false := by simp
    have HL := Lib.hid h.1
    have HL' := Lib.hid h'.1
    go_enter Tryd.func37, Tryd.ntmps37
    go_wp2_with fail
    go_loopw [7] (fun i wr => ∃ k : Nat, k ≤ n ∧ i = .int .i64 k ∧ Below w.heap.size w wr ∧ Hid (rs.take k = rs'.take k)) (fun i _ => n - (intOf i).toNat)
    case atStart => exact ⟨0, by omega, rfl, Below.refl _ _, Lib.hid rfl⟩
    case round =>
      obtain ⟨k, hk, rfl, hst, ht⟩ := hrel
      have hBk := Nat.le_trans hB hst.size
      have hBk' := Nat.le_trans hB' hst.size
      by_cases hlt : k < n
      · obtain ⟨b, off, rfl, hb, hx⟩ := (h.below (hst.mono hB)).at_ hlt
        have hx : wr.rangeAt b (off + k * 5) (rs.getD k T0).cells := hx
        obtain ⟨b', off', rfl, hb', hy⟩ := (h'.below (hst.mono hB')).at_ hlt
        have hy : wr.rangeAt b' (off' + k * 5) (rs'.getD k T0).cells := hy
        have hlt' : (k : Int) < (n : Int) := by omega
        have hk0 : (0 : Int) ≤ (k : Int) := by omega
        by_cases hq0 : rs.getD k T0 = rs'.getD k T0
        · have HT := Lib.hid (take_stepT (by have := HL.out; omega) (by have := HL'.out; omega) ht.out hq0)
          have hq : decide (rs.getD k T0 = rs'.getD k T0) = true := by simpa using hq0
          clear hq0
          generalize rs.getD k T0 = x at hx hq
          generalize rs'.getD k T0 = y at hy hq
          go_wp2_with fail
          refine wp_region_held (S := fun W => Below wr.heap.size wr W) (by kernel_rfl) ?_
          change wpAnyH _ _ _ _ _ _ _ _ wr.drew
          have c0_0 := (Below.refl wr.heap.size wr).drew
          refine Held.tk (v := .func (.func 38) #[] #[]) 0 (some 19) rfl (Held.y_move rfl rfl) c0_0 ?_
          simp only [Act.put, Z1, Z2, Z3]
          refine Held.tk (v := .slice (some ⟨b, off, none⟩) n c) 1 (some 20) rfl (Held.y_move rfl rfl) c0_0 ?_
          simp only [Act.put, Z1, Z2, Z3]
          refine Held.tk (v := .int .i64 (k : Int)) 2 (some 21) rfl (Held.y_move rfl rfl) c0_0 ?_
          simp only [Act.put, Z1, Z2, Z3]
          refine Held.tk (v := .pointer (some ⟨b, off + k * 5, none⟩)) 3 (some 22) rfl (Held.y_addr rfl rfl rfl (run_addr_of 28 34 b off n c k 5 .i64 Tryd.underlying28 (by kernel_rfl) hlt)) c0_0 ?_
          simp only [Act.put, Z1, Z2, Z3]
          refine Held.tk (v := .agg #[.int .i64 x.kd, .int .i64 x.rd, .int .i64 x.a, .int .i64 x.b, .bool x.up]) 4 (some 23) rfl (y_load_range (n := 5) (cs := x.cells) rfl rfl Tryd.underlying34 rfl (by kernel_rfl) rfl (fun W hW => range_below hx hW (Nat.lt_of_lt_of_le hb hBk))) c0_0 ?_
          simp only [Act.put, Z1, Z2, Z3]
          refine Held.tk (v := .slice (some ⟨b', off', none⟩) n c') 5 (some 24) rfl (Held.y_move rfl rfl) c0_0 ?_
          simp only [Act.put, Z1, Z2, Z3]
          refine Held.tk (v := .int .i64 (k : Int)) 6 (some 25) rfl (Held.y_move rfl rfl) c0_0 ?_
          simp only [Act.put, Z1, Z2, Z3]
          refine Held.tk (v := .pointer (some ⟨b', off' + k * 5, none⟩)) 7 (some 26) rfl (Held.y_addr rfl rfl rfl (run_addr_of 28 34 b' off' n c' k 5 .i64 Tryd.underlying28 (by kernel_rfl) hlt)) c0_0 ?_
          simp only [Act.put, Z1, Z2, Z3]
          refine Held.tk (v := .agg #[.int .i64 y.kd, .int .i64 y.rd, .int .i64 y.a, .int .i64 y.b, .bool y.up]) 8 (some 27) rfl (y_load_range (n := 5) (cs := y.cells) rfl rfl Tryd.underlying34 rfl (by kernel_rfl) rfl (fun W hW => range_below hy hW (Nat.lt_of_lt_of_le hb' hBk'))) c0_0 ?_
          simp only [Act.put, Z1, Z2, Z3]
          refine Held.one 9 (by kernel_rfl) ?_
          refine Rs.op_callv 9 (some 28) 38 #[] #[.agg #[.int .i64 x.kd, .int .i64 x.rd, .int .i64 x.a, .int .i64 x.b, .bool x.up], .agg #[.int .i64 y.kd, .int .i64 y.rd, .int .i64 y.a, .int .i64 y.b, .bool y.up]] rfl rfl rfl rfl rfl (enters_of Tryd.func38 (by kernel_rfl) rfl) (by simp [Act.eval])
            (by have := eqT_any x y wr.drew; rwa [hq] at this) ?_
          rintro e w1 ⟨rfl, b1⟩
          have c0_1 := c0_0.trans (b1.mono c0_0.size)
          refine ⟨_, rfl, c0_1, ?_⟩
          simp only [Act.put, Z1, Z2, Z3]
          refine Held.tk (v := .bool false) 10 (some 29) rfl (Held.y_not rfl rfl rfl) c0_1 ?_
          simp only [Act.put, Z1, Z2, Z3]
          refine wpAnyH_done (by kernel_rfl) ?_ _
          have dz := hst.trans (c0_1.mono hst.size)
          generalize w1 = wz at dz ⊢
          clear hx hy c0_1
          go_wp2_with fail
          go_roundw
          case rel => exact ⟨k + 1, by omega, by go_num, dz, HT⟩
          case measure => simp [intOf]; omega
        · have HF := Lib.hid (show decide (rs = rs') = false by
            rw [decide_eq_false_iff_not]; intro e; exact hq0 (by rw [e]))
          have hq : decide (rs.getD k T0 = rs'.getD k T0) = false := by simpa using hq0
          clear hq0
          generalize rs.getD k T0 = x at hx hq
          generalize rs'.getD k T0 = y at hy hq
          go_wp2_with fail
          refine wp_region_held (S := fun W => Below wr.heap.size wr W) (by kernel_rfl) ?_
          change wpAnyH _ _ _ _ _ _ _ _ wr.drew
          have c0_0 := (Below.refl wr.heap.size wr).drew
          refine Held.tk (v := .func (.func 38) #[] #[]) 0 (some 19) rfl (Held.y_move rfl rfl) c0_0 ?_
          simp only [Act.put, Z1, Z2, Z3]
          refine Held.tk (v := .slice (some ⟨b, off, none⟩) n c) 1 (some 20) rfl (Held.y_move rfl rfl) c0_0 ?_
          simp only [Act.put, Z1, Z2, Z3]
          refine Held.tk (v := .int .i64 (k : Int)) 2 (some 21) rfl (Held.y_move rfl rfl) c0_0 ?_
          simp only [Act.put, Z1, Z2, Z3]
          refine Held.tk (v := .pointer (some ⟨b, off + k * 5, none⟩)) 3 (some 22) rfl (Held.y_addr rfl rfl rfl (run_addr_of 28 34 b off n c k 5 .i64 Tryd.underlying28 (by kernel_rfl) hlt)) c0_0 ?_
          simp only [Act.put, Z1, Z2, Z3]
          refine Held.tk (v := .agg #[.int .i64 x.kd, .int .i64 x.rd, .int .i64 x.a, .int .i64 x.b, .bool x.up]) 4 (some 23) rfl (y_load_range (n := 5) (cs := x.cells) rfl rfl Tryd.underlying34 rfl (by kernel_rfl) rfl (fun W hW => range_below hx hW (Nat.lt_of_lt_of_le hb hBk))) c0_0 ?_
          simp only [Act.put, Z1, Z2, Z3]
          refine Held.tk (v := .slice (some ⟨b', off', none⟩) n c') 5 (some 24) rfl (Held.y_move rfl rfl) c0_0 ?_
          simp only [Act.put, Z1, Z2, Z3]
          refine Held.tk (v := .int .i64 (k : Int)) 6 (some 25) rfl (Held.y_move rfl rfl) c0_0 ?_
          simp only [Act.put, Z1, Z2, Z3]
          refine Held.tk (v := .pointer (some ⟨b', off' + k * 5, none⟩)) 7 (some 26) rfl (Held.y_addr rfl rfl rfl (run_addr_of 28 34 b' off' n c' k 5 .i64 Tryd.underlying28 (by kernel_rfl) hlt)) c0_0 ?_
          simp only [Act.put, Z1, Z2, Z3]
          refine Held.tk (v := .agg #[.int .i64 y.kd, .int .i64 y.rd, .int .i64 y.a, .int .i64 y.b, .bool y.up]) 8 (some 27) rfl (y_load_range (n := 5) (cs := y.cells) rfl rfl Tryd.underlying34 rfl (by kernel_rfl) rfl (fun W hW => range_below hy hW (Nat.lt_of_lt_of_le hb' hBk'))) c0_0 ?_
          simp only [Act.put, Z1, Z2, Z3]
          refine Held.one 9 (by kernel_rfl) ?_
          refine Rs.op_callv 9 (some 28) 38 #[] #[.agg #[.int .i64 x.kd, .int .i64 x.rd, .int .i64 x.a, .int .i64 x.b, .bool x.up], .agg #[.int .i64 y.kd, .int .i64 y.rd, .int .i64 y.a, .int .i64 y.b, .bool y.up]] rfl rfl rfl rfl rfl (enters_of Tryd.func38 (by kernel_rfl) rfl) (by simp [Act.eval])
            (by have := eqT_any x y wr.drew; rwa [hq] at this) ?_
          rintro e w1 ⟨rfl, b1⟩
          have c0_1 := c0_0.trans (b1.mono c0_0.size)
          refine ⟨_, rfl, c0_1, ?_⟩
          simp only [Act.put, Z1, Z2, Z3]
          refine Held.tk (v := .bool true) 10 (some 29) rfl (Held.y_not rfl rfl rfl) c0_1 ?_
          simp only [Act.put, Z1, Z2, Z3]
          refine wpAnyH_done (by kernel_rfl) ?_ _
          have dz := hst.trans (c0_1.mono hst.size)
          generalize w1 = wz at dz ⊢
          clear hx hy c0_1
          go_wp2_with fail
          go_ret
          exact ⟨Mem.ret_bool HF.out.symm, dz⟩
      · have HF := Lib.hid (show decide (rs = rs') = true by
          have e1 := ht.out
          rw [List.take_of_length_le (by have := HL.out; omega), List.take_of_length_le (by have := HL'.out; omega)] at e1
          simpa using e1)
        go_wp2_with fail
        go_ret
        exact ⟨Mem.ret_bool HF.out.symm, hst⟩
  · have hne : ((n : Int) != (n' : Int)) = true := by simp; omega
    have HF := Lib.hid (show decide (rs = rs') = false by
      rw [decide_eq_false_iff_not]; intro e; exact hnn (by rw [← h.1, ← h'.1, e]))
    clear h h' hnn
    go_enter Tryd.func37, Tryd.ntmps37
    go_wp2_with fail
    go_ret
    exact ⟨Mem.ret_bool HF.out.symm, Below.refl _ _⟩
theorem Sp_iff {a b : Sp} : a = b ↔ a.ph = b.ph ∧ a.rd = b.rd ∧ a.ad = b.ad := ⟨fun e => by rw [e]; exact ⟨rfl, rfl, rfl⟩, fun h => Sp.ext' h.1 h.2.1 h.2.2⟩
theorem key_Sp (w : World) (a b : Sp) :
    (Op.equalIn 10000 42 (.agg #[.int .i64 a.ph, .int .i64 a.rd, .int .i64 a.ad]) (.agg #[.int .i64 b.ph, .int .i64 b.rd, .int .i64 b.ad])).run Tryd.prog w = .ok (decide (a.ph = b.ph ∧ a.rd = b.rd ∧ a.ad = b.ad)) w := by
  have hu : Tryd.prog.underlying 42 = some (.struct (Tryd.prog.fieldsOf 42)) := by kernel_rfl
  have hp : Tryd.prog.stoodInHeld 42 = false := by kernel_rfl
  have ej : ∀ (d : Nat) (k : IntKind) (x y : Int), (Op.equalIn (d + 1) 3 (.int k x) (.int k y)).run Tryd.prog w = .ok (x == y) w := fun d k x y => run_equalIn_int w d 3 k .i64 x y Tryd.underlying3
  rw [show (10000 : Nat) = 9998 + 1 + 1 from rfl, run_equalIn_agg w (9998 + 1) _ _ _ hu hp]
  simp only [Program.fieldsOf, Tryd.underlying42, Op.eqFields, Go.part, isAgg, Sem.run_bind, run_underlying Tryd.underlying3, Result.andThen_ok, Sem.run_pure, Sem.run_ite]
  simp [ej]
  by_cases h0 : a.ph = b.ph <;> by_cases h1 : a.rd = b.rd <;> by_cases h2 : a.ad = b.ad <;> simp [h0, h1, h2]
theorem eql_Sp (w : World) (a b : Sp) : (binOp .eql 42 (.agg #[.int .i64 a.ph, .int .i64 a.rd, .int .i64 a.ad]) (.agg #[.int .i64 b.ph, .int .i64 b.rd, .int .i64 b.ad])).run Tryd.prog w = .ok (.bool (decide (a.ph = b.ph ∧ a.rd = b.rd ∧ a.ad = b.ad))) w := by
  rw [run_eql_struct, key_Sp]
  rfl
section
variable {S : World → Prop} {ρ : Operand → Value} {o : Oper}
theorem y_eqS {ty : TypeId} {x y : Operand} {a b : Sp} {r : Bool} (ho : o.op = .binOp .eql 42 x y ty) (hx : ρ x = .agg #[.int .i64 a.ph, .int .i64 a.rd, .int .i64 a.ad]) (hy : ρ y = .agg #[.int .i64 b.ph, .int .i64 b.rd, .int .i64 b.ad])
    (hr : decide (a.ph = b.ph ∧ a.rd = b.rd ∧ a.ad = b.ad) = r) : ∀ w, S w → (execOp ρ o).run Tryd.prog w = .ok (.value (.bool r)) w :=
  Held.y_bin ho hx hy (fun w => by simp [eqGuard, show Tryd.prog.eqGuardType Tryd.prog.depth 42 = false by kernel_rfl]) (fun w => by rw [← hr]; exact eql_Sp w a b)
end
theorem eqS_any (a b : Sp) (w : World) : Calls Tryd.prog 41 #[.agg #[.int .i64 a.ph, .int .i64 a.rd, .int .i64 a.ad], .agg #[.int .i64 b.ph, .int .i64 b.rd, .int .i64 b.ad]] w fun e w' => e = .returned (.bool (decide (a = b))) ∧ Below w.heap.size w w' := by
  have HR := Lib.hid (show decide (a.ph = b.ph ∧ a.rd = b.rd ∧ a.ad = b.ad) = decide (a = b) from decide_eq_decide.2 Sp_iff.symm)
  go_enter Tryd.func41, Tryd.ntmps41
  go_wp2_with (first
    | (refine wpList_box_blk (w := w) rfl 42 _ rfl _ rfl ?_; intro w1 q1 g1 z1)
    | (refine wpList_box_blk (w := w1) rfl 42 _ rfl _ rfl ?_; intro w2 q2 g2 z2; have q1 := q1.grown g2 (by simp))
    | (refine wpList_load_blk (w := w2) rfl 42 _ rfl w.heap.size 3 rfl 42 _ q1 _ Tryd.underlying42 rfl (by kernel_rfl) rfl ?_)
    | (refine wpList_load_blk (w := w2) rfl 42 _ rfl w1.heap.size 3 rfl 42 _ q2 _ Tryd.underlying42 rfl (by kernel_rfl) rfl ?_)
    | (refine wpList_run rfl (v := .bool (decide (a = b))) (y_eqS (S := fun _ => True) rfl rfl rfl HR.out _ trivial) ?_))
  go_ret
  exact ⟨rfl, ((Below.refl _ w).grown g1 (Nat.le_refl _) (by simp)).grown g2 g1.size (by simp)⟩
theorem take_stepS {xs ys : List Sp} {k : Nat} (hx : k < xs.length) (hy : k < ys.length) (h : xs.take k = ys.take k) (e : xs.getD k S0 = ys.getD k S0) : xs.take (k + 1) = ys.take (k + 1) := by
  rw [List.take_add_one, List.take_add_one, h]
  simp only [List.getD_eq_getElem?_getD, List.getElem?_eq_getElem hx, List.getElem?_eq_getElem hy, Option.getD_some] at e
  rw [List.getElem?_eq_getElem hx, List.getElem?_eq_getElem hy, e]
set_option maxRecDepth 100000 in
set_option maxHeartbeats 4000000 in
theorem sameS_any (B B' : Nat) (A A' : Option Addr) (n n' c c' : Nat) (rs rs' : List Sp) (w : World) (h : Lst kS w B A n rs) (h' : Lst kS w B' A' n' rs') (hB : B ≤ w.heap.size) (hB' : B' ≤ w.heap.size) (hn : n ≤ 1073741824) (hn' : n' ≤ 1073741824) :
    Calls Tryd.prog 40 #[.slice A n c, .slice A' n' c', .func (.func 41) #[] #[]] w fun e w' => e = .returned (.bool (decide (rs = rs'))) ∧ Below w.heap.size w w' := by
  by_cases hnn : n = n'
  · subst hnn
    have hne : ((n : Int) != (n : Int)) = false := by simp
    have HL := Lib.hid h.1
    have HL' := Lib.hid h'.1
    go_enter Tryd.func40, Tryd.ntmps40
    go_wp2_with fail
    go_loopw [7] (fun i wr => ∃ k : Nat, k ≤ n ∧ i = .int .i64 k ∧ Below w.heap.size w wr ∧ Hid (rs.take k = rs'.take k)) (fun i _ => n - (intOf i).toNat)
    case atStart => exact ⟨0, by omega, rfl, Below.refl _ _, Lib.hid rfl⟩
    case round =>
      obtain ⟨k, hk, rfl, hst, ht⟩ := hrel
      have hBk := Nat.le_trans hB hst.size
      have hBk' := Nat.le_trans hB' hst.size
      by_cases hlt : k < n
      · obtain ⟨b, off, rfl, hb, hx⟩ := (h.below (hst.mono hB)).at_ hlt
        have hx : wr.rangeAt b (off + k * 3) (rs.getD k S0).cells := hx
        obtain ⟨b', off', rfl, hb', hy⟩ := (h'.below (hst.mono hB')).at_ hlt
        have hy : wr.rangeAt b' (off' + k * 3) (rs'.getD k S0).cells := hy
        have hlt' : (k : Int) < (n : Int) := by omega
        have hk0 : (0 : Int) ≤ (k : Int) := by omega
        by_cases hq0 : rs.getD k S0 = rs'.getD k S0
        · have HT := Lib.hid (take_stepS (by have := HL.out; omega) (by have := HL'.out; omega) ht.out hq0)
          have hq : decide (rs.getD k S0 = rs'.getD k S0) = true := by simpa using hq0
          clear hq0
          generalize rs.getD k S0 = x at hx hq
          generalize rs'.getD k S0 = y at hy hq
          go_wp2_with fail
          refine wp_region_held (S := fun W => Below wr.heap.size wr W) (by kernel_rfl) ?_
          change wpAnyH _ _ _ _ _ _ _ _ wr.drew
          have c0_0 := (Below.refl wr.heap.size wr).drew
          refine Held.tk (v := .func (.func 41) #[] #[]) 0 (some 19) rfl (Held.y_move rfl rfl) c0_0 ?_
          simp only [Act.put, Z1, Z2, Z3]
          refine Held.tk (v := .slice (some ⟨b, off, none⟩) n c) 1 (some 20) rfl (Held.y_move rfl rfl) c0_0 ?_
          simp only [Act.put, Z1, Z2, Z3]
          refine Held.tk (v := .int .i64 (k : Int)) 2 (some 21) rfl (Held.y_move rfl rfl) c0_0 ?_
          simp only [Act.put, Z1, Z2, Z3]
          refine Held.tk (v := .pointer (some ⟨b, off + k * 3, none⟩)) 3 (some 22) rfl (Held.y_addr rfl rfl rfl (run_addr_of 47 42 b off n c k 3 .i64 Tryd.underlying47 (by kernel_rfl) hlt)) c0_0 ?_
          simp only [Act.put, Z1, Z2, Z3]
          refine Held.tk (v := .agg #[.int .i64 x.ph, .int .i64 x.rd, .int .i64 x.ad]) 4 (some 23) rfl (y_load_range (n := 3) (cs := x.cells) rfl rfl Tryd.underlying42 rfl (by kernel_rfl) rfl (fun W hW => range_below hx hW (Nat.lt_of_lt_of_le hb hBk))) c0_0 ?_
          simp only [Act.put, Z1, Z2, Z3]
          refine Held.tk (v := .slice (some ⟨b', off', none⟩) n c') 5 (some 24) rfl (Held.y_move rfl rfl) c0_0 ?_
          simp only [Act.put, Z1, Z2, Z3]
          refine Held.tk (v := .int .i64 (k : Int)) 6 (some 25) rfl (Held.y_move rfl rfl) c0_0 ?_
          simp only [Act.put, Z1, Z2, Z3]
          refine Held.tk (v := .pointer (some ⟨b', off' + k * 3, none⟩)) 7 (some 26) rfl (Held.y_addr rfl rfl rfl (run_addr_of 47 42 b' off' n c' k 3 .i64 Tryd.underlying47 (by kernel_rfl) hlt)) c0_0 ?_
          simp only [Act.put, Z1, Z2, Z3]
          refine Held.tk (v := .agg #[.int .i64 y.ph, .int .i64 y.rd, .int .i64 y.ad]) 8 (some 27) rfl (y_load_range (n := 3) (cs := y.cells) rfl rfl Tryd.underlying42 rfl (by kernel_rfl) rfl (fun W hW => range_below hy hW (Nat.lt_of_lt_of_le hb' hBk'))) c0_0 ?_
          simp only [Act.put, Z1, Z2, Z3]
          refine Held.one 9 (by kernel_rfl) ?_
          refine Rs.op_callv 9 (some 28) 41 #[] #[.agg #[.int .i64 x.ph, .int .i64 x.rd, .int .i64 x.ad], .agg #[.int .i64 y.ph, .int .i64 y.rd, .int .i64 y.ad]] rfl rfl rfl rfl rfl (enters_of Tryd.func41 (by kernel_rfl) rfl) (by simp [Act.eval])
            (by have := eqS_any x y wr.drew; rwa [hq] at this) ?_
          rintro e w1 ⟨rfl, b1⟩
          have c0_1 := c0_0.trans (b1.mono c0_0.size)
          refine ⟨_, rfl, c0_1, ?_⟩
          simp only [Act.put, Z1, Z2, Z3]
          refine Held.tk (v := .bool false) 10 (some 29) rfl (Held.y_not rfl rfl rfl) c0_1 ?_
          simp only [Act.put, Z1, Z2, Z3]
          refine wpAnyH_done (by kernel_rfl) ?_ _
          have dz := hst.trans (c0_1.mono hst.size)
          generalize w1 = wz at dz ⊢
          clear hx hy c0_1
          go_wp2_with fail
          go_roundw
          case rel => exact ⟨k + 1, by omega, by go_num, dz, HT⟩
          case measure => simp [intOf]; omega
        · have HF := Lib.hid (show decide (rs = rs') = false by
            rw [decide_eq_false_iff_not]; intro e; exact hq0 (by rw [e]))
          have hq : decide (rs.getD k S0 = rs'.getD k S0) = false := by simpa using hq0
          clear hq0
          generalize rs.getD k S0 = x at hx hq
          generalize rs'.getD k S0 = y at hy hq
          go_wp2_with fail
          refine wp_region_held (S := fun W => Below wr.heap.size wr W) (by kernel_rfl) ?_
          change wpAnyH _ _ _ _ _ _ _ _ wr.drew
          have c0_0 := (Below.refl wr.heap.size wr).drew
          refine Held.tk (v := .func (.func 41) #[] #[]) 0 (some 19) rfl (Held.y_move rfl rfl) c0_0 ?_
          simp only [Act.put, Z1, Z2, Z3]
          refine Held.tk (v := .slice (some ⟨b, off, none⟩) n c) 1 (some 20) rfl (Held.y_move rfl rfl) c0_0 ?_
          simp only [Act.put, Z1, Z2, Z3]
          refine Held.tk (v := .int .i64 (k : Int)) 2 (some 21) rfl (Held.y_move rfl rfl) c0_0 ?_
          simp only [Act.put, Z1, Z2, Z3]
          refine Held.tk (v := .pointer (some ⟨b, off + k * 3, none⟩)) 3 (some 22) rfl (Held.y_addr rfl rfl rfl (run_addr_of 47 42 b off n c k 3 .i64 Tryd.underlying47 (by kernel_rfl) hlt)) c0_0 ?_
          simp only [Act.put, Z1, Z2, Z3]
          refine Held.tk (v := .agg #[.int .i64 x.ph, .int .i64 x.rd, .int .i64 x.ad]) 4 (some 23) rfl (y_load_range (n := 3) (cs := x.cells) rfl rfl Tryd.underlying42 rfl (by kernel_rfl) rfl (fun W hW => range_below hx hW (Nat.lt_of_lt_of_le hb hBk))) c0_0 ?_
          simp only [Act.put, Z1, Z2, Z3]
          refine Held.tk (v := .slice (some ⟨b', off', none⟩) n c') 5 (some 24) rfl (Held.y_move rfl rfl) c0_0 ?_
          simp only [Act.put, Z1, Z2, Z3]
          refine Held.tk (v := .int .i64 (k : Int)) 6 (some 25) rfl (Held.y_move rfl rfl) c0_0 ?_
          simp only [Act.put, Z1, Z2, Z3]
          refine Held.tk (v := .pointer (some ⟨b', off' + k * 3, none⟩)) 7 (some 26) rfl (Held.y_addr rfl rfl rfl (run_addr_of 47 42 b' off' n c' k 3 .i64 Tryd.underlying47 (by kernel_rfl) hlt)) c0_0 ?_
          simp only [Act.put, Z1, Z2, Z3]
          refine Held.tk (v := .agg #[.int .i64 y.ph, .int .i64 y.rd, .int .i64 y.ad]) 8 (some 27) rfl (y_load_range (n := 3) (cs := y.cells) rfl rfl Tryd.underlying42 rfl (by kernel_rfl) rfl (fun W hW => range_below hy hW (Nat.lt_of_lt_of_le hb' hBk'))) c0_0 ?_
          simp only [Act.put, Z1, Z2, Z3]
          refine Held.one 9 (by kernel_rfl) ?_
          refine Rs.op_callv 9 (some 28) 41 #[] #[.agg #[.int .i64 x.ph, .int .i64 x.rd, .int .i64 x.ad], .agg #[.int .i64 y.ph, .int .i64 y.rd, .int .i64 y.ad]] rfl rfl rfl rfl rfl (enters_of Tryd.func41 (by kernel_rfl) rfl) (by simp [Act.eval])
            (by have := eqS_any x y wr.drew; rwa [hq] at this) ?_
          rintro e w1 ⟨rfl, b1⟩
          have c0_1 := c0_0.trans (b1.mono c0_0.size)
          refine ⟨_, rfl, c0_1, ?_⟩
          simp only [Act.put, Z1, Z2, Z3]
          refine Held.tk (v := .bool true) 10 (some 29) rfl (Held.y_not rfl rfl rfl) c0_1 ?_
          simp only [Act.put, Z1, Z2, Z3]
          refine wpAnyH_done (by kernel_rfl) ?_ _
          have dz := hst.trans (c0_1.mono hst.size)
          generalize w1 = wz at dz ⊢
          clear hx hy c0_1
          go_wp2_with fail
          go_ret
          exact ⟨Mem.ret_bool HF.out.symm, dz⟩
      · have HF := Lib.hid (show decide (rs = rs') = true by
          have e1 := ht.out
          rw [List.take_of_length_le (by have := HL.out; omega), List.take_of_length_le (by have := HL'.out; omega)] at e1
          simpa using e1)
        go_wp2_with fail
        go_ret
        exact ⟨Mem.ret_bool HF.out.symm, hst⟩
  · have hne : ((n : Int) != (n' : Int)) = true := by simp; omega
    have HF := Lib.hid (show decide (rs = rs') = false by
      rw [decide_eq_false_iff_not]; intro e; exact hnn (by rw [← h.1, ← h'.1, e]))
    clear h h' hnn
    go_enter Tryd.func40, Tryd.ntmps40
    go_wp2_with fail
    go_ret
    exact ⟨Mem.ret_bool HF.out.symm, Below.refl _ _⟩
theorem plainS_any (B B' : Nat) (A A' : Option Addr) (n n' c c' : Nat) (rs rs' : List Sp) (w : World) (h : Lst kS w B A n rs) (h' : Lst kS w B' A' n' rs') (hB : B ≤ w.heap.size) (hB' : B' ≤ w.heap.size) (hn : n ≤ 1073741824) (hn' : n' ≤ 1073741824) :
    Calls Tryd.prog 17 #[.slice A n c, .slice A' n' c'] w fun e w' => e = .returned (.bool (decide (rs = rs'))) ∧ Below w.heap.size w w' := by
  go_enter Tryd.func17, Tryd.ntmps17
  go_wp2_with fail
  refine (sameS_any B B' A A' n n' c c' rs rs' w h h' hB hB' hn hn').mono ?_
  rintro e w' ⟨rfl, hst⟩
  go_wp2_with fail
  go_ret
  exact ⟨rfl, hst⟩
end Go.Proofs.YtipmfficjomcoaaDoor.Sh
namespace Go.Proofs.YtipmfficjomcoaaDoor.Sh
open Go.RowKit Go.Shelf Mem Held Rs Go.Proofs.YtipmfficjomcoaaDoor.Range Sl
attribute [local go_sem] Oper.semAt_some
attribute [local irreducible] wpList wpListIn Calls
set_option maxRecDepth 100000 in
set_option maxHeartbeats 8000000 in
theorem rmakes_any (r k b wk ph rd ad : Int) (hk0 : -9223372036854775808 ≤ k) (hk1 : k ≤ 9223372036854775807) (w : World) :
    Calls Tryd.prog 23 #[.agg #[.int .i64 r, .int .i64 k, .int .i64 b, .int .i64 wk], .agg #[.int .i64 ph, .int .i64 rd, .int .i64 ad]] w fun e w' => e = .returned (.int .i64 (makesT k (tasksT (inN r k b wk) (mpN r k b wk) (mN r k b wk) (tN r k b wk)) ⟨ph, rd, ad⟩)) ∧ Below w.heap.size w w' := by
  have h := job_of (r := r) (b := b) (wk := wk) hk0 hk1
  have HK := Lib.hid (fun (i : Nat) (t : Tk) (ht : (tasksT (inN r k b wk) (mpN r k b wk) (mN r k b wk) (tN r k b wk))[i]? = some t) => task_right ht)
  have HRT := Lib.hid (fun W => rtasks_any r k b wk hk0 hk1 W)
  have HTB := Lib.hid (fun (i : Nat) (t : Tk) (ht : (tasksT (inN r k b wk) (mpN r k b wk) (mN r k b wk) (tN r k b wk))[i]? = some t) => tasks_bi h ht)
  have HWF := Lib.hid (show ∀ t ∈ tasksT (inN r k b wk) (mpN r k b wk) (mN r k b wk) (tN r k b wk), kT.wf t from fun t ht => (tasks_b h ht).wf)
  have hlen : (tasksT (inN r k b wk) (mpN r k b wk) (mN r k b wk) (tN r k b wk)).length ≤ 1000 := by rw [tasks_length h]; exact cn_le h (by omega)
  generalize tasksT (inN r k b wk) (mpN r k b wk) (mN r k b wk) (tN r k b wk) = l at *
  clear h
  go_enter Tryd.func23, Tryd.ntmps23
  go_wp2_with (first
    | (refine wpList_box_blk (w := w) rfl 23 _ rfl _ rfl ?_; intro u0 qu0 gu0 zu0)
    | (refine wpList_box_blk (w := u0) rfl 42 _ rfl _ rfl ?_; intro u1 qu1 gu1 zu1; have b1 : Below w.heap.size w u1 := ((Below.refl _ w).grown gu0 (Nat.le_refl _) (by simp)).grown gu1 gu0.size (by simp); have qp1 := qu0.grown gu1 (by simp))
    | (refine wpList_load_blk (w := u1) rfl 23 _ rfl (w.heap.size) 4 rfl 23 _ qp1 _ Tryd.underlying23 rfl (by kernel_rfl) rfl ?_))
  refine (HRT.out u1).mono ?_
  rintro e u2 ⟨A0, N, c0, rfl, hN, o2, b2⟩
  have qp2 := qp1.after b2
  have qs2 := qu1.after b2
  have bo := b1.trans (b2.mono b1.size)
  have hbz := bo.size
  have L0 : Lst kT u2 u2.heap.size A0 N l := OwnL.lst o2 HWF.out
  have hN' := hN.out
  rw [hN'] at hlen
  have hlp : w.heap.size < u0.heap.size := qu0.lt
  generalize u0.heap.size = gs at *
  clear o2 b1 b2 gu0 gu1 zu0 zu1 qu0 qu1 qp1
  go_wp2_with fail
  go_loopw [6] (fun i wr => ∃ n : Nat, n ≤ N ∧ i = .int .i64 n ∧ Below u2.heap.size u2 wr ∧ Hid (∀ (j : Nat) (u : Tk), j < n → l[j]? = some u → (⟨ph, rd, ad⟩ : Sp) ∉ writesT k u)) (fun i _ => N - (intOf i).toNat)
  case atStart => exact ⟨0, by omega, rfl, Below.refl _ _, Lib.hid (fun j u hj => by omega)⟩
  case round =>
    obtain ⟨n, hn, rfl, bR, HNO⟩ := hrel
    have qp := qp2.after bR
    have qs := qs2.after bR
    have bw := bo.trans (bR.mono hbz)
    have hsz := bR.size
    have hLR := L0.below bR
    by_cases hlm : n < N
    · have hlm' : (n : Int) < (N : Int) := by omega
      have hi0 : (0 : Int) ≤ (n : Int) := by omega
      have haddn : IntKind.i64.wrap ((n : Int) + 1) = (n : Int) + 1 := by rw [IntKind.wrap_i64]; omega
      obtain ⟨t, ht⟩ : ∃ t, l[n]? = some t := ⟨_, List.getElem?_eq_getElem (by omega)⟩
      have HTT := Lib.hid ht
      have hb := HTB.out n t ht
      have HK0 := Lib.hid (show 0 ≤ k ∧ k ≤ 4 by have := HK.out n t ht; omega)
      have HW4 := Lib.hid (show (writesT k t).length ≤ 4 ∧ ∀ s ∈ writesT k t, s.wf from ⟨writes_length (fun _ => HK0.out), writes_wf hb (fun _ => HK0.out)⟩)
      obtain ⟨bl, off, rfl, hbl, hx⟩ := hLR.at_ hlm
      have hx : wr.rangeAt bl (off + n * 5) (l.getD n T0).cells := hx
      rw [show l.getD n T0 = t by rw [List.getD_eq_getElem?_getD, ht]; rfl] at hx
      obtain ⟨tk, tr, ta, tb, up⟩ := t
      have hx : wr.rangeAt bl (off + n * 5) [.int .i64 tk, .int .i64 tr, .int .i64 ta, .int .i64 tb, .bool up] := hx
      have hbl : bl < wr.heap.size := by omega
      clear ht hLR
      go_wp2_with fail
      refine wp_region_held (S := fun W => Below wr.heap.size wr W) (by kernel_rfl) ?_
      change wpAnyH _ _ _ _ _ _ _ _ wr.drew
      have c0_0 := (Below.refl wr.heap.size wr).drew
      refine Held.tk (v := .agg #[.int .i64 r, .int .i64 k, .int .i64 b, .int .i64 wk]) 0 (some 17) rfl (Held.y_load_blk (n := 4) rfl rfl Tryd.underlying23 rfl (by kernel_rfl) rfl (fun W hW => qp.after hW)) c0_0 ?_
      simp only [Act.put, Z1, Z2, Z3]
      refine Held.tk (v := .slice (some ⟨bl, off, none⟩) N c0) 1 (some 18) rfl (Held.y_move rfl rfl) c0_0 ?_
      simp only [Act.put, Z1, Z2, Z3]
      refine Held.tk (v := .int .i64 (n : Int)) 2 (some 19) rfl (Held.y_move rfl rfl) c0_0 ?_
      simp only [Act.put, Z1, Z2, Z3]
      refine Held.tk (v := .pointer (some ⟨bl, off + n * 5, none⟩)) 3 (some 20) rfl (Held.y_addr rfl rfl rfl (run_addr_of 28 34 bl off N c0 n 5 .i64 Tryd.underlying28 (by kernel_rfl) hlm)) c0_0 ?_
      simp only [Act.put, Z1, Z2, Z3]
      refine Held.tk (v := .agg #[.int .i64 tk, .int .i64 tr, .int .i64 ta, .int .i64 tb, .bool up]) 4 (some 21) rfl (y_load_range (n := 5) (cs := [.int .i64 tk, .int .i64 tr, .int .i64 ta, .int .i64 tb, .bool up]) rfl rfl Tryd.underlying34 rfl (by kernel_rfl) rfl (fun W hW => range_below hx hW hbl)) c0_0 ?_
      simp only [Act.put, Z1, Z2, Z3]
      refine Held.one 5 (by kernel_rfl) ?_
      refine Held.op_call 5 (some 22) 45 #[.agg #[.int .i64 r, .int .i64 k, .int .i64 b, .int .i64 wk], .agg #[.int .i64 tk, .int .i64 tr, .int .i64 ta, .int .i64 tb, .bool up]] rfl rfl rfl rfl (enters_of Tryd.func45 (by kernel_rfl) rfl) (by simp [Act.eval])
        (rwrites_any r k b wk tk tr ta tb up hb (fun _ => HK0.out) _) ?_
      rintro e w1 ⟨A1, n1, c1, rfl, hn1, o1, b1⟩
      have c0_1 := c0_0.trans (b1.mono c0_0.size)
      refine ⟨_, rfl, c0_1, ?_⟩
      simp only [Act.put, Z1, Z2, Z3]
      refine Held.tk (v := .slice A1 n1 c1) 6 (some 7) rfl (Held.y_assign rfl rfl) c0_1 ?_
      simp only [Act.put, Z1, Z2, Z3]
      refine wpAnyH_done (by kernel_rfl) ?_ _
      have bz := bR.trans (c0_1.mono hsz)
      have CZ := c0_1
      have qs := qs.after CZ
      have lw : Lst kS w1 w1.heap.size A1 n1 (writesT k ⟨tk, tr, ta, tb, up⟩) := OwnL.lst (xs := writesT k ⟨tk, tr, ta, tb, up⟩) o1 HW4.out.2
      have hn1' := hn1.out
      have hn4 : n1 ≤ 4 := by rw [← hn1']; exact HW4.out.1
      have HN1 := Lib.hid hn1'
      generalize hwt : writesT k ⟨tk, tr, ta, tb, up⟩ = ws at *
      have HWT := Lib.hid hwt
      have hwz := bz.size
      clear hx o1 CZ b1 hn1 hn1' c0_0 c0_1 bR hb bw qp hwt
      go_wp2_with fail
      obtain ⟨wL, hwL⟩ : ∃ W, W = w1 := ⟨_, rfl⟩
      go_loopw [8] (fun i wx => ∃ m : Nat, m ≤ n1 ∧ i = .int .i64 m ∧ Below w1.heap.size w1 wx ∧ Hid ((⟨ph, rd, ad⟩ : Sp) ∉ ws.take m)) (fun i _ => n1 - (intOf i).toNat)
      case atStart => exact ⟨0, by omega, rfl, Below.refl _ _, Lib.hid (by simp)⟩
      case round =>
        obtain ⟨m, hm, rfl, b9, HT9⟩ := hrel
        have hz9 := b9.size
        have qs := qs.after b9
        have hl9 := lw.below b9
        have b29 := bz.trans (b9.mono hwz)
        by_cases hlm2 : m < n1
        · have hlm2' : (m : Int) < (n1 : Int) := by omega
          have hm0 : (0 : Int) ≤ (m : Int) := by omega
          have haddm : IntKind.i64.wrap ((m : Int) + 1) = (m : Int) + 1 := by rw [IntKind.wrap_i64]; omega
          have hkl : m < ws.length := by have := HN1.out; omega
          have hge : ws.getD m S0 = ws[m] := by simp [List.getD_eq_getElem?_getD, List.getElem?_eq_getElem hkl]
          obtain ⟨b2, off2, rfl, hb2, hy⟩ := hl9.at_ hlm2
          have hy : wr.rangeAt b2 (off2 + m * 3) (ws.getD m S0).cells := hy
          have hb2 : b2 < wr.heap.size := by omega
          by_cases hq0 : ws.getD m S0 = ⟨ph, rd, ad⟩
          · have HMK := Lib.hid (show makesT k l ⟨ph, rd, ad⟩ = (n : Int) from makesT_some HTT.out (by rw [HWT.out, ← hq0, hge]; exact List.getElem_mem hkl) HNO.out)
            have hq : decide (ws.getD m S0 = ⟨ph, rd, ad⟩) = true := by simpa using hq0
            clear hq0 hge
            generalize ws.getD m S0 = y at hy hq
            have HR := Lib.hid (show decide (y.ph = ph ∧ y.rd = rd ∧ y.ad = ad) = decide (y = ⟨ph, rd, ad⟩) from decide_eq_decide.2 (Sp_iff (a := y) (b := ⟨ph, rd, ad⟩)).symm)
            go_wp2_with fail
            refine wp_region_held (S := fun W => Below wr.heap.size wr W) (by kernel_rfl) ?_
            change wpAnyH _ _ _ _ _ _ _ _ wr.drew
            have c0_0 := (Below.refl wr.heap.size wr).drew
            refine Held.tk (v := .slice (some ⟨b2, off2, none⟩) n1 c1) 0 (some 29) rfl (Held.y_move rfl rfl) c0_0 ?_
            simp only [Act.put, Z1, Z2, Z3]
            refine Held.tk (v := .int .i64 (m : Int)) 1 (some 30) rfl (Held.y_move rfl rfl) c0_0 ?_
            simp only [Act.put, Z1, Z2, Z3]
            refine Held.tk (v := .pointer (some ⟨b2, off2 + m * 3, none⟩)) 2 (some 31) rfl (Held.y_addr rfl rfl rfl (run_addr_of 47 42 b2 off2 n1 c1 m 3 .i64 Tryd.underlying47 (by kernel_rfl) hlm2)) c0_0 ?_
            simp only [Act.put, Z1, Z2, Z3]
            refine Held.tk (v := .agg #[.int .i64 y.ph, .int .i64 y.rd, .int .i64 y.ad]) 3 (some 32) rfl (y_load_range (n := 3) (cs := y.cells) rfl rfl Tryd.underlying42 rfl (by kernel_rfl) rfl (fun W hW => range_below hy hW hb2)) c0_0 ?_
            simp only [Act.put, Z1, Z2, Z3]
            refine Held.tk (v := .agg #[.int .i64 ph, .int .i64 rd, .int .i64 ad]) 4 (some 33) rfl (Held.y_load_blk (n := 3) rfl rfl Tryd.underlying42 rfl (by kernel_rfl) rfl (fun W hW => qs.after hW)) c0_0 ?_
            simp only [Act.put, Z1, Z2, Z3]
            refine Held.tk (v := .bool true) 5 (some 34) rfl (y_eqS (b := ⟨ph, rd, ad⟩) rfl rfl rfl (HR.out.trans hq)) c0_0 ?_
            simp only [Act.put, Z1, Z2, Z3]
            refine wpAnyH_done (by kernel_rfl) ?_ _
            have b10 := b9.trans (c0_0.mono hz9)
            have bf := bo.trans ((bz.trans (b10.mono hwz)).mono hbz)
            go_wp2_with fail
            go_ret
            exact ⟨by rw [HMK.out]; rfl, bf⟩
          · have HT := Lib.hid (show (⟨ph, rd, ad⟩ : Sp) ∉ ws.take (m + 1) by
              rw [List.take_add_one, List.getElem?_eq_getElem hkl, List.mem_append]
              rintro (h1 | h1)
              · exact HT9.out h1
              · simp at h1; exact hq0 (by rw [hge, h1]))
            have hq : decide (ws.getD m S0 = ⟨ph, rd, ad⟩) = false := by simpa using hq0
            clear hq0 hge
            generalize ws.getD m S0 = y at hy hq
            have HR := Lib.hid (show decide (y.ph = ph ∧ y.rd = rd ∧ y.ad = ad) = decide (y = ⟨ph, rd, ad⟩) from decide_eq_decide.2 (Sp_iff (a := y) (b := ⟨ph, rd, ad⟩)).symm)
            go_wp2_with fail
            refine wp_region_held (S := fun W => Below wr.heap.size wr W) (by kernel_rfl) ?_
            change wpAnyH _ _ _ _ _ _ _ _ wr.drew
            have c0_0 := (Below.refl wr.heap.size wr).drew
            refine Held.tk (v := .slice (some ⟨b2, off2, none⟩) n1 c1) 0 (some 29) rfl (Held.y_move rfl rfl) c0_0 ?_
            simp only [Act.put, Z1, Z2, Z3]
            refine Held.tk (v := .int .i64 (m : Int)) 1 (some 30) rfl (Held.y_move rfl rfl) c0_0 ?_
            simp only [Act.put, Z1, Z2, Z3]
            refine Held.tk (v := .pointer (some ⟨b2, off2 + m * 3, none⟩)) 2 (some 31) rfl (Held.y_addr rfl rfl rfl (run_addr_of 47 42 b2 off2 n1 c1 m 3 .i64 Tryd.underlying47 (by kernel_rfl) hlm2)) c0_0 ?_
            simp only [Act.put, Z1, Z2, Z3]
            refine Held.tk (v := .agg #[.int .i64 y.ph, .int .i64 y.rd, .int .i64 y.ad]) 3 (some 32) rfl (y_load_range (n := 3) (cs := y.cells) rfl rfl Tryd.underlying42 rfl (by kernel_rfl) rfl (fun W hW => range_below hy hW hb2)) c0_0 ?_
            simp only [Act.put, Z1, Z2, Z3]
            refine Held.tk (v := .agg #[.int .i64 ph, .int .i64 rd, .int .i64 ad]) 4 (some 33) rfl (Held.y_load_blk (n := 3) rfl rfl Tryd.underlying42 rfl (by kernel_rfl) rfl (fun W hW => qs.after hW)) c0_0 ?_
            simp only [Act.put, Z1, Z2, Z3]
            refine Held.tk (v := .bool false) 5 (some 34) rfl (y_eqS (b := ⟨ph, rd, ad⟩) rfl rfl rfl (HR.out.trans hq)) c0_0 ?_
            simp only [Act.put, Z1, Z2, Z3]
            refine wpAnyH_done (by kernel_rfl) ?_ _
            have b10 := b9.trans (c0_0.mono hz9)
            go_wp2_with fail
            go_roundw
            case rel => exact ⟨m + 1, by omega, by go_num, b10, HT⟩
            case measure => simp [intOf]; omega
        · have HNX := Lib.hid (show ∀ (j : Nat) (u : Tk), j < n + 1 → l[j]? = some u → (⟨ph, rd, ad⟩ : Sp) ∉ writesT k u from fun j u hj hu => by
            rcases Nat.lt_or_ge j n with c | c
            · exact HNO.out j u c hu
            · obtain rfl : j = n := by omega
              rw [HTT.out] at hu
              injection hu with hu
              subst hu
              rw [HWT.out]
              have := HT9.out
              rwa [List.take_of_length_le (by have := HN1.out; omega)] at this)
          clear hl9
          go_wp2_with fail
          go_roundw
          case rel => exact ⟨n + 1, by omega, by go_num, b29, HNX⟩
          case measure => simp [intOf]; omega
    · have HMK := Lib.hid (show makesT k l ⟨ph, rd, ad⟩ = -1 from makesT_none (fun j u hu => HNO.out j u (by have := (List.getElem?_eq_some_iff.1 hu).1; omega) hu))
      clear hLR
      go_wp2_with fail
      go_ret
      exact ⟨by rw [HMK.out]; rfl, bw⟩
end Go.Proofs.YtipmfficjomcoaaDoor.Sh
namespace Go.Proofs.YtipmfficjomcoaaDoor.Sh
open Go.RowKit Go.Shelf Mem Held Rs Go.Proofs.YtipmfficjomcoaaDoor.Range Sl
attribute [local go_sem] Oper.semAt_some
attribute [local irreducible] wpList wpListIn Calls
set_option maxRecDepth 100000 in
set_option maxHeartbeats 8000000 in
theorem rready_of (B : Nat) (Ad : Option Addr) (nd cd : Nat) (bs : List Bool) (r k b wk n : Int) (hk0 : -9223372036854775808 ≤ k) (hk1 : k ≤ 9223372036854775807) (w : World) (hd : Lst Vm.kB w B Ad nd bs) (hB : B ≤ w.heap.size) :
    Calls Tryd.prog 25 #[.agg #[.int .i64 r, .int .i64 k, .int .i64 b, .int .i64 wk], .slice Ad nd cd, .int .i64 n] w fun e w' => e = .returned (.bool (readyT k (tasksT (inN r k b wk) (mpN r k b wk) (mN r k b wk) (tN r k b wk)) (tN r k b wk : Int) bs (taskAt (tasksT (inN r k b wk) (mpN r k b wk) (mN r k b wk) (tN r k b wk)) n))) ∧ Below w.heap.size w w' := by
  have h := job_of (r := r) (b := b) (wk := wk) hk0 hk1
  have HMK := Lib.hid (fun (ph rd ad : Int) (W : World) => rmakes_any r k b wk ph rd ad hk0 hk1 W)
  have HRT := Lib.hid (fun W => rtasks_any r k b wk hk0 hk1 W)
  have HRR := Lib.hid (fun W => rreads_of r k b wk n hk0 hk1 W)
  have hdl := hd.1
  generalize inN r k b wk = I at *
  generalize mpN r k b wk = mp at *
  generalize mN r k b wk = M at *
  generalize tN r k b wk = T at *
  have HML := Lib.hid (fun s => makesT_le k (tasksT I mp M T) s)
  have HLN := Lib.hid (show (tasksT I mp M T).length ≤ 1000 by rw [tasks_length h]; exact cn_le h (by omega))
  have HTB := Lib.hid (fun (i : Nat) (t : Tk) (ht : (tasksT I mp M T)[i]? = some t) => tasks_bi h ht)
  have HT15 := Lib.hid h.t15
  generalize tasksT I mp M T = l at *
  clear h
  by_cases hn : n < 0
  · have HE := Lib.hid (taskAt_lt (l := l) hn)
    rw [HE.out]
    go_enter Tryd.func25, Tryd.ntmps25
    go_wp2_with (first
      | (refine wpList_box_blk (w := w) rfl 23 _ rfl _ rfl ?_; intro u1 qu1 gu1 zu1; have b1 : Below w.heap.size w u1 := (Below.refl _ w).grown gu1 (Nat.le_refl _) (by simp))
      | (refine wpList_load_blk (w := u1) rfl 23 _ rfl (w.heap.size) 4 rfl 23 _ qu1 _ Tryd.underlying23 rfl (by kernel_rfl) rfl ?_))
    go_ret
    exact ⟨rfl, b1⟩
  · obtain ⟨i, rfl⟩ : ∃ i : Nat, n = (i : Int) := ⟨n.toNat, by omega⟩
    by_cases hlm : i < l.length
    · obtain ⟨t, ht⟩ : ∃ t, l[i]? = some t := ⟨_, List.getElem?_eq_getElem hlm⟩
      have HE := Lib.hid (taskAt_some ht rfl)
      have hb := HTB.out i t ht
      rw [HE.out]
      rw [HE.out] at HRR
      have HRL := Lib.hid (reads_length (T : Int) t)
      have HRS := Lib.hid (show readyT k l (T : Int) bs (some t) = (readsT (T : Int) t).all (thereT k l bs) from rfl)
      have HRW := Lib.hid (reads_wf hb (show (0 : Int) ≤ (T : Int) by omega) (by have := HT15.out; omega))
      rw [HRS.out]
      have HRR : Hid (∀ W : World, Calls Tryd.prog 19 #[.agg #[.int .i64 r, .int .i64 k, .int .i64 b, .int .i64 wk], .int .i64 (i : Int)] W fun e w' => ∃ A m c, e = .returned (.slice A m c) ∧ Hid ((readsT (T : Int) t).length = m) ∧ OwnL kS 42 w' W.heap.size (.slice A m c) (readsT (T : Int) t) ∧ Below W.heap.size W w') := HRR
      obtain ⟨rs, hrs⟩ : ∃ rs, readsT (T : Int) t = rs := ⟨_, rfl⟩
      rw [hrs] at HRR HRL HRW ⊢
      clear ht HTB hb HRS hrs
      go_enter Tryd.func25, Tryd.ntmps25
      go_wp2_with (first
        | (refine wpList_box_blk (w := w) rfl 23 _ rfl _ rfl ?_; intro u1 qu1 gu1 zu1; have b1 : Below w.heap.size w u1 := (Below.refl _ w).grown gu1 (Nat.le_refl _) (by simp))
        | (refine wpList_load_blk (w := u1) rfl 23 _ rfl (w.heap.size) 4 rfl 23 _ qu1 _ Tryd.underlying23 rfl (by kernel_rfl) rfl ?_))
      refine (HRT.out u1).mono ?_
      rintro e u2 ⟨A0, N, c0, rfl, hN, o2, b2⟩
      have qp2 := qu1.after b2
      have bo := b1.trans (b2.mono b1.size)
      have hN' := hN.out
      rw [hN'] at hlm
      have hgeq : decide ((N : Int) ≤ (i : Int)) = false := decide_eq_false (by omega)
      clear o2 b1 b2 gu1 zu1 qu1 hN hN' HRT
      go_wp2_with (first
        | (refine Held.wpList_run (w := u2) rfl (v := .bool false) (Sp.y_geq (S := fun _ => True) rfl rfl rfl hgeq _ trivial) ?_)
        | (refine wpList_load_blk (w := u2) rfl 23 _ rfl (w.heap.size) 4 rfl 23 _ qp2 _ Tryd.underlying23 rfl (by kernel_rfl) rfl ?_))
      refine (HRR.out u2).mono ?_
      rintro e u3 ⟨A1, n1, c1, rfl, hn1, o3, b3⟩
      have qp3 := qp2.after b3
      have bz := bo.trans (b3.mono bo.size)
      have HN1 := hn1
      have hn2 : n1 ≤ 2 := by have := HRL.out; have := HN1.out; omega
      have hlp : w.heap.size < u2.heap.size := qp2.lt
      have hz2 := b3.size
      have ol : Lst kS u3 u3.heap.size A1 n1 rs := OwnL.lst o3 HRW.out
      clear o3 b3 bo qp2 hn1 hgeq hlm HRR
      go_wp2_with fail
      go_loopw [8] (fun i' wr => ∃ m : Nat, m ≤ n1 ∧ i' = .int .i64 m ∧ Hid (∀ j, j < m → thereT k l bs (rs.getD j S0) = true) ∧ Lst kS wr u3.heap.size A1 n1 rs ∧ Blk wr w.heap.size 23 #[.int .i64 r, .int .i64 k, .int .i64 b, .int .i64 wk] ∧ Below w.heap.size w wr ∧ u3.heap.size ≤ wr.heap.size) (fun i' _ => n1 - (intOf i').toNat)
      case atStart => exact ⟨0, by omega, rfl, Lib.hid (fun j hj => by omega), ol, qp3, bz, Nat.le_refl _⟩
      case round =>
        clear ol qp3 bz
        obtain ⟨m, hm, rfl, hth, hl, qp, bw, hzz⟩ := hrel
        have hwr := bw.size
        by_cases hlt : m < n1
        · have hlt' : (m : Int) < (n1 : Int) := by omega
          have hm0 : (0 : Int) ≤ (m : Int) := by omega
          have hmr : m < rs.length := by have := HN1.out; omega
          have hadd : IntKind.i64.wrap ((m : Int) + 1) = (m : Int) + 1 := by rw [IntKind.wrap_i64]; omega
          obtain ⟨bl, off, rfl, hbl, hc⟩ := hl.at_ hlt
          have HAF := Lib.hid (fun (h : thereT k l bs (rs.getD m S0) = false) => all_false hmr h)
          have HST := Lib.hid (fun (h : thereT k l bs (rs.getD m S0) = true) => show ∀ j, j < m + 1 → thereT k l bs (rs.getD j S0) = true from fun j hj => by
            rcases Nat.lt_or_ge j m with c | c
            · exact hth.out j c
            · obtain rfl : j = m := by omega
              exact h)
          have hml := HML.out (rs.getD m S0)
          have HTD := Lib.hid (show thereT k l bs (rs.getD m S0) = (decide (makesT k l (rs.getD m S0) < 0) || (decide (makesT k l (rs.getD m S0) < (bs.length : Int)) && bs.getD (makesT k l (rs.getD m S0)).toNat false)) from rfl)
          change wr.rangeAt bl (off + m * 3) (kS.cells (rs.getD m S0)) at hc
          generalize rs.getD m S0 = s at hc hml HAF HST HTD
          obtain ⟨ph, rd', ad⟩ := s
          have hc : wr.rangeAt bl (off + m * 3) [.int .i64 ph, .int .i64 rd', .int .i64 ad] := hc
          have hbl' : bl < wr.heap.size := by omega
          have hln := HLN.out
          obtain ⟨mk, hmk⟩ : ∃ mk, makesT k l ⟨ph, rd', ad⟩ = mk := ⟨_, rfl⟩
          have HMK2 : Hid (∀ W : World, Calls Tryd.prog 23 #[.agg #[.int .i64 r, .int .i64 k, .int .i64 b, .int .i64 wk], .agg #[.int .i64 ph, .int .i64 rd', .int .i64 ad]] W fun e w' => e = .returned (.int .i64 mk) ∧ Below W.heap.size W w') := Lib.hid (fun W => by rw [← hmk]; exact HMK.out ph rd' ad W)
          rw [hmk] at hml HTD
          clear hmk
          go_wp2_with fail
          refine wp_region_held (S := fun W => Below wr.heap.size wr W) (by kernel_rfl) ?_
          change wpAnyH _ _ _ _ _ _ _ _ wr.drew
          have c0_0 := (Below.refl wr.heap.size wr).drew
          refine Held.tk (v := .agg #[.int .i64 r, .int .i64 k, .int .i64 b, .int .i64 wk]) 0 (some 28) rfl (Held.y_load_blk (n := 4) rfl rfl Tryd.underlying23 rfl (by kernel_rfl) rfl (fun W hW => qp.after hW)) c0_0 ?_
          simp only [Act.put, Z1, Z2, Z3]
          refine Held.tk (v := .slice (some ⟨bl, off, none⟩) n1 c1) 1 (some 29) rfl (Held.y_move rfl rfl) c0_0 ?_
          simp only [Act.put, Z1, Z2, Z3]
          refine Held.tk (v := .int .i64 (m : Int)) 2 (some 30) rfl (Held.y_move rfl rfl) c0_0 ?_
          simp only [Act.put, Z1, Z2, Z3]
          refine Held.tk (v := .pointer (some ⟨bl, off + m * 3, none⟩)) 3 (some 31) rfl (Held.y_addr rfl rfl rfl (run_addr_of 47 42 bl off n1 c1 m 3 .i64 Tryd.underlying47 (by kernel_rfl) hlt)) c0_0 ?_
          simp only [Act.put, Z1, Z2, Z3]
          refine Held.tk (v := (.agg #[.int .i64 ph, .int .i64 rd', .int .i64 ad])) 4 (some 32) rfl (y_load_range (n := 3) (cs := [.int .i64 ph, .int .i64 rd', .int .i64 ad]) rfl rfl Tryd.underlying42 rfl (by kernel_rfl) rfl (fun W hW => range_below hc hW hbl')) c0_0 ?_
          simp only [Act.put, Z1, Z2, Z3]
          refine Held.one 5 (by kernel_rfl) ?_
          refine Held.op_call 5 (some 33) 23 #[.agg #[.int .i64 r, .int .i64 k, .int .i64 b, .int .i64 wk], .agg #[.int .i64 ph, .int .i64 rd', .int .i64 ad]] rfl rfl rfl rfl (enters_of Tryd.func23 (by kernel_rfl) rfl) (by simp [Act.eval])
            (HMK2.out _) ?_
          rintro e w1 ⟨rfl, b1⟩
          have c0_1 := c0_0.trans (b1.mono c0_0.size)
          refine ⟨_, rfl, c0_1, ?_⟩
          simp only [Act.put, Z1, Z2, Z3]
          refine Held.tk (v := .int .i64 mk) 6 (some 9) rfl (Held.y_assign rfl rfl) c0_1 ?_
          simp only [Act.put, Z1, Z2, Z3]
          refine wpAnyH_done (by kernel_rfl) ?_ _
          have CZ := c0_1
          have hl3 := hl.below (CZ.mono hzz)
          have qp3 := qp.after CZ
          have bw3 := bw.trans (CZ.mono hwr)
          have hd3 := hd.below (bw3.mono hB)
          have hz3 := CZ.size
          clear hc hbl hbl' CZ b1 c0_0 c0_1 bw qp hl HMK2
          by_cases hB0 : (0 : Int) ≤ mk
          · obtain ⟨mn, rfl⟩ : ∃ mn : Nat, mk = (mn : Int) := ⟨mk.toNat, by omega⟩
            have hdB : decide ((0 : Int) ≤ (mn : Int)) = true := decide_eq_true hB0
            by_cases hA : (nd : Int) ≤ (mn : Int)
            · have hdA : decide ((nd : Int) ≤ (mn : Int)) = true := decide_eq_true hA
              have HF := Lib.hid (HAF.out (by rw [HTD.out, decide_eq_false (show ¬ (mn : Int) < 0 by omega), decide_eq_false (show ¬ (mn : Int) < (bs.length : Int) by omega)]; rfl))
              clear hA
              go_wp2_with (first
                | (refine Held.wpList_run (w := w1) rfl (v := .bool true) (Sp.y_geq (S := fun _ => True) rfl rfl rfl hdB _ trivial) ?_)
                | (refine Held.wpList_run (w := w1) rfl (v := .bool true) (Sp.y_geq (S := fun _ => True) rfl rfl rfl hdA _ trivial) ?_))
              go_ret
              exact ⟨Mem.ret_bool HF.out.symm, bw3⟩
            · have hdA : decide ((nd : Int) ≤ (mn : Int)) = false := decide_eq_false hA
              have hmn : mn < nd := by omega
              have hmn' : (mn : Int) < (nd : Int) := by omega
              obtain ⟨bd, offd, rfl, hbd, hcd⟩ := hd3.at_ hmn
              have hcd : w1.cell? ⟨bd, offd + mn, none⟩ = some (.bool (bs.getD mn false)) := by
                have := hcd 0 _ rfl
                simpa [Vm.kB] using this
              have HTB := Lib.hid (show thereT k l bs ⟨ph, rd', ad⟩ = bs.getD mn false by
                rw [HTD.out, decide_eq_false (show ¬ (mn : Int) < 0 by omega), decide_eq_true (show (mn : Int) < (bs.length : Int) by omega), Int.toNat_natCast]
                rfl)
              generalize bs.getD mn false = bb at hcd HTB
              clear hA hml
              cases bb with
              | false =>
                have HF := Lib.hid (HAF.out HTB.out)
                go_wp2_with (first
                  | (refine Held.wpList_run (w := w1) rfl (v := .bool true) (Sp.y_geq (S := fun _ => True) rfl rfl rfl hdB _ trivial) ?_)
                  | (refine Held.wpList_run (w := w1) rfl (v := .bool false) (Sp.y_geq (S := fun _ => True) rfl rfl rfl hdA _ trivial) ?_))
                go_ret
                exact ⟨Mem.ret_bool HF.out.symm, bw3⟩
              | true =>
                have HF := Lib.hid (HST.out HTB.out)
                go_wp2_with (first
                  | (refine Held.wpList_run (w := w1) rfl (v := .bool true) (Sp.y_geq (S := fun _ => True) rfl rfl rfl hdB _ trivial) ?_)
                  | (refine Held.wpList_run (w := w1) rfl (v := .bool false) (Sp.y_geq (S := fun _ => True) rfl rfl rfl hdA _ trivial) ?_))
                go_roundw
                case rel => exact ⟨m + 1, by omega, by go_num, HF, hl3, qp3, bw3, by omega⟩
                case measure => simp [intOf]; omega
          · have hdB : decide ((0 : Int) ≤ mk) = false := decide_eq_false hB0
            have HF := Lib.hid (HST.out (by rw [HTD.out, decide_eq_true (show mk < 0 by omega)]; rfl))
            clear hB0 hml
            go_wp2_with (first
              | (refine Held.wpList_run (w := w1) rfl (v := .bool false) (Sp.y_geq (S := fun _ => True) rfl rfl rfl hdB _ trivial) ?_))
            go_roundw
            case rel => exact ⟨m + 1, by omega, by go_num, HF, hl3, qp3, bw3, by omega⟩
            case measure => simp [intOf]; omega
        · obtain rfl : m = n1 := by omega
          have HR := Lib.hid (show rs.all (thereT k l bs) = true from all_true (fun i hi => hth.out i (by have := HN1.out; omega)))
          go_wp2_with fail
          go_ret
          exact ⟨Mem.ret_bool HR.out.symm, bw⟩
    · have HE := Lib.hid (taskAt_ge (l := l) hn (by omega))
      rw [HE.out]
      go_enter Tryd.func25, Tryd.ntmps25
      go_wp2_with (first
        | (refine wpList_box_blk (w := w) rfl 23 _ rfl _ rfl ?_; intro u1 qu1 gu1 zu1; have b1 : Below w.heap.size w u1 := (Below.refl _ w).grown gu1 (Nat.le_refl _) (by simp))
        | (refine wpList_load_blk (w := u1) rfl 23 _ rfl (w.heap.size) 4 rfl 23 _ qu1 _ Tryd.underlying23 rfl (by kernel_rfl) rfl ?_))
      refine (HRT.out u1).mono ?_
      rintro e u2 ⟨A0, N, c0, rfl, hN, o2, b2⟩
      have bo := b1.trans (b2.mono b1.size)
      have hN' := hN.out
      have hgeq : decide ((N : Int) ≤ (i : Int)) = true := decide_eq_true (by omega)
      go_wp2_with (first
        | (refine Held.wpList_run (w := u2) rfl (v := .bool true) (Sp.y_geq (S := fun _ => True) rfl rfl rfl hgeq _ trivial) ?_))
      go_ret
      exact ⟨rfl, bo⟩
end Go.Proofs.YtipmfficjomcoaaDoor.Sh
