/-
  The functions Same and Plain of package dominohelp on records, by their contracts.
  The functions Own and Kept of package dominohelp on records, by their contracts.
  Package record's Take, by its contract.
  A number's eight bytes, numbers' bytes, and a number of bytes, by the document's own, by their contracts: with no other layer.
  The document's own Ahead, Before, Pack and Take of records, and the laws' first line, by their contracts.
-/
import Derived.Test.YtjelacblnjbfgaaGreatDoorB12
import Derived.Test.YtjelacblnjbfgaaGreatDoorB2
import Derived.OwnWalk
import Derived.Lib.BufferOwn
import Derived.Maps.AppendAt
import Derived.Great.BuildSlice
import Derived.Test.YtjelacblnjbfgaaGreatDoorB8
import Derived.BigQuiet
set_option linter.unusedVariables false
namespace Go.Proofs.YtjelacblnjbfgaaGreatDoor.Rs
open Go.RowKit Go.Shelf Go.Proofs.YtjelacblnjbfgaaGreatDoor Mem Held Rc
attribute [local irreducible] wpList wpListIn Calls
theorem eqr_any (a b : R) (w : World) : Calls Tryz.prog 31 #[.agg #[.bool a.d, .int .i64 a.k, .int .i64 a.v, .int .i64 a.s], .agg #[.bool b.d, .int .i64 b.k, .int .i64 b.v, .int .i64 b.s]] w fun e w' => e = .returned (.bool (decide (a = b))) ∧ Below w.heap.size w w' := by
  have HR := Lib.hid (show decide (a.d = b.d ∧ a.k = b.k ∧ a.v = b.v ∧ a.s = b.s) = decide (a = b) from decide_eq_decide.2 R.iff.symm)
  go_enter Tryz.func31, Tryz.ntmps31
  go_wp2_with (first
    | (refine wpList_box_blk (w := w) rfl 37 _ rfl _ rfl ?_; intro w1 q1 g1 z1)
    | (refine wpList_box_blk (w := w1) rfl 37 _ rfl _ rfl ?_; intro w2 q2 g2 z2; have q1 := q1.grown g2 (by simp))
    | (refine wpList_load_blk (w := w2) rfl 37 _ rfl w.heap.size 4 rfl 37 _ q1 _ Tryz.underlying37 rfl (by kernel_rfl) rfl ?_)
    | (refine wpList_load_blk (w := w2) rfl 37 _ rfl w1.heap.size 4 rfl 37 _ q2 _ Tryz.underlying37 rfl (by kernel_rfl) rfl ?_)
    | (refine wpList_run rfl (v := .bool (decide (a = b))) (y_eqr (S := fun _ => True) rfl rfl rfl HR.out _ trivial) ?_))
  go_ret
  exact ⟨rfl, ((Below.refl _ w).grown g1 (Nat.le_refl _) (by simp)).grown g2 g1.size (by simp)⟩
theorem take_stepR {xs ys : List R} {k : Nat} (hx : k < xs.length) (hy : k < ys.length) (h : xs.take k = ys.take k) (e : xs.getD k R0 = ys.getD k R0) : xs.take (k + 1) = ys.take (k + 1) := by
  rw [List.take_add_one, List.take_add_one, h]
  simp only [List.getD_eq_getElem?_getD, List.getElem?_eq_getElem hx, List.getElem?_eq_getElem hy, Option.getD_some] at e
  rw [List.getElem?_eq_getElem hx, List.getElem?_eq_getElem hy, e]
set_option maxRecDepth 100000 in
set_option maxHeartbeats 4000000 in
theorem same_any (B B' : Nat) (A A' : Option Addr) (n n' c c' : Nat) (rs rs' : List R) (w : World) (h : Recs w B A n rs) (h' : Recs w B' A' n' rs') (hB : B ≤ w.heap.size) (hB' : B' ≤ w.heap.size) (hn : n ≤ 1073741824) (hn' : n' ≤ 1073741824) :
    Calls Tryz.prog 30 #[.slice A n c, .slice A' n' c', .func (.func 31) #[] #[]] w fun e w' => e = .returned (.bool (decide (rs = rs'))) ∧ Below w.heap.size w w' := by
  by_cases hnn : n = n'
  · subst hnn
    have hne : ((n : Int) != (n : Int)) = false := by simp
    have HL := Lib.hid h.1
    have HL' := Lib.hid h'.1
    go_enter Tryz.func30, Tryz.ntmps30
    go_wp2_with fail
    go_loopw [7] (fun i wr => ∃ k : Nat, k ≤ n ∧ i = .int .i64 k ∧ Below w.heap.size w wr ∧ Hid (rs.take k = rs'.take k)) (fun i _ => n - (intOf i).toNat)
    case atStart => exact ⟨0, by omega, rfl, Below.refl _ _, Lib.hid rfl⟩
    case round =>
      obtain ⟨k, hk, rfl, hst, ht⟩ := hrel
      have hBk := Nat.le_trans hB hst.size
      have hBk' := Nat.le_trans hB' hst.size
      by_cases hlt : k < n
      · obtain ⟨b, off, rfl, hb, hx⟩ := (h.below (hst.mono hB)).at_ hlt
        obtain ⟨b', off', rfl, hb', hy⟩ := (h'.below (hst.mono hB')).at_ hlt
        have hlt' : (k : Int) < (n : Int) := by omega
        have hk0 : (0 : Int) ≤ (k : Int) := by omega
        by_cases hq0 : rs.getD k R0 = rs'.getD k R0
        · have HT := Lib.hid (take_stepR (by have := HL.out; omega) (by have := HL'.out; omega) ht.out hq0)
          have hq : decide (rs.getD k R0 = rs'.getD k R0) = true := by simpa using hq0
          clear hq0
          generalize rs.getD k R0 = x at hx hq
          generalize rs'.getD k R0 = y at hy hq
          go_wp2_with fail
          refine wp_region_held (S := fun W => Below wr.heap.size wr W) (by kernel_rfl) ?_
          change wpAnyH _ _ _ _ _ _ _ _ wr.drew
          have c0_0 := (Below.refl wr.heap.size wr).drew
          refine Held.tk (v := .func (.func 31) #[] #[]) 0 (some 19) rfl (Held.y_move rfl rfl) c0_0 ?_
          simp only [Act.put, Z1, Z2, Z3]
          refine Held.tk (v := .slice (some ⟨b, off, none⟩) n c) 1 (some 20) rfl (Held.y_move rfl rfl) c0_0 ?_
          simp only [Act.put, Z1, Z2, Z3]
          refine Held.tk (v := .int .i64 (k : Int)) 2 (some 21) rfl (Held.y_move rfl rfl) c0_0 ?_
          simp only [Act.put, Z1, Z2, Z3]
          refine Held.tk (v := .pointer (some ⟨b, off + k * 4, none⟩)) 3 (some 22) rfl (Held.y_addr rfl rfl rfl (run_addr_of 26 37 b off n c k 4 .i64 Tryz.underlying26 (by kernel_rfl) hlt)) c0_0 ?_
          simp only [Act.put, Z1, Z2, Z3]
          refine Held.tk (v := .agg #[.bool x.d, .int .i64 x.k, .int .i64 x.v, .int .i64 x.s]) 4 (some 23) rfl (y_load_range (n := 4) (cs := x.cells) rfl rfl Tryz.underlying37 rfl (by kernel_rfl) rfl (fun W hW => range_below hx hW (Nat.lt_of_lt_of_le hb hBk))) c0_0 ?_
          simp only [Act.put, Z1, Z2, Z3]
          refine Held.tk (v := .slice (some ⟨b', off', none⟩) n c') 5 (some 24) rfl (Held.y_move rfl rfl) c0_0 ?_
          simp only [Act.put, Z1, Z2, Z3]
          refine Held.tk (v := .int .i64 (k : Int)) 6 (some 25) rfl (Held.y_move rfl rfl) c0_0 ?_
          simp only [Act.put, Z1, Z2, Z3]
          refine Held.tk (v := .pointer (some ⟨b', off' + k * 4, none⟩)) 7 (some 26) rfl (Held.y_addr rfl rfl rfl (run_addr_of 26 37 b' off' n c' k 4 .i64 Tryz.underlying26 (by kernel_rfl) hlt)) c0_0 ?_
          simp only [Act.put, Z1, Z2, Z3]
          refine Held.tk (v := .agg #[.bool y.d, .int .i64 y.k, .int .i64 y.v, .int .i64 y.s]) 8 (some 27) rfl (y_load_range (n := 4) (cs := y.cells) rfl rfl Tryz.underlying37 rfl (by kernel_rfl) rfl (fun W hW => range_below hy hW (Nat.lt_of_lt_of_le hb' hBk'))) c0_0 ?_
          simp only [Act.put, Z1, Z2, Z3]
          refine Held.one 9 (by kernel_rfl) ?_
          refine Rs.op_callv 9 (some 28) 31 #[] #[.agg #[.bool x.d, .int .i64 x.k, .int .i64 x.v, .int .i64 x.s], .agg #[.bool y.d, .int .i64 y.k, .int .i64 y.v, .int .i64 y.s]] rfl rfl rfl rfl rfl (enters_of Tryz.func31 (by kernel_rfl) rfl) (by simp [Act.eval])
            (by have := eqr_any x y wr.drew; rwa [hq] at this) ?_
          rintro e w1 ⟨rfl, b1⟩
          have c0_1 := c0_0.trans (b1.mono c0_0.size)
          refine ⟨_, rfl, c0_1, ?_⟩
          simp only [Act.put, Z1, Z2, Z3]
          refine Held.tk (v := .bool false) 10 (some 29) rfl (Held.y_not rfl rfl rfl) c0_1 ?_
          simp only [Act.put, Z1, Z2, Z3]
          refine wpAnyH_done (by kernel_rfl) ?_ _
          have dz := hst.trans (c0_1.mono hst.size)
          generalize w1 = wz at dz ⊢
          clear hx hy c0_1
          go_wp2_with fail
          go_roundw
          case rel => exact ⟨k + 1, by omega, by go_num, dz, HT⟩
          case measure => simp [intOf]; omega
        · have HF := Lib.hid (show decide (rs = rs') = false by
            rw [decide_eq_false_iff_not]; intro e; exact hq0 (by rw [e]))
          have hq : decide (rs.getD k R0 = rs'.getD k R0) = false := by simpa using hq0
          clear hq0
          generalize rs.getD k R0 = x at hx hq
          generalize rs'.getD k R0 = y at hy hq
          go_wp2_with fail
          refine wp_region_held (S := fun W => Below wr.heap.size wr W) (by kernel_rfl) ?_
          change wpAnyH _ _ _ _ _ _ _ _ wr.drew
          have c0_0 := (Below.refl wr.heap.size wr).drew
          refine Held.tk (v := .func (.func 31) #[] #[]) 0 (some 19) rfl (Held.y_move rfl rfl) c0_0 ?_
          simp only [Act.put, Z1, Z2, Z3]
          refine Held.tk (v := .slice (some ⟨b, off, none⟩) n c) 1 (some 20) rfl (Held.y_move rfl rfl) c0_0 ?_
          simp only [Act.put, Z1, Z2, Z3]
          refine Held.tk (v := .int .i64 (k : Int)) 2 (some 21) rfl (Held.y_move rfl rfl) c0_0 ?_
          simp only [Act.put, Z1, Z2, Z3]
          refine Held.tk (v := .pointer (some ⟨b, off + k * 4, none⟩)) 3 (some 22) rfl (Held.y_addr rfl rfl rfl (run_addr_of 26 37 b off n c k 4 .i64 Tryz.underlying26 (by kernel_rfl) hlt)) c0_0 ?_
          simp only [Act.put, Z1, Z2, Z3]
          refine Held.tk (v := .agg #[.bool x.d, .int .i64 x.k, .int .i64 x.v, .int .i64 x.s]) 4 (some 23) rfl (y_load_range (n := 4) (cs := x.cells) rfl rfl Tryz.underlying37 rfl (by kernel_rfl) rfl (fun W hW => range_below hx hW (Nat.lt_of_lt_of_le hb hBk))) c0_0 ?_
          simp only [Act.put, Z1, Z2, Z3]
          refine Held.tk (v := .slice (some ⟨b', off', none⟩) n c') 5 (some 24) rfl (Held.y_move rfl rfl) c0_0 ?_
          simp only [Act.put, Z1, Z2, Z3]
          refine Held.tk (v := .int .i64 (k : Int)) 6 (some 25) rfl (Held.y_move rfl rfl) c0_0 ?_
          simp only [Act.put, Z1, Z2, Z3]
          refine Held.tk (v := .pointer (some ⟨b', off' + k * 4, none⟩)) 7 (some 26) rfl (Held.y_addr rfl rfl rfl (run_addr_of 26 37 b' off' n c' k 4 .i64 Tryz.underlying26 (by kernel_rfl) hlt)) c0_0 ?_
          simp only [Act.put, Z1, Z2, Z3]
          refine Held.tk (v := .agg #[.bool y.d, .int .i64 y.k, .int .i64 y.v, .int .i64 y.s]) 8 (some 27) rfl (y_load_range (n := 4) (cs := y.cells) rfl rfl Tryz.underlying37 rfl (by kernel_rfl) rfl (fun W hW => range_below hy hW (Nat.lt_of_lt_of_le hb' hBk'))) c0_0 ?_
          simp only [Act.put, Z1, Z2, Z3]
          refine Held.one 9 (by kernel_rfl) ?_
          refine Rs.op_callv 9 (some 28) 31 #[] #[.agg #[.bool x.d, .int .i64 x.k, .int .i64 x.v, .int .i64 x.s], .agg #[.bool y.d, .int .i64 y.k, .int .i64 y.v, .int .i64 y.s]] rfl rfl rfl rfl rfl (enters_of Tryz.func31 (by kernel_rfl) rfl) (by simp [Act.eval])
            (by have := eqr_any x y wr.drew; rwa [hq] at this) ?_
          rintro e w1 ⟨rfl, b1⟩
          have c0_1 := c0_0.trans (b1.mono c0_0.size)
          refine ⟨_, rfl, c0_1, ?_⟩
          simp only [Act.put, Z1, Z2, Z3]
          refine Held.tk (v := .bool true) 10 (some 29) rfl (Held.y_not rfl rfl rfl) c0_1 ?_
          simp only [Act.put, Z1, Z2, Z3]
          refine wpAnyH_done (by kernel_rfl) ?_ _
          have dz := hst.trans (c0_1.mono hst.size)
          generalize w1 = wz at dz ⊢
          clear hx hy c0_1
          go_wp2_with fail
          go_ret
          exact ⟨Mem.ret_bool HF.out.symm, dz⟩
      · have HF := Lib.hid (show decide (rs = rs') = true by
          have e1 := ht.out
          rw [List.take_of_length_le (by have := HL.out; omega), List.take_of_length_le (by have := HL'.out; omega)] at e1
          simpa using e1)
        go_wp2_with fail
        go_ret
        exact ⟨Mem.ret_bool HF.out.symm, hst⟩
  · have hne : ((n : Int) != (n' : Int)) = true := by simp; omega
    have HF := Lib.hid (show decide (rs = rs') = false by
      rw [decide_eq_false_iff_not]; intro e; exact hnn (by rw [← h.1, ← h'.1, e]))
    clear h h' hnn
    go_enter Tryz.func30, Tryz.ntmps30
    go_wp2_with fail
    go_ret
    exact ⟨Mem.ret_bool HF.out.symm, Below.refl _ _⟩
theorem plain_any (B B' : Nat) (A A' : Option Addr) (n n' c c' : Nat) (rs rs' : List R) (w : World) (h : Recs w B A n rs) (h' : Recs w B' A' n' rs') (hB : B ≤ w.heap.size) (hB' : B' ≤ w.heap.size) (hn : n ≤ 1073741824) (hn' : n' ≤ 1073741824) :
    Calls Tryz.prog 11 #[.slice A n c, .slice A' n' c'] w fun e w' => e = .returned (.bool (decide (rs = rs'))) ∧ Below w.heap.size w w' := by
  go_enter Tryz.func11, Tryz.ntmps11
  go_wp2_with fail
  refine (same_any B B' A A' n n' c c' rs rs' w h h' hB hB' hn hn').mono ?_
  rintro e w' ⟨rfl, hst⟩
  go_wp2_with fail
  go_ret
  exact ⟨rfl, hst⟩
end Go.Proofs.YtjelacblnjbfgaaGreatDoor.Rs
namespace Go.Proofs.YtjelacblnjbfgaaGreatDoor.Rs
open Go.RowKit Go.Shelf Go.Proofs.YtjelacblnjbfgaaGreatDoor Mem Held Rc
set_option maxRecDepth 100000
attribute [local irreducible] wpList wpListIn Calls
theorem info_recs : (Tryz.prog.info? 37).map (fun i => (i.size, i.bytes)) = some (4, 32) := by kernel_rfl
theorem recs_of_blk {w : World} {g : Nat} {t : TypeId} {rs qs : List R} (h : Blk w g t (flat (rs ++ qs)).toArray) (hw : ∀ r ∈ rs, r.wf) : Recs w w.heap.size (some ⟨g, 0, none⟩) rs.length rs :=
  ⟨rfl, hw, fun _ => ⟨g, 0, rfl, h.lt, fun j v hv => by
    rw [Nat.zero_add]
    refine h.cell ?_
    rw [List.getElem?_toArray, flat_append, List.getElem?_append_left (List.getElem?_eq_some_iff.1 hv).1]
    exact hv⟩⟩
theorem wpList_append_ran {P : Program} {ops : Array Oper} {rest : List Oper} {o : Oper} {a : Act} {w : World} {Q : Exit → Act → World → Prop} (hgd : o.guard = none) (s x : Operand) (ts tx : TypeId) (ho : o.op = .call { callee := .builtin .append, args := #[s, x], argTypes := #[ts, tx] }) (u v r : Value) (w' : World) (hs : a.eval s = u) (hx : a.eval x = v)
    (hr : (Builtin.append_ #[ts, tx] o.type #[u, v]).run P w = .ok r w') (h : wpList P ops Q rest (a.put o.dst r) w') : wpList P ops Q (o :: rest) a w := by
  refine wpList_plain hgd fun K hK => ?_
  unfold Oper.wp execOp
  simp only [ho, resolve, invoke, builtin, Sem.run_bind, Sem.run_pure, Result.andThen_ok, List.map_toArray, List.map_cons, List.map_nil, hs, hx, hr]
  exact hK _ _ h
theorem run_append_recs_fits (w : World) (base g cap B m c : Nat) (A : Option Addr) (rs0 rs : List R) (hown : w.ownsRow base 37 4 (.slice (some ⟨g, 0, none⟩) rs0.length cap) rs0.length (flat rs0)) (h : Recs w B A m rs) (hfit : rs0.length + m ≤ cap) :
    ∃ w', (Builtin.append_ #[26, 26] 26 #[.slice (some ⟨g, 0, none⟩) rs0.length cap, .slice A m c]).run Tryz.prog w = .ok (.slice (some ⟨g, 0, none⟩) (rs0.length + m) cap) w' ∧ w'.ownsRow base 37 4 (.slice (some ⟨g, 0, none⟩) (rs0.length + m) cap) (rs0.length + m) (flat (rs0 ++ rs)) ∧ w.grownBy w' (some g) := by
  obtain ⟨ie, hie, hsb⟩ := Option.map_eq_some_iff.1 info_recs
  simp only [Prod.mk.injEq] at hsb
  obtain ⟨hsz, hby⟩ := hsb
  cases A with
  | none =>
    have hm : m = 0 := by
      rcases Nat.eq_zero_or_pos m with h0 | h0
      · exact h0
      · obtain ⟨_, _, e, _⟩ := h.2.2 h0
        cases e
    subst hm
    have e : rs = [] := List.eq_nil_of_length_eq_zero h.1
    subst e
    refine ⟨w, ?_, by simpa using hown, World.grownBy.refl w _⟩
    simp [Builtin.append_, run_underlying Tryz.underlying26, sizeOf, typeInfo, hie, Builtin.lenOf, Builtin.firstCells, show rs0.length ≤ cap by omega, storeCells]
  | some ad =>
    have hcells : ∀ j u, (flat rs)[j]? = some u → w.cell? (ad.add j) = some u := fun j u hu => by
      have hj := (List.getElem?_eq_some_iff.1 hu).1
      rw [flat_length] at hj
      obtain ⟨b, off, e, _, hc⟩ := h.2.2 (by have := h.1; omega)
      injection e with e
      subst e
      rw [show (Addr.mk b off none).add j = ⟨b, off + j, none⟩ by (unfold Addr.add; split <;> simp_all)]
      exact hc j u hu
    obtain ⟨w', h1, h2, h3⟩ := run_append_fits (P := Tryz.prog) w base 26 26 37 ie 4 Tryz.underlying26 hie hsz g rs0.length cap (flat rs0) hown ad m c (flat rs) (by rw [flat_length, h.1]) hcells (flat_one' rs) hfit
    exact ⟨w', h1, by rw [flat_append]; exact h2, h3⟩
def OwnR (w : World) (base : Nat) (v : Value) (rs : List R) : Prop := w.ownsRow base 37 4 v rs.length (flat rs)
theorem OwnR.nil (w : World) (base : Nat) : OwnR w base (.slice none 0 0) [] := World.ownsRow_nil _ _ _ _
theorem OwnR.form {w : World} {base : Nat} {v : Value} {rs : List R} (h : OwnR w base v rs) : ∃ A c, v = .slice A rs.length c ∧ rs.length ≤ c ∧ c ≤ maxLen := Held.row_form h
theorem OwnR.recs {w : World} {base n c : Nat} {A : Option Addr} {rs : List R} (h : OwnR w base (.slice A n c) rs) (hw : ∀ r ∈ rs, r.wf) : Recs w w.heap.size A n rs := by
  rcases h.2 with ⟨e, hn⟩ | ⟨g, cap, cur, e, hb, hg, hnc, hcm, hcs, ht⟩
  · injection e with e1 e2 e3
    subst e1
    subst e2
    have : rs = [] := List.eq_nil_of_length_eq_zero hn
    subst this
    exact Recs.nil _ _ _
  · injection e with e1 e2 e3
    subst e1
    subst e2
    refine ⟨rfl, hw, fun _ => ⟨g, 0, rfl, (Array.getElem?_eq_some_iff.1 hg).1, fun j v hv => ?_⟩⟩
    rw [Nat.zero_add, cell_of_row w g j _ _ (0, 0) hg]
    have hj := (List.getElem?_eq_some_iff.1 hv).1
    rw [flat_length] at hj
    have := congrArg (fun l => l[j]?) ht
    simp only [List.getElem?_take, hj, if_true] at this
    rw [← hv, ← this]
    simp
theorem OwnR.kept {w w' : World} {base : Nat} {v : Value} {rs : List R} (h : OwnR w base v rs) {row : Option Nat} (hg : w.grownBy w' row) (hne : v.ownBlock = none ∨ v.ownBlock ≠ row) : OwnR w' base v rs := World.ownsRow.kept h hg hne
theorem OwnR.below {w w' : World} {base : Nat} {v : Value} {rs : List R} (h : OwnR w base v rs) (hb : Below w.heap.size w w') : OwnR w' base v rs := h.kept (grown_of_below hb none) (by cases v.ownBlock <;> simp)
theorem wpList_build_rec {ops : Array Oper} {rest : List Oper} {o : Oper} {a : Act} {w : World} {Q : Exit → Act → World → Prop} (hgd : o.guard = none) (y : Operand) (ho : o.op = .buildSlice 26 1 #[(0, y)]) (f : R) (hy : a.eval y = .agg #[.bool f.d, .int .i64 f.k, .int .i64 f.v, .int .i64 f.s])
    (h : ∀ w', Blk w' w.heap.size 37 f.cells.toArray → w.grownBy w' none → Hid (w'.heap.size = w.heap.size + 1) → wpList Tryz.prog ops Q rest (a.put o.dst (.slice (some ⟨w.heap.size, 0, none⟩) 1 1)) w') : wpList Tryz.prog ops Q (o :: rest) a w := by
  obtain ⟨ie, hie, hsb⟩ := Option.map_eq_some_iff.1 info_recs
  simp only [Prod.mk.injEq] at hsb
  have hz : ie.zero = some (.agg #[.bool false, .int .i64 0, .int .i64 0, .int .i64 0]) := by
    have := zero_rec
    rw [hie] at this
    exact this
  refine Go.wpList_buildSlice hgd 26 37 1 #[(0, y)] ho f.cells.toArray ie _ Tryz.underlying26 hie hz (by rw [hsb.1]; omega) (by rw [hsb.1]; omega) ?_ (h _ (heap_alloc_new w _) (World.grownBy_alloc w _ none) (Lib.hid (by simp)))
  have hf := Great.fill_whole (s := 4) (by omega) [.agg f.cells.toArray] ((Array.range (1 * ie.size)).map ((Value.agg #[.bool false, .int .i64 0, .int .i64 0, .int .i64 0]).cells[· % (Value.agg #[.bool false, .int .i64 0, .int .i64 0, .int .i64 0]).cells.size]!)) (by simp [Value.cells, R.cells]) (by simp [hsb.1])
  rw [hsb.1] at hf ⊢
  simp only [List.map_toArray, List.map_cons, List.map_nil, hy]
  refine Eq.trans ?_ (hf.trans ?_)
  · rfl
  · simp [Value.cells, R.cells]
theorem wpList_append_recs {ops : Array Oper} {rest : List Oper} {o : Oper} {a : Act} {w : World} {Q : Exit → Act → World → Prop} (hgd : o.guard = none) (s x : Operand) (ho : o.op = .call { callee := .builtin .append, args := #[s, x], argTypes := #[26, 26] })
    (base B g off m c : Nat) (v : Value) (rs qs : List R) (hs : a.eval s = v) (hx : a.eval x = .slice (some ⟨g, off, none⟩) m c) (hown : OwnR w base v rs) (hq : Recs w B (some ⟨g, off, none⟩) m qs) (hm : rs.length + m ≤ 1048576) (hbase : base ≤ w.heap.size)
    (h : ∀ v' w', OwnR w' base v' (rs ++ qs) → w.grownBy w' v.ownBlock → (v'.ownBlock = v.ownBlock ∨ v'.ownBlock = some w.heap.size) → wpList Tryz.prog ops Q rest (a.put o.dst v') w') : wpList Tryz.prog ops Q (o :: rest) a w := by
  obtain ⟨ie, hie, hsb⟩ := Option.map_eq_some_iff.1 info_recs
  simp only [Prod.mk.injEq] at hsb
  have hz : ie.zero = some (.agg #[.bool false, .int .i64 0, .int .i64 0, .int .i64 0]) := by
    have := zero_rec
    rw [hie] at this
    exact this
  have hcells : ∀ j u, (flat qs)[j]? = some u → w.cell? ((Addr.mk g off none).add j) = some u := fun j u hu => by
    have hj := (List.getElem?_eq_some_iff.1 hu).1
    rw [flat_length] at hj
    obtain ⟨b, off', e, _, hc⟩ := hq.2.2 (by have := hq.1; omega)
    injection e with e
    injection e with e1 e2
    subst e1
    subst e2
    rw [show (Addr.mk g off none).add j = ⟨g, off + j, none⟩ by (unfold Addr.add; split <;> simp_all)]
    exact hc j u hu
  refine wpList_append_own_at w hgd s x 26 ho base 37 ie _ 4 32 Tryz.underlying26 hie hz hsb.1 hsb.2 rfl (by omega) v rs.length (flat rs) hs hown ⟨g, off, none⟩ m c (flat qs) hx (by rw [flat_length, hq.1]) hcells (flat_one' qs) (by unfold maxLen; omega) (by omega) hbase ?_
  intro v' w' h1 h2 _ h4
  refine h v' w' ?_ h2 h4
  unfold OwnR
  rw [flat_append, List.length_append, hq.1]
  exact h1
end Go.Proofs.YtjelacblnjbfgaaGreatDoor.Rs
namespace Go.Proofs.YtjelacblnjbfgaaGreatDoor.Rc
open Go.RowKit Go.Shelf Go.Proofs.YtjelacblnjbfgaaGreatDoor Mem Help Go.Proofs.YtjelacblnjbfgaaGreatDoor.Sum Po Ky Ct Go.Proofs.YtjelacblnjbfgaaGreatDoor.Bit Held Go.Proofs.YtjelacblnjbfgaaGreatDoor.Range
attribute [local go_sem] Oper.semAt_some
attribute [local irreducible] wpList wpListIn Calls
def fld (zs : List Int) (i : Nat) : Int := val ((zs.drop (8 * i)).take 8)
def recC (n0 n1 n2 n3 : Int) : Array Value := #[.bool (n0 == 1), .int .i64 (wrap64 n1), .int .i64 (wrap64 n2), .int .i64 (wrap64 n3)]
def noneC : Array Value := #[.bool false, .int .i64 0, .int .i64 0, .int .i64 0]
def mayB (zs : List Int) : Bool := may (fld zs 0) (fld zs 1) (fld zs 2) (fld zs 3)
def takenC (zs : List Int) : Array Value := if zs.length = 32 ∧ mayB zs = true then recC (fld zs 0) (fld zs 1) (fld zs 2) (fld zs 3) else noneC
def takenE (zs : List Int) : Int := if zs.length < 32 then 3 else if zs.length = 32 ∧ mayB zs = true then 0 else 4
theorem takenC_size (zs : List Int) : (takenC zs).size = 4 := by
  unfold takenC
  split <;> rfl
theorem takenC_one (zs : List Int) : (takenC zs).all (·.oneCell') = true := by
  unfold takenC
  split <;> kernel_rfl
theorem fld_wf {zs : List Int} (h : Bs zs) (i : Nat) : (Lit.int .u64 (fld zs i)).wf = true := by
  have hb : Bs ((zs.drop (8 * i)).take 8) := fun z hz => h z (List.mem_of_mem_drop (List.mem_of_mem_take hz))
  have h0 := val_nonneg (xs := (zs.drop (8 * i)).take 8) fun z hz => (hb z hz).1
  have h1 := val_lt hb
  have hl : ((zs.drop (8 * i)).take 8).length ≤ 8 := by rw [List.length_take]; omega
  unfold fld
  generalize val ((zs.drop (8 * i)).take 8) = v at *
  generalize ((zs.drop (8 * i)).take 8).length = n at *
  refine wf_64 ?_
  rcases (show n = 0 ∨ n = 1 ∨ n = 2 ∨ n = 3 ∨ n = 4 ∨ n = 5 ∨ n = 6 ∨ n = 7 ∨ n = 8 by omega) with rfl | rfl | rfl | rfl | rfl | rfl | rfl | rfl | rfl <;> omega
def flds (zs : List Int) : List Int := [fld zs 0, fld zs 1, fld zs 2, fld zs 3]
theorem flds_at (zs : List Int) {i : Nat} (h : i < 4) : (flds zs).getD i 0 = fld zs i := by
  match i, h with
  | 0, _ => rfl
  | 1, _ => rfl
  | 2, _ => rfl
  | 3, _ => rfl
theorem flds_wf {zs : List Int} (h : Bs zs) : ∀ z ∈ flds zs, (Lit.int .u64 z).wf = true := fun z hz => by
  simp only [flds, List.mem_cons, List.not_mem_nil, or_false] at hz
  rcases hz with rfl | rfl | rfl | rfl <;> exact fld_wf h _
set_option maxRecDepth 100000 in
set_option maxHeartbeats 4000000 in
theorem take_off (A : Option Addr) (m c : Nat) (w : World) (hm : m ≤ 1099511627776) (h : m ≠ 32) :
    Calls Tryz.prog 72 #[.slice A m c] w fun e w' => e = .returned (.tuple #[.agg noneC, .int .i64 (if m < 32 then 3 else 4)]) ∧ Below w.heap.size w w' := by
  by_cases hlt : m < 32
  · have hlt' : (m : Int) < 32 := by omega
    rw [if_pos hlt]
    go_enter Tryz.func72, Tryz.ntmps72
    go_wp2_with (first
      | (refine wpList_alloc_blk (w := w) rfl 37 rfl _ zero_rec ?_; intro w1 q1 g1 z1)
      | (refine wpList_build_blk rfl 37 _ rfl noneC (by kernel_rfl) ?_)
      | (refine wpList_store_blk (w := w1) rfl 37 _ _ rfl w.heap.size 4 rfl 37 _ noneC rfl q1 info_rec rfl rfl (by kernel_rfl) ?_; intro w2 q2 g2 z2))
    exact bodyPost_ret (results_blk_tmp rfl _ _ w.heap.size 4 _ _ _ rfl rfl q2 _ Tryz.underlying37 rfl info_rec rfl) rfl ⟨rfl, ((Below.refl _ w).grown g1 (Nat.le_refl _) (by simp)).grown g2 g1.size (fun r e => by cases e; exact Nat.le_refl _)⟩
  · have hlt' : ¬ (m : Int) < 32 := by omega
    have hgt : (32 : Int) < (m : Int) := by omega
    rw [if_neg hlt]
    go_enter Tryz.func72, Tryz.ntmps72
    go_wp2_with (first
      | (refine wpList_alloc_blk (w := w) rfl 37 rfl _ zero_rec ?_; intro w1 q1 g1 z1)
      | (refine wpList_build_blk rfl 37 _ rfl noneC (by kernel_rfl) ?_)
      | (refine wpList_store_blk (w := w1) rfl 37 _ _ rfl w.heap.size 4 rfl 37 _ noneC rfl q1 info_rec rfl rfl (by kernel_rfl) ?_; intro w2 q2 g2 z2))
    exact bodyPost_ret (results_blk_tmp rfl _ _ w.heap.size 4 _ _ _ rfl rfl q2 _ Tryz.underlying37 rfl info_rec rfl) rfl ⟨rfl, ((Below.refl _ w).grown g1 (Nat.le_refl _) (by simp)).grown g2 g1.size (fun r e => by cases e; exact Nat.le_refl _)⟩
def TInv (w : World) (gr gn : Nat) (zs : List Int) (pre : List Nat) (W : World) : Prop :=
  Row W gn 77 .u64 (blend (flds zs) (List.replicate 4 0) pre.length) ∧ Blk W gr 37 noneC ∧ Below w.heap.size w W
theorem TInv.own (w : World) (gr gn : Nat) (zs : List Int) {B : Nat} (hB : w.heap.size ≤ B) : OwnFrom B (TInv w gr gn zs) := fun pre W W' row ⟨h1, h2, h4⟩ hg hr =>
  ⟨row_own h1 hg hr, blk_own h2 hg hr, h4.grown hg h4.size (fun r e => Nat.le_trans hB (hr r e).1)⟩
set_option maxRecDepth 100000 in
set_option maxHeartbeats 2000000 in
theorem take_at (B : Nat) (b off c : Nat) (zs : List Int) (w : World) (h : Ints w .u8 B (some ⟨b, off, none⟩) 32 zs) (hb : b < B) (hB : B ≤ w.heap.size) (hc : 32 ≤ c) :
    Calls Tryz.prog 72 #[.slice (some ⟨b, off, none⟩) 32 c] w fun e w' => e = .returned (.tuple #[.agg (takenC zs), .int .i64 (takenE zs)]) ∧ Below w.heap.size w w' := by
  have HL := Lib.hid h.1
  have hbs := bs_of h.2.1
  have HW := Lib.hid (flds_wf hbs)
  refine (callsIn_wide (n := 3)).1 ?_
  refine callsIn_of_wp_marks Tryz.func72 rfl trivial ?_ rfl
  simp only [Tryz.ntmps72, List.size_toArray, List.length_cons, List.length_nil, Nat.reduceAdd, Nat.reduceSub, Array.replicate_succ, Array.replicate_zero, List.push_toArray, List.append_toArray, List.nil_append, List.cons_append]
  refine wpIn_wide.2 ?_
  go_wp2_with (first
    | (refine wpList_alloc_blk (w := w) rfl 37 rfl _ zero_rec ?_; intro u1 q1 g1 z1)
    | (refine wpList_alloc_Row (w := u1) rfl 77 rfl .u64 4 zero_row ?_; intro u2 r2 g2 z2))
  have bz : Below w.heap.size w u2 := ((Below.refl _ w).grown g1 (Nat.le_refl _) (by simp)).grown g2 g1.size (by simp)
  have q1 : Blk u1 w.heap.size 37 noneC := q1
  have hlt1 : w.heap.size < u1.heap.size := q1.lt
  have q1 := q1.grown g2 (by simp)
  clear g1 g2 z1 z2
  have rl0 := r2.lt
  go_wp2_with fail
  refine (words_any (some ⟨b, off, none⟩) 32 c u2).mono ?_
  rintro e v2 ⟨bx, rfl, qx, hbx, bw⟩
  have q1 := q1.after bw
  have r2 := r2.below bw r2.lt
  have bz := bz.trans (bw.mono bz.size)
  have lt1 := q1.lt
  have lt2 := r2.lt
  have hxn : bx ≠ u1.heap.size := fun e => by subst e; exact absurd (Nat.lt_of_lt_of_le rl0 hbx) (Nat.lt_irrefl _)
  have hit := fun N => words_give N bx (fun b => b = u1.heap.size) b off 32 c v2 (qx.cell rfl) hxn hc (by omega)
  have hF : (flds zs).length = (List.replicate 4 (0 : Int)).length := by simp [flds]
  have h2 := h.below (bz.mono hB)
  have hbn : b ≠ u1.heap.size := by omega
  clear bw
  go_wp2_with fail
  refine (wpIn_wide (n := 3)).1 ?_
  refine wpIn_rangeFunc_give rfl (by omega) (gf := 76) (lb := #[.pointer (some ⟨bx, 0, none⟩)]) rfl trivial (enters_of Tryz.func76 (by kernel_rfl) rfl)
    (hit _) (fun h k => h.trans k) (fun W l o o' hl ho hc _ => Only.put W l o o' ho hc) (Below.refl _ _) (fun x B W args hx => by cases hx; rfl)
    (TInv w w.heap.size u1.heap.size zs) (TInv.own w _ _ zs bz.size) ⟨by rw [List.length_nil, blend_zero]; exact r2, q1, bz⟩
    (fun x a' pre W => TInv w w.heap.size u1.heap.size zs pre W ∧ a' = { tmps := #[.slice (some ⟨b, off, none⟩) 32 c, undef, .pointer (some ⟨w.heap.size, 0, none⟩), .int .i64 0, .pointer (some ⟨u1.heap.size, 0, none⟩), .int .i64 (x : Int), .slice (some ⟨b, off + 8 * x, none⟩) 8 (c - 8 * x), .slice (some ⟨b, off, none⟩) 32 c, .int .i64 32, .bool false, undef, .slice (some ⟨b, off, none⟩) 32 c, .int .i64 32, .bool false, undef, .slice (some ⟨b, off, none⟩) 32 c, .func (.func 76) #[] #[.pointer (some ⟨bx, 0, none⟩)], .int .i64 (x : Int), .slice (some ⟨b, off + 8 * x, none⟩) 8 (c - 8 * x), undef, undef, undef, undef, undef, undef, undef, undef, undef, undef], defers := [] }) ?ib ?assign ?body ?done
  case ib =>
    rintro x a' pre W W' row ⟨hv, h7⟩ hgr hr
    exact ⟨TInv.own w _ _ zs bz.size pre W W' row hv hgr hr, h7⟩
  case assign =>
    rintro l pre x args W0 W K hv hg rfl hp hsz hK
    simp only [Held.zip_two, List.setIfInBounds_toArray, List.set_cons_zero, List.set_cons_succ]
    gi_wp2_with fail
    exact hK _ _ (KeepsOthers.refl _) (Only.refl _ _) ⟨TInv.own w _ _ zs bz.size pre W0 W none hv hg (fun r e => by cases e), rfl⟩
  case body =>
    rintro l pre x a' W ⟨⟨i1, i2, i4⟩, rfl⟩ hp hsz
    obtain ⟨hx, hx4⟩ := prefix_range hp
    have hx4 : x < 4 := hx4
    rw [← hx] at i1
    have hx4' : (x : Int) < 4 := by omega
    have hx0 : (0 : Int) ≤ (x : Int) := by omega
    have iw : Ints W .u8 B (some ⟨b, off + 8 * x, none⟩) 8 ((zs.drop (8 * x)).take 8) := by
      have hi := h.below (i4.mono hB)
      refine ⟨by rw [List.length_take, List.length_drop, HL.out]; omega, fun z hz => hi.2.1 z (List.mem_of_mem_drop (List.mem_of_mem_take hz)), fun _ => ⟨b, off + 8 * x, rfl, hb, fun i hi8 => ?_⟩⟩
      obtain ⟨b', off', e, _, hcc⟩ := hi.2.2 (by omega)
      injection e with e
      injection e with e1 e2
      subst e1
      subst e2
      rw [Nat.add_assoc, hcc (8 * x + i) (by omega)]
      simp [List.getD_eq_getElem?_getD, hi8]
    have HS := Lib.hid (show (blend (flds zs) (List.replicate 4 0) x).set x (fld zs x) = blend (flds zs) (List.replicate 4 0) (pre ++ [x]).length by
      have := blend_set hF (i := x) (by simpa using hx4)
      rw [flds_at zs hx4] at this
      rw [this, List.length_append, List.length_singleton, ← hx])
    have HBL := Lib.hid (show x < (blend (flds zs) (List.replicate 4 0) x).length by rw [blend_length hF]; simpa using hx4)
    have wz := fld_wf hbs x
    clear hx hp
    gi_wp2_with fail
    refine ⟨trivial, ?_⟩
    refine (CallsIn.inRound l (callsIn_wide.2 (number_any B (some ⟨b, off + 8 * x, none⟩) 8 (c - 8 * x) _ W iw (by omega)))).mono ?_
    rintro e W4 ⟨rfl, rfl⟩
    gi_wp2_with (refine wpListIn_store_elem (w := W) rfl 23 _ _ rfl u1.heap.size x rfl 77 .u64 _ (fld zs x) rfl i1 HBL.out size_u64 wz ?_; intro W5 r5 g5 z5; rw [HS.out] at r5)
    exact ⟨Held.others_of_grown i1.2 g5, Only.of_grown g5 (fun r e => by cases e; rfl), r5, i2.grown g5 (by intro e; injection e with e; omega), i4.grown g5 i4.size (fun r e => by cases e; omega)⟩
  case done =>
    rintro D W hD ⟨i1, i2, i4⟩ hDl
    have e4 : blend (flds zs) (List.replicate 4 0) (List.range (32 / 8)).length = [fld zs 0, fld zs 1, fld zs 2, fld zs 3] := blend_all hF
    rw [e4] at i1
    obtain ⟨bm, hbm⟩ : ∃ bm, may (fld zs 0) (fld zs 1) (fld zs 2) (fld zs 3) = bm := ⟨_, rfl⟩
    have hm := mayBe_any (fld zs 0) (fld zs 1) (fld zs 2) (fld zs 3) HW.out W
    rw [hbm] at hm
    have HC := Lib.hid (show takenC zs = if bm = true then recC (fld zs 0) (fld zs 1) (fld zs 2) (fld zs 3) else noneC by
      unfold takenC mayB
      rw [hbm, HL.out]
      simp)
    have HE := Lib.hid (show takenE zs = if bm = true then 0 else 4 by
      unfold takenE mayB
      rw [hbm, HL.out]
      simp)
    have hr := record_any (fld zs 0) (fld zs 1) (fld zs 2) (fld zs 3) HW.out
    clear hbm
    go_wp2_with (refine wpList_load_Row (w := W) rfl 77 _ rfl u1.heap.size rfl 77 .u64 _ i1 4 23 Tryz.underlying77 info_row rfl ?_)
    refine hm.mono ?_
    rintro e W2 ⟨rfl, b2⟩
    have i1 := i1.below b2 i1.lt
    have i2 := i2.after b2
    have d2 := (b2.block D (Array.getElem?_eq_some_iff.1 hDl).1).trans hDl
    have i4 := i4.trans (b2.mono i4.size)
    clear b2 hDl hm
    cases bm
    · have hone : oneI false = 0 := rfl
      rw [hone]
      go_wp2_with (first
        | (refine wpList_build_blk rfl 37 _ rfl noneC (by kernel_rfl) ?_)
        | (refine wpList_store_blk (w := W2) rfl 37 _ _ rfl w.heap.size 4 rfl 37 _ noneC rfl i2 info_rec rfl rfl (by kernel_rfl) ?_; intro W5 q5 g5 z5))
      have d5 := (g5.block D (Array.getElem?_eq_some_iff.1 d2).1 (by intro e; injection e with e; omega)).trans d2
      have b5 := i4.grown g5 i4.size (fun r e => by cases e; exact Nat.le_refl _)
      refine ⟨by simp, .inl ⟨_, _, rfl, run_takeDeferred d5, ?_⟩⟩
      have r9 : Blk (W5.putObj D (.deferred none)) w.heap.size 37 noneC := (World.putObj_heap_other (by omega)).trans q5
      exact ⟨_, results_blk_tmp rfl _ _ w.heap.size 4 _ _ _ rfl rfl r9 _ Tryz.underlying37 rfl info_rec rfl, by rw [HC.out, HE.out]; rfl, b5.grown (grownBy_putObj' _ D _) b5.size (fun r e => by cases e; omega)⟩
    · have hone : oneI true = 1 := rfl
      rw [hone]
      go_wp2_with (refine wpList_load_Row (w := W2) rfl 77 _ rfl u1.heap.size rfl 77 .u64 _ i1 4 23 Tryz.underlying77 info_row rfl ?_)
      refine (hr W2).mono ?_
      rintro e W3 ⟨rfl, b3⟩
      have i2 := i2.after b3
      have d3 := (b3.block D (Array.getElem?_eq_some_iff.1 d2).1).trans d2
      have i4 := i4.trans (b3.mono i4.size)
      clear b3 d2
      go_wp2_with (refine wpList_store_blk (w := W3) rfl 37 _ _ rfl w.heap.size 4 rfl 37 _ (recC (fld zs 0) (fld zs 1) (fld zs 2) (fld zs 3)) rfl i2 info_rec rfl rfl (by kernel_rfl) ?_; intro W5 q5 g5 z5)
      have d5 := (g5.block D (Array.getElem?_eq_some_iff.1 d3).1 (by intro e; injection e with e; omega)).trans d3
      have b5 := i4.grown g5 i4.size (fun r e => by cases e; exact Nat.le_refl _)
      refine ⟨by simp, .inl ⟨_, _, rfl, run_takeDeferred d5, ?_⟩⟩
      have r9 : Blk (W5.putObj D (.deferred none)) w.heap.size 37 (recC (fld zs 0) (fld zs 1) (fld zs 2) (fld zs 3)) := (World.putObj_heap_other (by omega)).trans q5
      exact ⟨_, results_blk_tmp rfl _ _ w.heap.size 4 _ _ _ rfl rfl r9 _ Tryz.underlying37 rfl info_rec rfl, by rw [HC.out, HE.out]; rfl, b5.grown (grownBy_putObj' _ D _) b5.size (fun r e => by cases e; omega)⟩
theorem take_any (B : Nat) (A : Option Addr) (m c : Nat) (zs : List Int) (w : World) (h : Ints w .u8 B A m zs) (hB : B ≤ w.heap.size) (hc : m ≤ c) (hm' : m ≤ 1099511627776) :
    Calls Tryz.prog 72 #[.slice A m c] w fun e w' => e = .returned (.tuple #[.agg (takenC zs), .int .i64 (takenE zs)]) ∧ Below w.heap.size w w' := by
  by_cases hm : m = 32
  · subst hm
    obtain ⟨b, off, rfl, hb, _⟩ := h.2.2 (by omega)
    exact take_at B b off c zs w h hb hB hc
  · have e1 : takenC zs = noneC := by
      unfold takenC
      rw [if_neg (by rw [h.1]; omega)]
    have e2 : takenE zs = if m < 32 then 3 else 4 := by
      unfold takenE
      rw [h.1]
      split
      · rfl
      · rw [if_neg (by omega)]
    rw [e1, e2]
    exact take_off A m c w (by omega) hm
end Go.Proofs.YtjelacblnjbfgaaGreatDoor.Rc
namespace Go.Proofs.YtjelacblnjbfgaaGreatDoor.Rc
open Go.RowKit Go.Shelf Go.Proofs.YtjelacblnjbfgaaGreatDoor Mem Help Go.Proofs.YtjelacblnjbfgaaGreatDoor.Sum Po Ky Held
attribute [local irreducible] wpList wpListIn Calls
theorem byte_range {x : Int} (k : Nat) : 0 ≤ x / 2 ^ (8 * k) % 256 ∧ x / 2 ^ (8 * k) % 256 ≤ 255 := by omega
theorem order_prefix (zs : List Int) {k : Nat} (hk : k < zs.length) : zs.take k ++ [zs.getD k 0] = zs.take (k + 1) := by
  rw [List.take_succ_eq_append_getElem hk, List.getD_eq_getElem?_getD, List.getElem?_eq_getElem hk]
  rfl
set_option maxRecDepth 100000 in
set_option maxHeartbeats 4000000 in
theorem eight_any (x : Int) (w : World) :
    Calls Tryz.prog 69 #[.int .u64 x] w fun e w' => ∃ A' c', e = .returned (.slice A' 8 c') ∧ Mem.Own w' w.heap.size 5 .u8 (.slice A' 8 c') (digits x 8) ∧ Below w.heap.size w w' := by
  go_enter Tryz.func69, Tryz.ntmps69
  go_wp2_with fail
  go_loopw [3, 4] (fun u i wr => ∃ (k : Nat) (A : Option Addr) (c : Nat), k ≤ 8 ∧ u = .slice A k c ∧ i = .int .i64 k ∧ Mem.Own wr w.heap.size 5 .u8 (.slice A k c) (digits x k) ∧ Below w.heap.size w wr) (fun _ i _ => 8 - (intOf i).toNat)
  case atStart => exact ⟨0, none, 0, by omega, rfl, rfl, Mem.Own.nil _ _ _ _, Below.refl _ _⟩
  case round =>
    obtain ⟨k, A, c, hk, rfl, rfl, ok, bk⟩ := hrel
    by_cases hlt : k < 8
    · have hlt' : (k : Int) < 8 := by omega
      have hk0 : (0 : Int) ≤ (k : Int) := by omega
      have W1 : IntKind.i64.wrap (8 * (k : Int)) = ((8 * k : Nat) : Int) := by rw [IntKind.wrap_i64]; omega
      have W2 : IntKind.u64.wrap ((8 * k : Nat) : Int) = ((8 * k : Nat) : Int) := by rw [IntKind.wrap_u64]; omega
      have W3 : IntKind.u8.wrap (x / 2 ^ (8 * k)) = x / 2 ^ (8 * k) % 256 := by rw [IntKind.wrap_u8]
      have W4 := fun W => Held.run_shr (P := Tryz.prog) 23 .u64 .u64 (a := x) (8 * k) (by show 8 * k ≤ 64; omega) rfl W
      have hwz : ∀ z ∈ [x / 2 ^ (8 * k) % 256], (Lit.int .u8 z).wf = true := fun z hz => by rw [List.mem_singleton.1 hz]; exact wf_byte (byte_range k)
      have HD := Lib.hid (dig_snoc k x)
      have HL := Lib.hid (digits_length k x)
      generalize x / 2 ^ (8 * k) % 256 = b at W3 hwz HD
      go_wp2_with (first
        | (refine Held.wpList_build_row (w := wr) rfl 27 5 1 _ rfl .u8 1 [b] Tryz.underlying27 info_u8 (by simp [Act.eval]) rfl (by omega) (by omega) hwz ?_; intro w2 r2 g2 z2; have o2 := ok.kept g2 (by cases (Value.slice A k c).ownBlock <;> simp))
        | (at_builtin; refine wpList_append_ints w2 rfl _ _ 27 rfl w.heap.size 5 .u8 1 Tryz.underlying27 info_u8 (.slice A k c) (digits x k) rfl o2 w2.heap.size (some ⟨wr.heap.size, 0, none⟩) 1 1 [b] rfl (by have := r2.ints (n := 1) (by simp); simpa using this) (by rw [HL.out]; omega) (by omega) (Nat.le_trans bk.size g2.size) ?_; intro v3 w3 o3 g3 t3; obtain ⟨A3, c3, rfl, h3a, h3b, j3⟩ := o3.form; obtain ⟨n3, hn3⟩ : ∃ n3, (digits x k ++ [b]).length = n3 := ⟨_, rfl⟩; rw [hn3] at o3 j3 h3a ⊢; have HN3 := Lib.hid hn3; clear hn3))
      have hn3 : n3 = k + 1 := by have := HN3.out; rw [List.length_append, HL.out] at this; simp at this; omega
      rw [← HD.out] at o3
      have b3 := (bk.grown g2 bk.size (by simp)).grown g3 (Nat.le_trans bk.size g2.size) (fun r e => (o2.2.lt r e).1)
      clear g2 g3 t3 r2 z2 j3 o2 ok bk HN3 HD
      subst hn3
      go_roundw
      case rel => exact ⟨k + 1, A3, c3, by omega, rfl, by go_num, o3, b3⟩
      case measure => simp [intOf]; omega
    · have hk8 : k = 8 := by omega
      subst hk8
      go_wp2_with fail
      go_ret
      exact ⟨A, c, rfl, ok, bk⟩
set_option maxRecDepth 100000 in
set_option maxHeartbeats 4000000 in
theorem eights_any (B : Nat) (A : Option Addr) (m c : Nat) (xs : List Int) (w : World) (h : Ints w .u64 B A m xs) (hB : B ≤ w.heap.size) (hm : m ≤ 1000) :
    Calls Tryz.prog 45 #[.slice A m c] w fun e w' => ∃ A' n' c', e = .returned (.slice A' n' c') ∧ Mem.Own w' w.heap.size 5 .u8 (.slice A' n' c') (eights xs) ∧ Below w.heap.size w w' := by
  have HM := Lib.hid h.1
  have hmi : (m : Int) ≤ 1000 := by omega
  go_enter Tryz.func45, Tryz.ntmps45
  go_wp2_with fail
  go_loopw [3, 4] (fun u i wr => ∃ (k n1 : Nat) (A1 : Option Addr) (c1 : Nat), k ≤ m ∧ u = .slice A1 n1 c1 ∧ i = .int .i64 k ∧ Mem.Own wr w.heap.size 5 .u8 (.slice A1 n1 c1) (eights (xs.take k)) ∧ Below w.heap.size w wr) (fun _ i _ => m - (intOf i).toNat)
  case atStart => exact ⟨0, 0, none, 0, by omega, rfl, rfl, by rw [List.take_zero]; exact Mem.Own.nil _ _ _ _, Below.refl _ _⟩
  case round =>
    obtain ⟨k, n1, A1, c1, hk, rfl, rfl, ok, bk⟩ := hrel
    by_cases hlt : k < m
    · obtain ⟨b, off, rfl, hb, hc⟩ := (h.below (bk.mono hB)).at_ hlt
      have hlt' : (k : Int) < (m : Int) := by omega
      have hk0 : (0 : Int) ≤ (k : Int) := by omega
      have hkl : k < xs.length := by rw [HM.out]; exact hlt
      have HE := Lib.hid (show eights (xs.take k) ++ digits (xs.getD k 0) 8 = eights (xs.take (k + 1)) by rw [← order_prefix xs hkl, eig_snoc])
      have HL := Lib.hid (show (eights (xs.take k)).length ≤ 8000 by rw [eights_length, List.length_take]; omega)
      generalize xs.getD k 0 = x at hc HE
      go_wp2_with fail
      refine (eight_any x wr).mono ?_
      rintro e w2 ⟨A2, c2, rfl, o2, b2⟩
      have j2 := o2.ints (digits_length 8 x)
      have oo := ok.below b2
      go_wp2_with (at_builtin; refine wpList_append_ints w2 rfl _ _ 27 rfl w.heap.size 5 .u8 1 Tryz.underlying27 info_u8 (.slice A1 n1 c1) (eights (xs.take k)) rfl oo w2.heap.size A2 8 c2 (digits x 8) rfl j2 (by have := HL.out; omega) (by omega) (Nat.le_trans bk.size b2.size) ?_; intro v3 w3 o3 g3 t3; obtain ⟨A3, c3, rfl, h3a, h3b, j3⟩ := o3.form; obtain ⟨n3, hn3⟩ : ∃ n3, (eights (xs.take k) ++ digits x 8).length = n3 := ⟨_, rfl⟩; rw [hn3] at o3 j3 h3a ⊢; have HN3 := Lib.hid hn3; clear hn3)
      rw [HE.out] at o3
      have b3 := (bk.trans (b2.mono bk.size)).grown g3 (Nat.le_trans bk.size b2.size) (fun r e => (oo.2.lt r e).1)
      clear g3 t3 j3 j2 oo o2 b2 ok bk HN3 HE HL hc h3a h3b
      go_roundw
      case rel => exact ⟨k + 1, n3, A3, c3, by omega, rfl, by go_num, o3, b3⟩
      case measure => simp [intOf]; omega
    · have hkm : k = m := by omega
      subst hkm
      rw [List.take_of_length_le (by rw [HM.out]; omega)] at ok
      go_wp2_with fail
      go_ret
      exact ⟨A1, n1, c1, rfl, ok, bk⟩
theorem val_drop (s : List Int) {k : Nat} (h : k < s.length) : val (s.drop k) = s.getD k 0 + 256 * val (s.drop (k + 1)) := by
  rw [List.drop_eq_getElem_cons h, val, List.getD_eq_getElem?_getD, List.getElem?_eq_getElem h]
  rfl
theorem or_below {v z : Int} (hv : 0 ≤ v) (hv' : v < 72057594037927936) (hz : 0 ≤ z) (hz' : z < 256) : bits .or .u64 (v * 256) z = z + 256 * v := by
  rw [u64_or _ _ (by omega) (by omega) hz (by omega), Nat.or_comm]
  have := u64_or8 (x := v * 256) (y := z) hz hz' (by omega) (by omega) (by omega)
  rw [u64_or _ _ hz (by omega) (by omega) (by omega)] at this
  rw [this]
  omega
set_option maxRecDepth 100000 in
set_option maxHeartbeats 4000000 in
theorem rnumber_any (B : Nat) (A : Option Addr) (c : Nat) (zs : List Int) (w : World) (h : Ints w .u8 B A 8 zs) :
    Calls Tryz.prog 73 #[.slice A 8 c] w fun e w' => e = .returned (.int .u64 (val zs)) ∧ w = w' := by
  have HL := Lib.hid h.1
  have HB := Lib.hid (bs_of h.2.1)
  obtain ⟨b, off, rfl, hb, hc⟩ := h.2.2 (by omega)
  go_enter Tryz.func73, Tryz.ntmps73
  go_wp2_with fail
  go_loop [3, 4] (fun v i => ∃ k : Nat, k ≤ 8 ∧ i = .int .i64 ((k : Int) - 1) ∧ v = .int .u64 (val (zs.drop k))) (fun _ i => (intOf i + 1).toNat)
  case atStart => exact ⟨8, by omega, rfl, by rw [List.drop_of_length_le (by rw [HL.out]; omega)]; rfl⟩
  case round =>
    obtain ⟨k, hk, rfl, rfl⟩ := hrel
    by_cases hlt : 0 < k
    · obtain ⟨j, rfl⟩ : ∃ j, k = j + 1 := ⟨k - 1, by omega⟩
      have hj : ((j + 1 : Nat) : Int) - 1 = (j : Int) := by omega
      rw [hj]
      have hj0 : (0 : Int) ≤ (j : Int) := by omega
      have hj8 : (j : Int) < 8 := by omega
      have hcj := hc j (by omega)
      have HV := Lib.hid (val_drop zs (k := j) (by rw [HL.out]; omega))
      have hz := wf_u8 (h.range (i := j) (by omega))
      have hv0 := val_nonneg (xs := zs.drop (j + 1)) fun z hz => (HB.out z (List.mem_of_mem_drop hz)).1
      have hv1 := val_lt (xs := zs.drop (j + 1)) fun z hz => HB.out z (List.mem_of_mem_drop hz)
      have hv2 : val (zs.drop (j + 1)) < 72057594037927936 := by
        have e : (zs.drop (j + 1)).length ≤ 7 := by rw [List.length_drop, HL.out]; omega
        generalize (zs.drop (j + 1)).length = n at hv1 e
        rcases (show n = 0 ∨ n = 1 ∨ n = 2 ∨ n = 3 ∨ n = 4 ∨ n = 5 ∨ n = 6 ∨ n = 7 by omega) with rfl | rfl | rfl | rfl | rfl | rfl | rfl | rfl <;> omega
      generalize zs.getD j 0 = z at hcj HV hz
      generalize val (zs.drop (j + 1)) = v at HV hv0 hv2
      have hcv : IntKind.u64.wrap z = z := IntWalk.u64_in _ (by omega)
      have hsh : ∀ W : World, (binOp .shl 23 (.int .u64 v) (.int .u64 ((8 : Nat) : Int))).run Tryz.prog W = .ok (.int .u64 (v * 256)) W := fun W => by
        have := run_shl_ (P := Tryz.prog) 23 .u64 .u64 (a := v) 8 (by decide) W
        rwa [show v * 2 ^ 8 = v * 256 by omega, wraps_u64 _ (by omega) (by omega)] at this
      have HOR := Lib.hid (or_below hv0 hv2 hz.1 (by omega))
      clear h hc hv1
      go_wp2_with (refine wpList_shl rfl 23 39 _ _ rfl .u64 .u64 v (v * 256) 8 rfl rfl hsh ?_)
      go_round
      case rel => exact ⟨j, by omega, by go_num, by rw [HV.out, ← HOR.out]⟩
      case measure => simp [intOf]
    · have hk0 : k = 0 := by omega
      subst hk0
      go_wp2_with fail
      go_ret
      exact ⟨rfl, rfl⟩
end Go.Proofs.YtjelacblnjbfgaaGreatDoor.Rc
namespace Go.Proofs.YtjelacblnjbfgaaGreatDoor.Rc
open Go.RowKit Go.Shelf Go.Proofs.YtjelacblnjbfgaaGreatDoor Mem Help Go.Proofs.YtjelacblnjbfgaaGreatDoor.Sum Po Ky Ct Go.Proofs.YtjelacblnjbfgaaGreatDoor.Bit Held
attribute [local irreducible] wpList wpListIn Calls
theorem info_w64 : (Tryz.prog.info? 23).map (fun i => (i.zero, i.size, i.bytes)) = some (some (.int .u64 0), 1, 8) := by kernel_rfl
theorem ints_word {w : World} {B b off n : Nat} {zs : List Int} (hi : Ints w .u8 B (some ⟨b, off, none⟩) n zs) {x : Nat} (hx : 8 * x + 8 ≤ n) : Ints w .u8 B (some ⟨b, off + 8 * x, none⟩) 8 ((zs.drop (8 * x)).take 8) := by
  refine ⟨by rw [List.length_take, List.length_drop, hi.1]; omega, fun z hz => hi.2.1 z (List.mem_of_mem_drop (List.mem_of_mem_take hz)), fun _ => ?_⟩
  obtain ⟨b', off', e, hb, hcc⟩ := hi.2.2 (by omega)
  injection e with e
  injection e with e1 e2
  subst e1
  subst e2
  refine ⟨b, off + 8 * x, rfl, hb, fun i hi8 => ?_⟩
  rw [Nat.add_assoc, hcc (8 * x + i) (by omega)]
  simp [List.getD_eq_getElem?_getD, hi8]
theorem rnum_b (B : Nat) (A : Option Addr) (c : Nat) (zs : List Int) (x : Int) (w : World) (h : Ints w .u8 B A 8 zs) (hx : val zs = x) :
    Calls Tryz.prog 73 #[.slice A 8 c] w fun e w' => e = .returned (.int .u64 x) ∧ Below w.heap.size w w' := by
  rw [← hx]
  exact (rnumber_any B A c zs w h).mono fun _ _ ⟨h, e⟩ => ⟨h, e ▸ Below.refl _ _⟩
theorem rtake_off (A : Option Addr) (m c : Nat) (w : World) (hm : m ≤ 1099511627776) (h : m ≠ 32) :
    Calls Tryz.prog 48 #[.slice A m c] w fun e w' => e = .returned (.tuple #[.agg noneC, .int .i64 (if m < 32 then 3 else 4)]) ∧ Below w.heap.size w w' := by
  by_cases hlt : m < 32
  · have hlt' : (m : Int) < 32 := by omega
    rw [if_pos hlt]
    go_enter Tryz.func48, Tryz.ntmps48
    go_wp2_with (first
      | (refine wpList_alloc_blk (w := w) rfl 37 rfl _ zero_rec ?_; intro w1 q1 g1 z1)
      | (refine wpList_build_blk rfl 37 _ rfl noneC (by kernel_rfl) ?_)
      | (refine wpList_store_blk (w := w1) rfl 37 _ _ rfl w.heap.size 4 rfl 37 _ noneC rfl q1 info_rec rfl rfl (by kernel_rfl) ?_; intro w2 q2 g2 z2))
    exact bodyPost_ret (results_blk_tmp rfl _ _ w.heap.size 4 _ _ _ rfl rfl q2 _ Tryz.underlying37 rfl info_rec rfl) rfl ⟨rfl, ((Below.refl _ w).grown g1 (Nat.le_refl _) (by simp)).grown g2 g1.size (fun r e => by cases e; exact Nat.le_refl _)⟩
  · have hlt' : ¬ (m : Int) < 32 := by omega
    have hgt : (32 : Int) < (m : Int) := by omega
    rw [if_neg hlt]
    go_enter Tryz.func48, Tryz.ntmps48
    go_wp2_with (first
      | (refine wpList_alloc_blk (w := w) rfl 37 rfl _ zero_rec ?_; intro w1 q1 g1 z1)
      | (refine wpList_build_blk rfl 37 _ rfl noneC (by kernel_rfl) ?_)
      | (refine wpList_store_blk (w := w1) rfl 37 _ _ rfl w.heap.size 4 rfl 37 _ noneC rfl q1 info_rec rfl rfl (by kernel_rfl) ?_; intro w2 q2 g2 z2))
    exact bodyPost_ret (results_blk_tmp rfl _ _ w.heap.size 4 _ _ _ rfl rfl q2 _ Tryz.underlying37 rfl info_rec rfl) rfl ⟨rfl, ((Below.refl _ w).grown g1 (Nat.le_refl _) (by simp)).grown g2 g1.size (fun r e => by cases e; exact Nat.le_refl _)⟩
set_option maxRecDepth 100000 in
set_option maxHeartbeats 4000000 in
theorem rtake_at (B : Nat) (b off c : Nat) (zs : List Int) (w : World) (h : Ints w .u8 B (some ⟨b, off, none⟩) 32 zs) (hb : b < B) (hB : B ≤ w.heap.size) (hc : 32 ≤ c) :
    Calls Tryz.prog 48 #[.slice (some ⟨b, off, none⟩) 32 c] w fun e w' => e = .returned (.tuple #[.agg (takenC zs), .int .i64 (takenE zs)]) ∧ Below w.heap.size w w' := by
  have i0 : Ints w .u8 B (some ⟨b, off, none⟩) 8 (zs.take 8) := h.front (by omega)
  have i1 : Ints w .u8 B (some ⟨b, off + 8, none⟩) 8 ((zs.drop 8).take 8) := ints_word h (x := 1) (by omega)
  have i2 : Ints w .u8 B (some ⟨b, off + 16, none⟩) 8 ((zs.drop 16).take 8) := ints_word h (x := 2) (by omega)
  obtain ⟨A3, hA3, _, i3⟩ := run_back (P := Tryz.prog) Tryz.underlying27 size_u8 (Flat.head b off c) hc (l := 24) (by omega) h
  have hA3 : ∀ w, (Instr.sliceAt 27 (.slice (some ⟨b, off, none⟩) 32 c) (some (.int .i64 24)) none none).run Tryz.prog w = .ok (.slice A3 8 (c - 24)) w := hA3
  have i3 : Ints w .u8 B A3 8 (zs.drop 24) := i3
  have HC := Lib.hid (show takenC zs = if may (fld zs 0) (fld zs 1) (fld zs 2) (fld zs 3) = true then recC (fld zs 0) (fld zs 1) (fld zs 2) (fld zs 3) else noneC by
    unfold takenC mayB
    rw [h.1]
    simp)
  have HE := Lib.hid (show takenE zs = if may (fld zs 0) (fld zs 1) (fld zs 2) (fld zs 3) = true then 0 else 4 by
    unfold takenE mayB
    rw [h.1]
    simp)
  have HN0 := Lib.hid (show val (zs.take 8) = fld zs 0 by unfold fld; rw [Nat.mul_zero, List.drop_zero])
  have HN1 := Lib.hid (show val ((zs.drop 8).take 8) = fld zs 1 from rfl)
  have HN2 := Lib.hid (show val ((zs.drop 16).take 8) = fld zs 2 from rfl)
  have HN3 := Lib.hid (show val (zs.drop 24) = fld zs 3 by unfold fld; rw [List.take_of_length_le (by rw [List.length_drop, h.1]; omega)])
  have hw0 := wf_u64 (fld_wf (bs_of h.2.1) 0)
  generalize fld zs 0 = n0 at *
  generalize fld zs 1 = n1 at *
  generalize fld zs 2 = n2 at *
  generalize fld zs 3 = n3 at *
  clear h
  go_enter Tryz.func48, Tryz.ntmps48
  go_wp2_with (refine wpList_alloc_blk (w := w) rfl 37 rfl _ zero_rec ?_; intro u1 q1 g1 z1)
  have bz : Below w.heap.size w u1 := (Below.refl _ w).grown g1 (Nat.le_refl _) (by simp)
  clear g1 z1
  refine wp_region_held (S := fun W => Below u1.heap.size u1 W) (by kernel_rfl) ?_
  change wpAnyH _ _ _ _ _ _ _ _ u1.drew
  have c0_0 := (Below.refl u1.heap.size u1).drew
  refine Held.tk (v := .slice (some ⟨b, off, none⟩) 32 c) 0 (some 16) rfl (Held.y_move rfl rfl) c0_0 ?_
  simp only [Act.put, Z1, Z2, Z3]
  refine Held.tk (v := .slice (some ⟨b, off, none⟩) 8 c) 1 (some 17) rfl (Held.y_slice rfl (fun W => run_front (P := Tryz.prog) Tryz.underlying27 size_u8 (Flat.head b off c) (h := 8) (by omega) W)) c0_0 ?_
  simp only [Act.put, Z1, Z2, Z3]
  refine Held.tk (v := .slice (some ⟨b, off, none⟩) 32 c) 3 (some 19) rfl (Held.y_move rfl rfl) c0_0 ?_
  simp only [Act.put, Z1, Z2, Z3]
  refine Held.tk (v := .slice (some ⟨b, off + 8, none⟩) 8 (c - 8)) 4 (some 20) rfl (Held.y_slice rfl (fun W => run_midO (P := Tryz.prog) Tryz.underlying27 size_u8 b off 32 (cap := c) (l := 8) (h := 16) (by omega) (by omega) (by omega) W)) c0_0 ?_
  simp only [Act.put, Z1, Z2, Z3]
  refine Held.one 2 (by kernel_rfl) ?_
  refine Held.op_call 2 (some 18) 73 #[.slice (some ⟨b, off, none⟩) 8 c] rfl rfl rfl rfl (enters_of Tryz.func73 (by kernel_rfl) rfl) (by simp [Act.eval])
    (rnum_b B _ _ _ n0 _ (i0.below ((bz.trans (c0_0.mono bz.size)).mono hB)) HN0.out) ?_
  rintro e w1 ⟨rfl, b1⟩
  have c0_1 := c0_0.trans (b1.mono c0_0.size)
  refine ⟨_, rfl, c0_1, ?_⟩
  simp only [Act.put, Z1, Z2, Z3]
  refine Held.one 5 (by kernel_rfl) ?_
  refine Held.op_call 5 (some 21) 73 #[.slice (some ⟨b, off + 8, none⟩) 8 (c - 8)] rfl rfl rfl rfl (enters_of Tryz.func73 (by kernel_rfl) rfl) (by simp [Act.eval])
    (rnum_b B _ _ _ n1 _ (i1.below ((bz.trans (c0_1.mono bz.size)).mono hB)) HN1.out) ?_
  rintro e w2 ⟨rfl, b2⟩
  have c0_2 := c0_1.trans (b2.mono c0_1.size)
  refine ⟨_, rfl, c0_2, ?_⟩
  simp only [Act.put, Z1, Z2, Z3]
  refine Held.tk (v := .int .u64 n0) 6 (some 4) rfl (Held.y_assign rfl rfl) c0_2 ?_
  simp only [Act.put, Z1, Z2, Z3]
  refine Held.tk (v := .int .u64 n1) 7 (some 5) rfl (Held.y_assign rfl rfl) c0_2 ?_
  simp only [Act.put, Z1, Z2, Z3]
  refine wpAnyH_done (by kernel_rfl) ?_ _
  have bz2 := bz.trans (c0_2.mono bz.size)
  have qz := q1.after c0_2
  generalize w2 = v1 at bz2 qz ⊢
  go_wp2_with fail
  refine wp_region_held (S := fun W => Below v1.heap.size v1 W) (by kernel_rfl) ?_
  change wpAnyH _ _ _ _ _ _ _ _ v1.drew
  have c0_0 := (Below.refl v1.heap.size v1).drew
  refine Held.tk (v := .slice (some ⟨b, off, none⟩) 32 c) 0 (some 22) rfl (Held.y_move rfl rfl) c0_0 ?_
  simp only [Act.put, Z1, Z2, Z3]
  refine Held.tk (v := .slice (some ⟨b, off + 16, none⟩) 8 (c - 16)) 1 (some 23) rfl (Held.y_slice rfl (fun W => run_midO (P := Tryz.prog) Tryz.underlying27 size_u8 b off 32 (cap := c) (l := 16) (h := 24) (by omega) (by omega) (by omega) W)) c0_0 ?_
  simp only [Act.put, Z1, Z2, Z3]
  refine Held.tk (v := .slice (some ⟨b, off, none⟩) 32 c) 3 (some 25) rfl (Held.y_move rfl rfl) c0_0 ?_
  simp only [Act.put, Z1, Z2, Z3]
  refine Held.tk (v := .slice A3 8 (c - 24)) 4 (some 26) rfl (Held.y_slice rfl (fun W => hA3 W)) c0_0 ?_
  simp only [Act.put, Z1, Z2, Z3]
  refine Held.one 2 (by kernel_rfl) ?_
  refine Held.op_call 2 (some 24) 73 #[.slice (some ⟨b, off + 16, none⟩) 8 (c - 16)] rfl rfl rfl rfl (enters_of Tryz.func73 (by kernel_rfl) rfl) (by simp [Act.eval])
    (rnum_b B _ _ _ n2 _ (i2.below ((bz2.trans (c0_0.mono bz2.size)).mono hB)) HN2.out) ?_
  rintro e w1 ⟨rfl, b1⟩
  have c0_1 := c0_0.trans (b1.mono c0_0.size)
  refine ⟨_, rfl, c0_1, ?_⟩
  simp only [Act.put, Z1, Z2, Z3]
  refine Held.one 5 (by kernel_rfl) ?_
  refine Held.op_call 5 (some 27) 73 #[.slice A3 8 (c - 24)] rfl rfl rfl rfl (enters_of Tryz.func73 (by kernel_rfl) rfl) (by simp [Act.eval])
    (rnum_b B _ _ _ n3 _ (i3.below ((bz2.trans (c0_1.mono bz2.size)).mono hB)) HN3.out) ?_
  rintro e w2 ⟨rfl, b2⟩
  have c0_2 := c0_1.trans (b2.mono c0_1.size)
  refine ⟨_, rfl, c0_2, ?_⟩
  simp only [Act.put, Z1, Z2, Z3]
  refine Held.tk (v := .int .u64 n2) 6 (some 6) rfl (Held.y_assign rfl rfl) c0_2 ?_
  simp only [Act.put, Z1, Z2, Z3]
  refine Held.tk (v := .int .u64 n3) 7 (some 7) rfl (Held.y_assign rfl rfl) c0_2 ?_
  simp only [Act.put, Z1, Z2, Z3]
  refine wpAnyH_done (by kernel_rfl) ?_ _
  have bz3 := bz2.trans (c0_2.mono bz2.size)
  have qy := qz.after c0_2
  generalize w2 = v2 at bz3 qy ⊢
  clear i0 i1 i2 i3 hA3 HN0 HN1 HN2 HN3 bz bz2 q1 qz
  rcases (show n0 = 0 ∨ n0 = 1 ∨ 1 < n0 by omega) with rfl | rfl | hgt
  · have hmay : may 0 n1 n2 n3 = true := rfl
    rw [hmay] at HC HE
    clear hw0
    · go_wp2_with (first
        | (refine wpList_build_blk rfl 37 _ rfl (recC 0 n1 n2 n3) (by kernel_rfl) ?_)
        | (refine wpList_store_blk (w := v2) rfl 37 _ _ rfl w.heap.size 4 rfl 37 _ (recC 0 n1 n2 n3) rfl qy info_rec rfl rfl (by kernel_rfl) ?_; intro w3 q3 g3 z3))
      exact bodyPost_ret (results_blk_tmp rfl _ _ w.heap.size 4 _ _ _ rfl rfl q3 _ Tryz.underlying37 rfl info_rec rfl) rfl ⟨by rw [HC.out, HE.out]; rfl, bz3.grown g3 bz3.size (fun r e => by cases e; exact Nat.le_refl _)⟩
  · by_cases h1 : n1 = 0
    · subst h1
      by_cases h2 : n2 = 0
      · subst h2
        by_cases h3 : n3 = 0
        · subst h3
          have hmay : may 1 0 0 0 = true := rfl
          rw [hmay] at HC HE
          clear hw0
          go_wp2_with (first
            | (refine wpList_build_blk rfl 37 _ rfl (recC 1 0 0 0) (by kernel_rfl) ?_)
            | (refine wpList_store_blk (w := v2) rfl 37 _ _ rfl w.heap.size 4 rfl 37 _ (recC 1 0 0 0) rfl qy info_rec rfl rfl (by kernel_rfl) ?_; intro w3 q3 g3 z3))
          exact bodyPost_ret (results_blk_tmp rfl _ _ w.heap.size 4 _ _ _ rfl rfl q3 _ Tryz.underlying37 rfl info_rec rfl) rfl ⟨by rw [HC.out, HE.out]; rfl, bz3.grown g3 bz3.size (fun r e => by cases e; exact Nat.le_refl _)⟩
        · have hmay : may 1 0 0 n3 = false := by simp [may, h3]
          rw [hmay] at HC HE
          have h3' : (n3 != 0) = true := by simpa using h3
          clear hw0
          go_wp2_with (first
            | (refine wpList_build_blk rfl 37 _ rfl noneC (by kernel_rfl) ?_)
            | (refine wpList_store_blk (w := v2) rfl 37 _ _ rfl w.heap.size 4 rfl 37 _ noneC rfl qy info_rec rfl rfl (by kernel_rfl) ?_; intro w3 q3 g3 z3))
          exact bodyPost_ret (results_blk_tmp rfl _ _ w.heap.size 4 _ _ _ rfl rfl q3 _ Tryz.underlying37 rfl info_rec rfl) rfl ⟨by rw [HC.out, HE.out]; rfl, bz3.grown g3 bz3.size (fun r e => by cases e; exact Nat.le_refl _)⟩
      · have hmay : may 1 0 n2 n3 = false := by simp [may, h2]
        rw [hmay] at HC HE
        have h2' : (n2 != 0) = true := by simpa using h2
        clear hw0
        go_wp2_with (first
          | (refine wpList_build_blk rfl 37 _ rfl noneC (by kernel_rfl) ?_)
          | (refine wpList_store_blk (w := v2) rfl 37 _ _ rfl w.heap.size 4 rfl 37 _ noneC rfl qy info_rec rfl rfl (by kernel_rfl) ?_; intro w3 q3 g3 z3))
        exact bodyPost_ret (results_blk_tmp rfl _ _ w.heap.size 4 _ _ _ rfl rfl q3 _ Tryz.underlying37 rfl info_rec rfl) rfl ⟨by rw [HC.out, HE.out]; rfl, bz3.grown g3 bz3.size (fun r e => by cases e; exact Nat.le_refl _)⟩
    · have hmay : may 1 n1 n2 n3 = false := by simp [may, h1]
      rw [hmay] at HC HE
      have h1' : (n1 != 0) = true := by simpa using h1
      clear hw0
      go_wp2_with (first
        | (refine wpList_build_blk rfl 37 _ rfl noneC (by kernel_rfl) ?_)
        | (refine wpList_store_blk (w := v2) rfl 37 _ _ rfl w.heap.size 4 rfl 37 _ noneC rfl qy info_rec rfl rfl (by kernel_rfl) ?_; intro w3 q3 g3 z3))
      exact bodyPost_ret (results_blk_tmp rfl _ _ w.heap.size 4 _ _ _ rfl rfl q3 _ Tryz.underlying37 rfl info_rec rfl) rfl ⟨by rw [HC.out, HE.out]; rfl, bz3.grown g3 bz3.size (fun r e => by cases e; exact Nat.le_refl _)⟩
  · have hmay : may n0 n1 n2 n3 = false := by
      have h0 : n0 ≠ 0 := by omega
      have h1 : n0 ≠ 1 := by omega
      simp [may, h0, h1]
    rw [hmay] at HC HE
    clear hw0
    · go_wp2_with (first
        | (refine wpList_build_blk rfl 37 _ rfl noneC (by kernel_rfl) ?_)
        | (refine wpList_store_blk (w := v2) rfl 37 _ _ rfl w.heap.size 4 rfl 37 _ noneC rfl qy info_rec rfl rfl (by kernel_rfl) ?_; intro w3 q3 g3 z3))
      exact bodyPost_ret (results_blk_tmp rfl _ _ w.heap.size 4 _ _ _ rfl rfl q3 _ Tryz.underlying37 rfl info_rec rfl) rfl ⟨by rw [HC.out, HE.out]; rfl, bz3.grown g3 bz3.size (fun r e => by cases e; exact Nat.le_refl _)⟩
theorem rtake_any (B : Nat) (A : Option Addr) (m c : Nat) (zs : List Int) (w : World) (h : Ints w .u8 B A m zs) (hB : B ≤ w.heap.size) (hc : m ≤ c) (hm' : m ≤ 1099511627776) :
    Calls Tryz.prog 48 #[.slice A m c] w fun e w' => e = .returned (.tuple #[.agg (takenC zs), .int .i64 (takenE zs)]) ∧ Below w.heap.size w w' := by
  by_cases hm : m = 32
  · subst hm
    obtain ⟨b, off, rfl, hb, _⟩ := h.2.2 (by omega)
    exact rtake_at B b off c zs w h hb hB hc
  · have e1 : takenC zs = noneC := by
      unfold takenC
      rw [if_neg (by rw [h.1]; omega)]
    have e2 : takenE zs = if m < 32 then 3 else 4 := by
      unfold takenE
      rw [h.1]
      split
      · rfl
      · rw [if_neg (by omega)]
    rw [e1, e2]
    exact rtake_off A m c w hm' hm
end Go.Proofs.YtjelacblnjbfgaaGreatDoor.Rc
