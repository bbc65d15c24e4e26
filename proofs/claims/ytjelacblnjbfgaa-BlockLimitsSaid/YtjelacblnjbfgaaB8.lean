/-
  Records as plain things, lists of them in memory, cell by cell; a call of a function value within a region that draws its order: no program here but the type of a record. No conditions beyond those stated.
  The functions Same and Plain of package dominohelp on records, by their contracts. Conditions: the slices read as lists of records, of at most 2^30.
  The functions Own and Kept of package dominohelp on records, by their contracts. Conditions: the slices read as lists of records, of at most 2^20.
  Package record's Take, by its contract. Conditions: bytes that read as a list, at most 2^40 of them.
-/
import Derived.Test.YtjelacblnjbfgaaB5
import Derived.Test.YtjelacblnjbfgaaB7
import Derived.Deep.MidRow
import Derived.OwnWalk
import Derived.Lib.BufferOwn
import Derived.Maps.AppendAt
import Derived.Great.BuildSlice
namespace Go.Proofs.Ytjelacblnjbfgaa.Rs
open Go.RowKit Go.Shelf Go.Proofs.Ytjelacblnjbfgaa.Mem Go.Proofs.Ytjelacblnjbfgaa.Held Go.Proofs.Ytjelacblnjbfgaa.Rc
set_option linter.unusedVariables false

/-- a record -/
structure R where
  d : Bool
  k : Int
  v : Int
  s : Int
theorem R.eq {a b : R} (h1 : a.d = b.d) (h2 : a.k = b.k) (h3 : a.v = b.v) (h4 : a.s = b.s) : a = b := by
  cases a
  cases b
  simp_all
instance decR : DecidableEq R := fun a b =>
  if h : a.d = b.d ∧ a.k = b.k ∧ a.v = b.v ∧ a.s = b.s then .isTrue (R.eq h.1 h.2.1 h.2.2.1 h.2.2.2)
  else .isFalse fun e => h (by rw [e]; exact ⟨rfl, rfl, rfl, rfl⟩)
theorem R.iff {a b : R} : a = b ↔ a.d = b.d ∧ a.k = b.k ∧ a.v = b.v ∧ a.s = b.s := ⟨fun e => by rw [e]; exact ⟨rfl, rfl, rfl, rfl⟩, fun h => R.eq h.1 h.2.1 h.2.2.1 h.2.2.2⟩
def R.wf (r : R) : Prop := (Lit.int .i64 r.k).wf = true ∧ (Lit.int .i64 r.v).wf = true ∧ (Lit.int .i64 r.s).wf = true
def R.cells (r : R) : List Value := [.bool r.d, .int .i64 r.k, .int .i64 r.v, .int .i64 r.s]
def R0 : R := ⟨false, 0, 0, 0⟩
/-- a dead one -/
def RD : R := ⟨true, 0, 0, 0⟩
def R.zd (r : R) : R := ⟨r.d, Rc.zd r.d r.k, Rc.zd r.d r.v, Rc.zd r.d r.s⟩
/-- records, cell by cell -/
def flat (rs : List R) : List Value := rs.flatMap R.cells
theorem flat_length : ∀ rs : List R, (flat rs).length = rs.length * 4
  | [] => rfl
  | r :: rs => by
    have := flat_length rs
    simp only [flat, List.flatMap_cons, List.length_append, List.length_cons, R.cells, List.length_nil] at this ⊢
    omega
theorem flat_append (rs qs : List R) : flat (rs ++ qs) = flat rs ++ flat qs := by simp [flat]
theorem flat_one (r : R) : flat [r] = r.cells := by simp [flat]
theorem flat_at : ∀ (rs : List R) (i j : Nat), j < 4 → i < rs.length → (flat rs)[i * 4 + j]? = (rs.getD i R0).cells[j]?
  | [], i, j, _, h => absurd h (by simp)
  | r :: rs, 0, j, hj, _ => by
    simp only [flat, List.flatMap_cons, Nat.zero_mul, Nat.zero_add, List.getD_cons_zero]
    rw [List.getElem?_append_left (by simp [R.cells]; omega)]
  | r :: rs, i + 1, j, hj, h => by
    have := flat_at rs i j hj (by simpa using h)
    simp only [flat, List.flatMap_cons, List.getD_cons_succ] at this ⊢
    rw [List.getElem?_append_right (by simp [R.cells]; omega), show (i + 1) * 4 + j - r.cells.length = i * 4 + j by simp [R.cells]; omega, this]
theorem flat_one' (rs : List R) : ∀ u ∈ flat rs, u.oneCell' = true := fun u hu => by
  obtain ⟨r, _, h⟩ := List.mem_flatMap.1 hu
  simp only [R.cells, List.mem_cons, List.not_mem_nil, or_false] at h
  rcases h with rfl | rfl | rfl | rfl <;> rfl

/-- the slice at A, of n records, below block B, reads as the list rs -/
def Recs (w : World) (B : Nat) (A : Option Addr) (n : Nat) (rs : List R) : Prop :=
  rs.length = n ∧ (∀ r ∈ rs, r.wf) ∧ (0 < n → ∃ b off, A = some ⟨b, off, none⟩ ∧ b < B ∧ w.rangeAt b off (flat rs))
section
variable {w w' : World} {B B' n : Nat} {A : Option Addr} {rs : List R}
theorem Recs.nil (w : World) (B : Nat) (A : Option Addr) : Recs w B A 0 [] := ⟨rfl, by simp, fun h => absurd h (by omega)⟩
theorem Recs.keep (h : Recs w B A n rs) (hk : ∀ p : Addr, p.block < B → w'.cell? p = w.cell? p) : Recs w' B A n rs :=
  ⟨h.1, h.2.1, fun hn => by
    obtain ⟨b, off, e, hb, hc⟩ := h.2.2 hn
    exact ⟨b, off, e, hb, fun j v hv => (hk ⟨b, off + j, none⟩ hb).trans (hc j v hv)⟩⟩
theorem Recs.more (h : Recs w B A n rs) (hB : B ≤ B') : Recs w B' A n rs :=
  ⟨h.1, h.2.1, fun hn => by
    obtain ⟨b, off, e, hb, hc⟩ := h.2.2 hn
    exact ⟨b, off, e, by omega, hc⟩⟩
theorem Recs.below (h : Recs w B A n rs) (hb : Below B w w') : Recs w' B A n rs := h.keep fun _ hp => hb.cell hp
theorem Recs.at_ (h : Recs w B A n rs) {i : Nat} (hi : i < n) : ∃ b off, A = some ⟨b, off, none⟩ ∧ b < B ∧ w.rangeAt b (off + i * 4) (rs.getD i R0).cells := by
  obtain ⟨b, off, e, hb, hc⟩ := h.2.2 (by omega)
  refine ⟨b, off, e, hb, fun j v hv => ?_⟩
  have hj : j < 4 := by have := (List.getElem?_eq_some_iff.1 hv).1; simpa [R.cells] using this
  rw [Nat.add_assoc]
  exact hc (i * 4 + j) v (by rw [flat_at rs i j hj (by rw [h.1]; exact hi)]; exact hv)
theorem Recs.wf_at (h : Recs w B A n rs) {i : Nat} (hi : i < n) : (rs.getD i R0).wf := by
  have hl : i < rs.length := by rw [h.1]; exact hi
  rw [List.getD_eq_getElem?_getD, List.getElem?_eq_getElem hl]
  exact h.2.1 _ (List.getElem_mem _)
end

section
variable {P : Program} {ops : Array Oper} {Q : Exit → Act → World → Prop}
/-- a call of a function value, with what it has captured -/
theorem op_callv (i : Nat) (d : Option Tmp) {o : Oper} {a : Act} {w : World} {K : Act → World → Prop} (f : FuncId) (lb vals : Array Value) {y : Operand} {xs : Array Operand} {ts : Array TypeId} {R : Ending → World → Prop} (hi : ops[i]? = some o) (hd : o.dst = d) (hw : Region.wanted o (yielded ops a.tmps) = true)
    (ho : o.op = .call { callee := .value y, args := xs, argTypes := ts }) (hy : a.eval y = .func (.func f) #[] lb) (he : Enters P f) (hv : xs.map a.eval = vals)
    (hc : Calls P f (vals ++ lb) w R)
    (h : ∀ e w', R e w' → ∃ v, e = .returned v ∧ K (a.put d v) w') : wpOp P ops Q i K a w := by
  subst hd
  refine op_wp i hi hw ?_
  have hrun : (execOp a.eval o).run P w = .ok (.enter f (vals ++ lb)) w := by
    unfold execOp
    simp only [ho, resolve, hy, Deferred.ofValue, Sem.run_bind, Sem.run_pure, Result.andThen_ok, invoke, Array.empty_append, hv]
    exact he _ _
  unfold Oper.wp
  rw [hrun, Oper.upon_enter]
  refine hc.mono fun e w' hR => ?_
  obtain ⟨v, rfl, hW⟩ := h e w' hR
  exact hW
end
section
variable {P : Program} {S : World → Prop} {ρ : Operand → Value} {o : Oper}
theorem run_addr_of (t e : TypeId) (b off len cap i s : Nat) (k : IntKind) (ht : P.underlying t = some (.slice e)) (hs : (P.info? e).map (·.size) = some s) (hi : i < len) (w : World) :
    (Instr.indexAt t (.slice (some ⟨b, off, none⟩) len cap) (.int k (i : Int))).run P w = .ok (.pointer (some ⟨b, off + i * s, none⟩)) w := by
  have he : P.elem t = e := by simp [Program.elem, ht]
  have hz : (sizeOf e).run P w = .ok s w := by
    cases hq : P.info? e with
    | none => simp [hq] at hs
    | some q => simp [hq] at hs; simp [sizeOf, typeInfo, hq, hs]
  have ea : (Addr.mk b off none).add (i * s) = ⟨b, off + i * s, none⟩ := by unfold Addr.add; split <;> simp_all
  rw [run_indexAt_slice w t ⟨b, off, none⟩ len cap k (i : Int) (by rw [he]; exact ht), he, if_pos ⟨by omega, by omega⟩, hz]
  simp [Result.andThen, ea]
theorem y_load_range {ty : TypeId} {x : Operand} {b off n : Nat} {cs : List Value} {d : TypeDesc} (ho : o.op = .load ty x) (hx : ρ x = .pointer (some ⟨b, off, none⟩)) (hu : P.underlying ty = some d) (hd : d.isRow = true) (hi : (P.info? ty).map (·.size) = some n) (hn : cs.length = n)
    (hr : ∀ w, S w → w.rangeAt b off cs) : ∀ w, S w → (execOp ρ o).run P w = .ok (.value (.agg cs.toArray)) w := fun w hw => by
  have h := run_loadAt_mid (P := P) w b off ty cs d (hr w hw) hu hd (by rw [hi, hn])
  simp [execOp, ho, hx, h]
end
end Go.Proofs.Ytjelacblnjbfgaa.Rs
namespace Go.Proofs.Ytjelacblnjbfgaa.Rs
open Go.RowKit Go.Shelf Go.Proofs.Ytjelacblnjbfgaa.Mem Go.Proofs.Ytjelacblnjbfgaa.Held Go.Proofs.Ytjelacblnjbfgaa.Rc Go.Proofs.Ytjelacblnjbfgaa
set_option linter.unusedVariables false
attribute [local irreducible] wpList wpListIn Calls

theorem eqr_any (a b : R) (w : World) : Calls Try.prog 28 #[.agg #[.bool a.d, .int .i64 a.k, .int .i64 a.v, .int .i64 a.s], .agg #[.bool b.d, .int .i64 b.k, .int .i64 b.v, .int .i64 b.s]] w fun e w' => e = .returned (.bool (decide (a = b))) ∧ Below w.heap.size w w' := by
  have HR := Lib.hid (show decide (a.d = b.d ∧ a.k = b.k ∧ a.v = b.v ∧ a.s = b.s) = decide (a = b) from decide_eq_decide.2 R.iff.symm)
  go_enter Try.func28, Try.ntmps28
  go_wp2_with (first
    | (refine wpList_box_blk (w := w) rfl 27 _ rfl _ rfl ?_; intro w1 q1 g1 z1)
    | (refine wpList_box_blk (w := w1) rfl 27 _ rfl _ rfl ?_; intro w2 q2 g2 z2; have q1 := q1.grown g2 (by simp))
    | (refine wpList_load_blk (w := w2) rfl 27 _ rfl w.heap.size 4 rfl 27 _ q1 _ Try.underlying27 rfl (by kernel_rfl) rfl ?_)
    | (refine wpList_load_blk (w := w2) rfl 27 _ rfl w1.heap.size 4 rfl 27 _ q2 _ Try.underlying27 rfl (by kernel_rfl) rfl ?_)
    | (refine wpList_run rfl (v := .bool (decide (a = b))) (y_eqr (S := fun _ => True) rfl rfl rfl HR.out _ trivial) ?_))
  go_ret
  exact ⟨rfl, ((Below.refl _ w).grown g1 (Nat.le_refl _) (by simp)).grown g2 g1.size (by simp)⟩

theorem take_stepR {xs ys : List R} {k : Nat} (hx : k < xs.length) (hy : k < ys.length) (h : xs.take k = ys.take k) (e : xs.getD k R0 = ys.getD k R0) : xs.take (k + 1) = ys.take (k + 1) := by
  rw [List.take_add_one, List.take_add_one, h]
  simp only [List.getD_eq_getElem?_getD, List.getElem?_eq_getElem hx, List.getElem?_eq_getElem hy, Option.getD_some] at e
  rw [List.getElem?_eq_getElem hx, List.getElem?_eq_getElem hy, e]

set_option maxRecDepth 100000 in
set_option maxHeartbeats 4000000 in
theorem same_any (B B' : Nat) (A A' : Option Addr) (n n' c c' : Nat) (rs rs' : List R) (w : World) (h : Recs w B A n rs) (h' : Recs w B' A' n' rs') (hB : B ≤ w.heap.size) (hB' : B' ≤ w.heap.size) (hn : n ≤ 1073741824) (hn' : n' ≤ 1073741824) :
    Calls Try.prog 27 #[.slice A n c, .slice A' n' c', .func (.func 28) #[] #[]] w fun e w' => e = .returned (.bool (decide (rs = rs'))) ∧ Below w.heap.size w w' := by
  by_cases hnn : n = n'
  · subst hnn
    have hne : ((n : Int) != (n : Int)) = false := by simp
    have HL := Lib.hid h.1
    have HL' := Lib.hid h'.1
    go_enter Try.func27, Try.ntmps27
    go_wp2_with fail
    go_loopw [7] (fun i wr => ∃ k : Nat, k ≤ n ∧ i = .int .i64 k ∧ Below w.heap.size w wr ∧ Hid (rs.take k = rs'.take k)) (fun i _ => n - (intOf i).toNat)
    case atStart => exact ⟨0, by omega, rfl, Below.refl _ _, Lib.hid rfl⟩
    case round =>
      obtain ⟨k, hk, rfl, hst, ht⟩ := hrel
      have hBk := Nat.le_trans hB hst.size
      have hBk' := Nat.le_trans hB' hst.size
      by_cases hlt : k < n
      · obtain ⟨b, off, rfl, hb, hx⟩ := (h.below (hst.mono hB)).at_ hlt
        obtain ⟨b', off', rfl, hb', hy⟩ := (h'.below (hst.mono hB')).at_ hlt
        have hlt' : (k : Int) < (n : Int) := by omega
        have hk0 : (0 : Int) ≤ (k : Int) := by omega
        by_cases hq0 : rs.getD k R0 = rs'.getD k R0
        · have HT := Lib.hid (take_stepR (by have := HL.out; omega) (by have := HL'.out; omega) ht.out hq0)
          have hq : decide (rs.getD k R0 = rs'.getD k R0) = true := by simpa using hq0
          clear hq0
          generalize rs.getD k R0 = x at hx hq
          generalize rs'.getD k R0 = y at hy hq
          go_wp2_with fail
          refine wp_region_held (S := fun W => Below wr.heap.size wr W) (by kernel_rfl) ?_
          change wpAnyH _ _ _ _ _ _ _ _ wr.drew
          have c0_0 := (Below.refl wr.heap.size wr).drew
          refine Held.take (v := .func (.func 28) #[] #[]) 0 (some 19) rfl rfl (by kernel_rfl) (by kernel_rfl) (by kernel_rfl) (fun _ _ _ h => h) rfl (Held.y_move rfl rfl) c0_0 ?_
          simp only [Act.put, List.setIfInBounds_toArray, List.set_cons_zero, List.set_cons_succ]
          refine Held.take (v := .slice (some ⟨b, off, none⟩) n c) 1 (some 20) rfl rfl (by kernel_rfl) (by kernel_rfl) (by kernel_rfl) (fun _ _ _ h => h) rfl (Held.y_move rfl rfl) c0_0 ?_
          simp only [Act.put, List.setIfInBounds_toArray, List.set_cons_zero, List.set_cons_succ]
          refine Held.take (v := .int .i64 (k : Int)) 2 (some 21) rfl rfl (by kernel_rfl) (by kernel_rfl) (by kernel_rfl) (fun _ _ _ h => h) rfl (Held.y_move rfl rfl) c0_0 ?_
          simp only [Act.put, List.setIfInBounds_toArray, List.set_cons_zero, List.set_cons_succ]
          refine Held.take (v := .pointer (some ⟨b, off + k * 4, none⟩)) 3 (some 22) rfl rfl (by kernel_rfl) (by kernel_rfl) (by kernel_rfl) (fun _ _ _ h => h) rfl (Held.y_addr rfl rfl rfl (run_addr_of 22 27 b off n c k 4 .i64 Try.underlying22 (by kernel_rfl) hlt)) c0_0 ?_
          simp only [Act.put, List.setIfInBounds_toArray, List.set_cons_zero, List.set_cons_succ]
          refine Held.take (v := .agg #[.bool x.d, .int .i64 x.k, .int .i64 x.v, .int .i64 x.s]) 4 (some 23) rfl rfl (by kernel_rfl) (by kernel_rfl) (by kernel_rfl) (fun _ _ _ h => h) rfl (y_load_range (n := 4) (cs := x.cells) rfl rfl Try.underlying27 rfl (by kernel_rfl) rfl (fun W hW => range_below hx hW (Nat.lt_of_lt_of_le hb hBk))) c0_0 ?_
          simp only [Act.put, List.setIfInBounds_toArray, List.set_cons_zero, List.set_cons_succ]
          refine Held.take (v := .slice (some ⟨b', off', none⟩) n c') 5 (some 24) rfl rfl (by kernel_rfl) (by kernel_rfl) (by kernel_rfl) (fun _ _ _ h => h) rfl (Held.y_move rfl rfl) c0_0 ?_
          simp only [Act.put, List.setIfInBounds_toArray, List.set_cons_zero, List.set_cons_succ]
          refine Held.take (v := .int .i64 (k : Int)) 6 (some 25) rfl rfl (by kernel_rfl) (by kernel_rfl) (by kernel_rfl) (fun _ _ _ h => h) rfl (Held.y_move rfl rfl) c0_0 ?_
          simp only [Act.put, List.setIfInBounds_toArray, List.set_cons_zero, List.set_cons_succ]
          refine Held.take (v := .pointer (some ⟨b', off' + k * 4, none⟩)) 7 (some 26) rfl rfl (by kernel_rfl) (by kernel_rfl) (by kernel_rfl) (fun _ _ _ h => h) rfl (Held.y_addr rfl rfl rfl (run_addr_of 22 27 b' off' n c' k 4 .i64 Try.underlying22 (by kernel_rfl) hlt)) c0_0 ?_
          simp only [Act.put, List.setIfInBounds_toArray, List.set_cons_zero, List.set_cons_succ]
          refine Held.take (v := .agg #[.bool y.d, .int .i64 y.k, .int .i64 y.v, .int .i64 y.s]) 8 (some 27) rfl rfl (by kernel_rfl) (by kernel_rfl) (by kernel_rfl) (fun _ _ _ h => h) rfl (y_load_range (n := 4) (cs := y.cells) rfl rfl Try.underlying27 rfl (by kernel_rfl) rfl (fun W hW => range_below hy hW (Nat.lt_of_lt_of_le hb' hBk'))) c0_0 ?_
          simp only [Act.put, List.setIfInBounds_toArray, List.set_cons_zero, List.set_cons_succ]
          refine Held.one 9 (by kernel_rfl) ?_
          refine Rs.op_callv 9 (some 28) 28 #[] #[.agg #[.bool x.d, .int .i64 x.k, .int .i64 x.v, .int .i64 x.s], .agg #[.bool y.d, .int .i64 y.k, .int .i64 y.v, .int .i64 y.s]] rfl rfl rfl rfl rfl (enters_of Try.func28 (by kernel_rfl) rfl) (by simp [Act.eval])
            (by have := eqr_any x y wr.drew; rwa [hq] at this) ?_
          rintro e w1 ⟨rfl, b1⟩
          have c0_1 := c0_0.trans (b1.mono c0_0.size)
          refine ⟨_, rfl, c0_1, ?_⟩
          simp only [Act.put, List.setIfInBounds_toArray, List.set_cons_zero, List.set_cons_succ]
          refine Held.take (v := .bool false) 10 (some 29) rfl rfl (by kernel_rfl) (by kernel_rfl) (by kernel_rfl) (fun _ _ _ h => h) rfl (Held.y_not rfl rfl rfl) c0_1 ?_
          simp only [Act.put, List.setIfInBounds_toArray, List.set_cons_zero, List.set_cons_succ]
          refine wpAnyH_done (by kernel_rfl) ?_ _
          have dz := hst.trans (c0_1.mono hst.size)
          generalize w1 = wz at dz ⊢
          clear hx hy c0_1
          go_wp2_with fail
          go_roundw
          case rel => exact ⟨k + 1, by omega, by go_num, dz, HT⟩
          case measure => simp [intOf]; omega
        · have HF := Lib.hid (show decide (rs = rs') = false by
            rw [decide_eq_false_iff_not]; intro e; exact hq0 (by rw [e]))
          have hq : decide (rs.getD k R0 = rs'.getD k R0) = false := by simpa using hq0
          clear hq0
          generalize rs.getD k R0 = x at hx hq
          generalize rs'.getD k R0 = y at hy hq
          go_wp2_with fail
          refine wp_region_held (S := fun W => Below wr.heap.size wr W) (by kernel_rfl) ?_
          change wpAnyH _ _ _ _ _ _ _ _ wr.drew
          have c0_0 := (Below.refl wr.heap.size wr).drew
          refine Held.take (v := .func (.func 28) #[] #[]) 0 (some 19) rfl rfl (by kernel_rfl) (by kernel_rfl) (by kernel_rfl) (fun _ _ _ h => h) rfl (Held.y_move rfl rfl) c0_0 ?_
          simp only [Act.put, List.setIfInBounds_toArray, List.set_cons_zero, List.set_cons_succ]
          refine Held.take (v := .slice (some ⟨b, off, none⟩) n c) 1 (some 20) rfl rfl (by kernel_rfl) (by kernel_rfl) (by kernel_rfl) (fun _ _ _ h => h) rfl (Held.y_move rfl rfl) c0_0 ?_
          simp only [Act.put, List.setIfInBounds_toArray, List.set_cons_zero, List.set_cons_succ]
          refine Held.take (v := .int .i64 (k : Int)) 2 (some 21) rfl rfl (by kernel_rfl) (by kernel_rfl) (by kernel_rfl) (fun _ _ _ h => h) rfl (Held.y_move rfl rfl) c0_0 ?_
          simp only [Act.put, List.setIfInBounds_toArray, List.set_cons_zero, List.set_cons_succ]
          refine Held.take (v := .pointer (some ⟨b, off + k * 4, none⟩)) 3 (some 22) rfl rfl (by kernel_rfl) (by kernel_rfl) (by kernel_rfl) (fun _ _ _ h => h) rfl (Held.y_addr rfl rfl rfl (run_addr_of 22 27 b off n c k 4 .i64 Try.underlying22 (by kernel_rfl) hlt)) c0_0 ?_
          simp only [Act.put, List.setIfInBounds_toArray, List.set_cons_zero, List.set_cons_succ]
          refine Held.take (v := .agg #[.bool x.d, .int .i64 x.k, .int .i64 x.v, .int .i64 x.s]) 4 (some 23) rfl rfl (by kernel_rfl) (by kernel_rfl) (by kernel_rfl) (fun _ _ _ h => h) rfl (y_load_range (n := 4) (cs := x.cells) rfl rfl Try.underlying27 rfl (by kernel_rfl) rfl (fun W hW => range_below hx hW (Nat.lt_of_lt_of_le hb hBk))) c0_0 ?_
          simp only [Act.put, List.setIfInBounds_toArray, List.set_cons_zero, List.set_cons_succ]
          refine Held.take (v := .slice (some ⟨b', off', none⟩) n c') 5 (some 24) rfl rfl (by kernel_rfl) (by kernel_rfl) (by kernel_rfl) (fun _ _ _ h => h) rfl (Held.y_move rfl rfl) c0_0 ?_
          simp only [Act.put, List.setIfInBounds_toArray, List.set_cons_zero, List.set_cons_succ]
          refine Held.take (v := .int .i64 (k : Int)) 6 (some 25) rfl rfl (by kernel_rfl) (by kernel_rfl) (by kernel_rfl) (fun _ _ _ h => h) rfl (Held.y_move rfl rfl) c0_0 ?_
          simp only [Act.put, List.setIfInBounds_toArray, List.set_cons_zero, List.set_cons_succ]
          refine Held.take (v := .pointer (some ⟨b', off' + k * 4, none⟩)) 7 (some 26) rfl rfl (by kernel_rfl) (by kernel_rfl) (by kernel_rfl) (fun _ _ _ h => h) rfl (Held.y_addr rfl rfl rfl (run_addr_of 22 27 b' off' n c' k 4 .i64 Try.underlying22 (by kernel_rfl) hlt)) c0_0 ?_
          simp only [Act.put, List.setIfInBounds_toArray, List.set_cons_zero, List.set_cons_succ]
          refine Held.take (v := .agg #[.bool y.d, .int .i64 y.k, .int .i64 y.v, .int .i64 y.s]) 8 (some 27) rfl rfl (by kernel_rfl) (by kernel_rfl) (by kernel_rfl) (fun _ _ _ h => h) rfl (y_load_range (n := 4) (cs := y.cells) rfl rfl Try.underlying27 rfl (by kernel_rfl) rfl (fun W hW => range_below hy hW (Nat.lt_of_lt_of_le hb' hBk'))) c0_0 ?_
          simp only [Act.put, List.setIfInBounds_toArray, List.set_cons_zero, List.set_cons_succ]
          refine Held.one 9 (by kernel_rfl) ?_
          refine Rs.op_callv 9 (some 28) 28 #[] #[.agg #[.bool x.d, .int .i64 x.k, .int .i64 x.v, .int .i64 x.s], .agg #[.bool y.d, .int .i64 y.k, .int .i64 y.v, .int .i64 y.s]] rfl rfl rfl rfl rfl (enters_of Try.func28 (by kernel_rfl) rfl) (by simp [Act.eval])
            (by have := eqr_any x y wr.drew; rwa [hq] at this) ?_
          rintro e w1 ⟨rfl, b1⟩
          have c0_1 := c0_0.trans (b1.mono c0_0.size)
          refine ⟨_, rfl, c0_1, ?_⟩
          simp only [Act.put, List.setIfInBounds_toArray, List.set_cons_zero, List.set_cons_succ]
          refine Held.take (v := .bool true) 10 (some 29) rfl rfl (by kernel_rfl) (by kernel_rfl) (by kernel_rfl) (fun _ _ _ h => h) rfl (Held.y_not rfl rfl rfl) c0_1 ?_
          simp only [Act.put, List.setIfInBounds_toArray, List.set_cons_zero, List.set_cons_succ]
          refine wpAnyH_done (by kernel_rfl) ?_ _
          have dz := hst.trans (c0_1.mono hst.size)
          generalize w1 = wz at dz ⊢
          clear hx hy c0_1
          go_wp2_with fail
          go_ret
          exact ⟨Mem.ret_bool HF.out.symm, dz⟩
      · have HF := Lib.hid (show decide (rs = rs') = true by
          have e1 := ht.out
          rw [List.take_of_length_le (by have := HL.out; omega), List.take_of_length_le (by have := HL'.out; omega)] at e1
          simpa using e1)
        go_wp2_with fail
        go_ret
        exact ⟨Mem.ret_bool HF.out.symm, hst⟩
  · have hne : ((n : Int) != (n' : Int)) = true := by simp; omega
    have HF := Lib.hid (show decide (rs = rs') = false by
      rw [decide_eq_false_iff_not]; intro e; exact hnn (by rw [← h.1, ← h'.1, e]))
    clear h h' hnn
    go_enter Try.func27, Try.ntmps27
    go_wp2_with fail
    go_ret
    exact ⟨Mem.ret_bool HF.out.symm, Below.refl _ _⟩

theorem plain_any (B B' : Nat) (A A' : Option Addr) (n n' c c' : Nat) (rs rs' : List R) (w : World) (h : Recs w B A n rs) (h' : Recs w B' A' n' rs') (hB : B ≤ w.heap.size) (hB' : B' ≤ w.heap.size) (hn : n ≤ 1073741824) (hn' : n' ≤ 1073741824) :
    Calls Try.prog 13 #[.slice A n c, .slice A' n' c'] w fun e w' => e = .returned (.bool (decide (rs = rs'))) ∧ Below w.heap.size w w' := by
  go_enter Try.func13, Try.ntmps13
  go_wp2_with fail
  refine (same_any B B' A A' n n' c c' rs rs' w h h' hB hB' hn hn').mono ?_
  rintro e w' ⟨rfl, hst⟩
  go_wp2_with fail
  go_ret
  exact ⟨rfl, hst⟩
end Go.Proofs.Ytjelacblnjbfgaa.Rs
namespace Go.Proofs.Ytjelacblnjbfgaa.Rs
open Go.RowKit Go.Shelf Go.Proofs.Ytjelacblnjbfgaa.Mem Go.Proofs.Ytjelacblnjbfgaa.Held Go.Proofs.Ytjelacblnjbfgaa.Rc Go.Proofs.Ytjelacblnjbfgaa
set_option linter.unusedVariables false
set_option maxRecDepth 100000
attribute [local irreducible] wpList wpListIn Calls

theorem info_recs : (Try.prog.info? 27).map (fun i => (i.size, i.bytes)) = some (4, 32) := by kernel_rfl
/-- the first n records of a block that is known whole -/
theorem recs_of_blk {w : World} {g : Nat} {t : TypeId} {rs qs : List R} (h : Blk w g t (flat (rs ++ qs)).toArray) (hw : ∀ r ∈ rs, r.wf) : Recs w w.heap.size (some ⟨g, 0, none⟩) rs.length rs :=
  ⟨rfl, hw, fun _ => ⟨g, 0, rfl, h.lt, fun j v hv => by
    rw [Nat.zero_add]
    refine h.cell ?_
    rw [List.getElem?_toArray, flat_append, List.getElem?_append_left (List.getElem?_eq_some_iff.1 hv).1]
    exact hv⟩⟩
theorem fill_four {w : World} {g : Nat} {t : TypeId} {cap k : Nat} {rs : List R} {f : R} (h : Fill w g t cap (flat rs) (k * 4)) (hk : k < rs.length) (hf : rs.getD k R0 = f) (hc : k * 4 + 4 ≤ cap) : Fill (w.setCells g (k * 4) f.cells) g t cap (flat rs) ((k + 1) * 4) := by
  have e := fun j hj => flat_at rs k j hj hk
  rw [hf] at e
  have h0 := h.step (u := .bool f.d) (by have := e 0 (by omega); simpa [R.cells] using this) (by omega)
  have h1 := h0.step (u := .int .i64 f.k) (by have := e 1 (by omega); simpa [R.cells] using this) (by omega)
  have h2 := h1.step (u := .int .i64 f.v) (by have := e 2 (by omega); simpa [R.cells] using this) (by omega)
  have h3 := h2.step (u := .int .i64 f.s) (by have := e 3 (by omega); simpa [R.cells] using this) (by omega)
  rw [show (k + 1) * 4 = k * 4 + 1 + 1 + 1 + 1 by omega]
  exact h3
theorem below_four {B : Nat} {a w : World} (h : Below B a w) {g k : Nat} (hg : B ≤ g) (f : R) : Below B a (w.setCells g k f.cells) :=
  (((h.setCell (p := ⟨g, k, none⟩) hg _).setCell (p := ⟨g, k + 1, none⟩) hg _).setCell (p := ⟨g, k + 1 + 1, none⟩) hg _).setCell (p := ⟨g, k + 1 + 1 + 1, none⟩) hg _
theorem blk_four {w : World} {g b k : Nat} {t : TypeId} {cs : Array Value} (h : Blk w b t cs) (hg : b ≠ g) (f : R) : Blk (w.setCells g k f.cells) b t cs := by
  have e : ∀ (w : World) (p : Addr) (v : Value), p.block = g → Blk w b t cs → Blk (w.setCell p v) b t cs := fun w p v hp hb => (heap_setCell_other w p b v (by rw [hp]; exact hg)).trans hb
  exact e _ _ _ rfl (e _ _ _ rfl (e _ _ _ rfl (e _ ⟨g, k, none⟩ _ rfl h)))

theorem wpList_append_ran {P : Program} {ops : Array Oper} {rest : List Oper} {o : Oper} {a : Act} {w : World} {Q : Exit → Act → World → Prop} (hgd : o.guard = none) (s x : Operand) (ts tx : TypeId) (ho : o.op = .call { callee := .builtin .append, args := #[s, x], argTypes := #[ts, tx] }) (u v r : Value) (w' : World) (hs : a.eval s = u) (hx : a.eval x = v)
    (hr : (Builtin.append_ #[ts, tx] o.type #[u, v]).run P w = .ok r w') (h : wpList P ops Q rest (a.put o.dst r) w') : wpList P ops Q (o :: rest) a w := by
  refine wpList_plain hgd fun K hK => ?_
  unfold Oper.wp execOp
  simp only [ho, resolve, invoke, builtin, Sem.run_bind, Sem.run_pure, Result.andThen_ok, List.map_toArray, List.map_cons, List.map_nil, hs, hx, hr]
  exact hK _ _ h
theorem run_append_recs_fits (w : World) (base g cap B m c : Nat) (A : Option Addr) (rs0 rs : List R) (hown : w.ownsRow base 27 4 (.slice (some ⟨g, 0, none⟩) rs0.length cap) rs0.length (flat rs0)) (h : Recs w B A m rs) (hfit : rs0.length + m ≤ cap) :
    ∃ w', (Builtin.append_ #[22, 22] 22 #[.slice (some ⟨g, 0, none⟩) rs0.length cap, .slice A m c]).run Try.prog w = .ok (.slice (some ⟨g, 0, none⟩) (rs0.length + m) cap) w' ∧ w'.ownsRow base 27 4 (.slice (some ⟨g, 0, none⟩) (rs0.length + m) cap) (rs0.length + m) (flat (rs0 ++ rs)) ∧ w.grownBy w' (some g) := by
  obtain ⟨ie, hie, hsb⟩ := Option.map_eq_some_iff.1 info_recs
  simp only [Prod.mk.injEq] at hsb
  obtain ⟨hsz, hby⟩ := hsb
  cases A with
  | none =>
    have hm : m = 0 := by
      rcases Nat.eq_zero_or_pos m with h0 | h0
      · exact h0
      · obtain ⟨_, _, e, _⟩ := h.2.2 h0
        cases e
    subst hm
    have e : rs = [] := List.eq_nil_of_length_eq_zero h.1
    subst e
    refine ⟨w, ?_, by simpa using hown, World.grownBy.refl w _⟩
    simp [Builtin.append_, run_underlying Try.underlying22, sizeOf, typeInfo, hie, Builtin.lenOf, Builtin.firstCells, show rs0.length ≤ cap by omega, storeCells]
  | some ad =>
    have hcells : ∀ j u, (flat rs)[j]? = some u → w.cell? (ad.add j) = some u := fun j u hu => by
      have hj := (List.getElem?_eq_some_iff.1 hu).1
      rw [flat_length] at hj
      obtain ⟨b, off, e, _, hc⟩ := h.2.2 (by have := h.1; omega)
      injection e with e
      subst e
      rw [show (Addr.mk b off none).add j = ⟨b, off + j, none⟩ by (unfold Addr.add; split <;> simp_all)]
      exact hc j u hu
    obtain ⟨w', h1, h2, h3⟩ := run_append_fits (P := Try.prog) w base 22 22 27 ie 4 Try.underlying22 hie hsz g rs0.length cap (flat rs0) hown ad m c (flat rs) (by rw [flat_length, h.1]) hcells (flat_one' rs) hfit
    exact ⟨w', h1, by rw [flat_append]; exact h2, h3⟩
theorem fill_of_own {w : World} {base g n cap : Nat} {t : TypeId} {cs M : List Value} (h : w.ownsRow base t 4 (.slice (some ⟨g, 0, none⟩) n cap) n cs) (hM : M.take (n * 4) = cs) : Fill w g t (cap * 4) M (n * 4) := by
  rcases h.2 with ⟨e, _⟩ | ⟨g', cap', cur, e, hb, hg, hnc, hcm, hcs, ht⟩
  · cases e
  · injection e with e1 e2 e3
    injection e1 with e1
    injection e1 with e1
    subst e1
    subst e3
    exact ⟨cur, hg, hcs, by rw [hM, ht]⟩

/-- a record stored into a block that is being filled, the new world a letter -/
theorem wpList_store_rec {ops : Array Oper} {rest : List Oper} {o : Oper} {a : Act} {w : World} {Q : Exit → Act → World → Prop} (hgd : o.guard = none) (x y : Operand) (ho : o.op = .store 27 x y) (g k cap : Nat) (t : TypeId) (rs : List R) (f : R) (hx : a.eval x = .pointer (some ⟨g, k * 4, none⟩)) (hy : a.eval y = .agg #[.bool f.d, .int .i64 f.k, .int .i64 f.v, .int .i64 f.s])
    (hfl : Fill w g t cap (flat rs) (k * 4)) (hk : k < rs.length) (hf : rs.getD k R0 = f) (hc : k * 4 + 4 ≤ cap)
    (h : ∀ w', Fill w' g t cap (flat rs) ((k + 1) * 4) → w.grownBy w' (some g) → wpList Try.prog ops Q rest (a.put o.dst undef) w') : wpList Try.prog ops Q (o :: rest) a w := by
  have hth : w.there g (k * 4) 4 := fun j hj => by
    obtain ⟨u, hu⟩ := hfl.cell (i := k * 4 + j) (by omega)
    exact ⟨by rw [hu]; rfl, hfl.frozen _⟩
  refine wpList_store_mid hgd _ x y ho g (k * 4) f.cells.toArray hx hy hth (by kernel_rfl) (all_oneCell_toArray (flat_one' [f] |> fun h => by rwa [flat_one] at h)) (h _ ?_ ?_)
  · exact fill_four hfl hk hf hc
  · exact Lib.grownBy_trans (Lib.grownBy_trans (Lib.grownBy_trans (grown_setCell _ _ _ _) (grown_setCell _ _ _ _)) (grown_setCell _ _ _ _)) (grown_setCell _ _ _ _)

set_option maxRecDepth 100000 in
set_option maxHeartbeats 4000000 in
theorem own_any (B : Nat) (A : Option Addr) (n c : Nat) (rs : List R) (f : R) (w : World) (h : Recs w B A n rs) (hB : B ≤ w.heap.size) (hn : n ≤ 1048576) :
    Calls Try.prog 6 #[.slice A n c, .agg #[.bool f.d, .int .i64 f.k, .int .i64 f.v, .int .i64 f.s]] w fun e w' => ∃ g, e = .returned (.slice (some ⟨g, 0, none⟩) n (n + 3)) ∧ w.heap.size ≤ g ∧ Blk w' g 27 (flat (rs ++ [f, f, f])).toArray ∧ Below w.heap.size w w' := by
  obtain ⟨ie, hie, hsb⟩ := Option.map_eq_some_iff.1 info_recs
  simp only [Prod.mk.injEq] at hsb
  obtain ⟨hsz, hby⟩ := hsb
  obtain ⟨zr, hz⟩ : ∃ z, ie.zero = some z := by
    have := zero_rec
    rw [hie] at this
    exact ⟨_, this⟩
  have HL := Lib.hid h.1
  go_enter Try.func6, Try.ntmps6
  go_wp2_with (first
    | (refine wpList_box_blk (w := w) rfl 27 _ rfl _ rfl ?_; intro w1 q1 g1 z1)
    | (at_make; refine wpList_make_own w1 rfl _ _ 22 rfl w1.heap.size 27 ie zr 4 Try.underlying22 hie hz hsz .i64 .i64 _ (n + 3) rfl rfl (by simp) (by rw [hby]; omega) (by unfold maxLen; omega) (Nat.le_refl _) ?_; intro w2 o2 g2; have b1 : Below w.heap.size w w1 := (Below.refl _ w).grown g1 (Nat.le_refl _) (by simp); have b2 := b1.grown g2 b1.size (by simp); obtain ⟨w3, hrun, o3, g3⟩ := run_append_recs_fits w2 w1.heap.size w1.heap.size (n + 3) B n c A [] rs o2 (h.below (b2.mono hB)) (by simp); simp only [List.length_nil, Nat.zero_add, List.nil_append] at hrun o3)
    | (at_builtin; refine wpList_append_ran (w := w2) rfl _ _ 22 22 rfl _ _ _ w3 rfl rfl hrun ?_))
  have hsw : w.heap.size ≤ w1.heap.size := g1.size
  have l1 := q1.lt
  have q3 := (q1.grown g2 (by simp)).grown g3 (by intro e; injection e with e; omega)
  have b3 := b2.grown g3 b2.size (fun r e => by cases e; exact hsw)
  have hfill := fill_of_own (M := flat (rs ++ [f, f, f])) o3 (by rw [flat_append, List.take_left' (by rw [flat_length, HL.out])])
  clear o2 o3 g1 g2 g3 hrun q1 b1 b2 z1
  have HN := Lib.hid (show ∀ k, n ≤ k → k < n + 3 → (rs ++ [f, f, f]).getD k R0 = f from fun k h1 h2 => by
    have hz := HL.out
    rw [List.getD_eq_getElem?_getD, List.getElem?_append_right (by omega), hz]
    have : k - n = 0 ∨ k - n = 1 ∨ k - n = 2 := by omega
    rcases this with e | e | e <;> rw [e] <;> rfl)
  have HLEN := Lib.hid (show (rs ++ [f, f, f]).length = n + 3 by have := HL.out; simp; omega)
  go_loopw [7] (fun i wr => ∃ k : Nat, n ≤ k ∧ k ≤ n + 3 ∧ i = .int .i64 k ∧ Below w.heap.size w wr ∧ Blk wr w.heap.size 27 #[.bool f.d, .int .i64 f.k, .int .i64 f.v, .int .i64 f.s] ∧ Fill wr w1.heap.size 27 ((n + 3) * 4) (flat (rs ++ [f, f, f])) (k * 4)) (fun i _ => n + 3 - (intOf i).toNat)
  case atStart => exact ⟨n, by omega, by omega, rfl, b3, q3, hfill⟩
  case round =>
    clear b3 q3 hfill
    obtain ⟨k, hk0, hk, rfl, hbl, q3, hfl⟩ := hrel
    by_cases hlt : k < n + 3
    · have HK := Lib.hid (show k < (rs ++ [f, f, f]).length by rw [HLEN.out]; exact hlt)
      have HG := Lib.hid (HN.out k hk0 hlt)
      have hlt' : (k : Int) < (n : Int) + 3 := by omega
      have hk1 : (0 : Int) ≤ (k : Int) := by omega
      go_wp2_with (first
        | (refine wpList_load_blk (w := wr) rfl 27 _ rfl w.heap.size 4 rfl 27 _ q3 _ Try.underlying27 rfl (by kernel_rfl) rfl ?_)
        | (refine wpList_run (w := wr) rfl (v := .pointer (some ⟨w1.heap.size, k * 4, none⟩)) (Held.y_addr (S := fun _ => True) rfl rfl rfl (by have := run_addr_of (P := Try.prog) 22 27 w1.heap.size 0 (n + 3) (n + 3) k 4 .i64 Try.underlying22 (by kernel_rfl) hlt; rwa [Nat.zero_add] at this) _ trivial) ?_)
        | (refine wpList_store_rec (w := wr) rfl _ _ rfl w1.heap.size k ((n + 3) * 4) _ _ f rfl rfl hfl HK.out HG.out (by omega) ?_; intro w5 HF g5))
      have HB := hbl.grown g5 hbl.size (fun r e => by cases e; exact hsw)
      have HQ := q3.grown g5 (by intro e; injection e with e; omega)
      clear g5
      go_roundw
      case rel => exact ⟨k + 1, by omega, by omega, by go_num, HB, HQ, HF⟩
      case measure => simp [intOf]; omega
    · have HD := Lib.hid (hfl.done (by omega) (by rw [flat_length, HLEN.out]))
      go_wp2_with fail
      go_ret
      exact ⟨w1.heap.size, rfl, hsw, HD.out, hbl⟩

set_option maxRecDepth 100000 in
set_option maxHeartbeats 4000000 in
theorem kept_any (B : Nat) (A : Option Addr) (n c g : Nat) (rs : List R) (f : R) (w : World) (h : Recs w B A n rs) (hB : B ≤ w.heap.size) (hn : n ≤ 1048576) (hr : Blk w g 27 (flat (rs ++ [f, f, f])).toArray) :
    Calls Try.prog 16 #[.slice (some ⟨g, 0, none⟩) n (n + 3), .slice A n c, .agg #[.bool f.d, .int .i64 f.k, .int .i64 f.v, .int .i64 f.s]] w fun e w' => e = .returned (.bool true) ∧ Below w.heap.size w w' := by
  have HL := Lib.hid h.1
  have HN := Lib.hid (show ∀ k, n ≤ k → k < n + 3 → (rs ++ [f, f, f]).getD k R0 = f from fun k h1 h2 => by
    have hz := HL.out
    rw [List.getD_eq_getElem?_getD, List.getElem?_append_right (by omega), hz]
    have : k - n = 0 ∨ k - n = 1 ∨ k - n = 2 := by omega
    rcases this with e | e | e <;> rw [e] <;> rfl)
  have HLEN := Lib.hid (show (rs ++ [f, f, f]).length = n + 3 by have := HL.out; simp; omega)
  go_enter Try.func16, Try.ntmps16
  go_wp2_with (refine wpList_box_blk (w := w) rfl 27 _ rfl _ rfl ?_; intro w1 q1 g1 z1)
  have b1 : Below w.heap.size w w1 := (Below.refl _ w).grown g1 (Nat.le_refl _) (by simp)
  have hgw := hr.lt
  have hr := hr.grown g1 (by simp)
  have h1 := h.below (b1.mono hB)
  have hi := recs_of_blk hr h.2.1
  rw [h.1] at hi
  clear g1 z1
  refine (plain_any w1.heap.size w1.heap.size (some ⟨g, 0, none⟩) A n n (n + 3) c rs rs w1 hi (h1.more (Nat.le_trans hB b1.size)) (Nat.le_refl _) (Nat.le_refl _) (by omega) (by omega)).mono ?_
  rintro e w2 ⟨rfl, b2⟩
  have hr := hr.after b2
  have q1 := q1.after b2
  have b2 := b1.trans (b2.mono b1.size)
  have ht : decide (rs = rs) = true := by simp
  rw [ht]
  clear b1 hi h1 ht
  go_wp2_with fail
  go_loopw [8] (fun i wr => ∃ k : Nat, n ≤ k ∧ k ≤ n + 3 ∧ i = .int .i64 k ∧ Blk wr g 27 (flat (rs ++ [f, f, f])).toArray ∧ Blk wr w.heap.size 27 #[.bool f.d, .int .i64 f.k, .int .i64 f.v, .int .i64 f.s] ∧ Below w.heap.size w wr) (fun i _ => n + 3 - (intOf i).toNat)
  case atStart => exact ⟨n, by omega, by omega, rfl, hr, q1, b2⟩
  case round =>
    clear hr q1 b2
    obtain ⟨k, hk0, hk, rfl, hr, q1, hst⟩ := hrel
    by_cases hlt : k < n + 3
    · have hrg : wr.rangeAt g (0 + k * 4) f.cells := fun j v hv => by
        have hj : j < 4 := by have := (List.getElem?_eq_some_iff.1 hv).1; simpa [R.cells] using this
        rw [Nat.zero_add]
        refine hr.cell ?_
        rw [List.getElem?_toArray, flat_at _ k j hj (by rw [HLEN.out]; exact hlt), HN.out k hk0 hlt]
        exact hv
      have hlt' : (k : Int) < (n : Int) + 3 := by omega
      have hk1 : (0 : Int) ≤ (k : Int) := by omega
      go_wp2_with fail
      refine wp_region_held (S := fun W => Below wr.heap.size wr W) (by kernel_rfl) ?_
      change wpAnyH _ _ _ _ _ _ _ _ wr.drew
      have c0_0 := (Below.refl wr.heap.size wr).drew
      refine Held.take (v := .slice (some ⟨g, 0, none⟩) (n + 3) (n + 3)) 0 (some 34) rfl rfl (by kernel_rfl) (by kernel_rfl) (by kernel_rfl) (fun _ _ _ h => h) rfl (Held.y_move rfl rfl) c0_0 ?_
      simp only [Act.put, List.setIfInBounds_toArray, List.set_cons_zero, List.set_cons_succ]
      refine Held.take (v := .int .i64 (k : Int)) 1 (some 35) rfl rfl (by kernel_rfl) (by kernel_rfl) (by kernel_rfl) (fun _ _ _ h => h) rfl (Held.y_move rfl rfl) c0_0 ?_
      simp only [Act.put, List.setIfInBounds_toArray, List.set_cons_zero, List.set_cons_succ]
      refine Held.take (v := .pointer (some ⟨g, 0 + k * 4, none⟩)) 2 (some 36) rfl rfl (by kernel_rfl) (by kernel_rfl) (by kernel_rfl) (fun _ _ _ h => h) rfl (Held.y_addr rfl rfl rfl (run_addr_of 22 27 g 0 (n + 3) (n + 3) k 4 .i64 Try.underlying22 (by kernel_rfl) hlt)) c0_0 ?_
      simp only [Act.put, List.setIfInBounds_toArray, List.set_cons_zero, List.set_cons_succ]
      refine Held.take (v := .agg #[.bool f.d, .int .i64 f.k, .int .i64 f.v, .int .i64 f.s]) 3 (some 37) rfl rfl (by kernel_rfl) (by kernel_rfl) (by kernel_rfl) (fun _ _ _ h => h) rfl (y_load_range (n := 4) (cs := f.cells) rfl rfl Try.underlying27 rfl (by kernel_rfl) rfl (fun W hW => range_below hrg hW hr.lt)) c0_0 ?_
      simp only [Act.put, List.setIfInBounds_toArray, List.set_cons_zero, List.set_cons_succ]
      refine Held.take (v := .agg #[.bool f.d, .int .i64 f.k, .int .i64 f.v, .int .i64 f.s]) 4 (some 38) rfl rfl (by kernel_rfl) (by kernel_rfl) (by kernel_rfl) (fun _ _ _ h => h) rfl (Held.y_load_blk (n := 4) rfl rfl Try.underlying27 rfl (by kernel_rfl) rfl (fun W hW => q1.below hW q1.lt)) c0_0 ?_
      simp only [Act.put, List.setIfInBounds_toArray, List.set_cons_zero, List.set_cons_succ]
      refine Held.take (v := .bool false) 5 (some 39) rfl rfl (by kernel_rfl) (by kernel_rfl) (by kernel_rfl) (fun _ _ _ h => h) rfl (y_ner rfl rfl rfl (by simp)) c0_0 ?_
      simp only [Act.put, List.setIfInBounds_toArray, List.set_cons_zero, List.set_cons_succ]
      refine wpAnyH_done (by kernel_rfl) ?_ _
      have hr := hr.after c0_0
      have q1 := q1.after c0_0
      have dz := hst.trans (c0_0.mono hst.size)
      generalize wr.drew = wz at hr q1 dz ⊢
      clear c0_0 hrg
      go_wp2_with fail
      go_roundw
      case rel => exact ⟨k + 1, by omega, by omega, by go_num, hr, q1, dz⟩
      case measure => simp [intOf]; omega
    · go_wp2_with fail
      go_ret
      exact ⟨rfl, hst⟩

/-- the call's own list of records -/
def OwnR (w : World) (base : Nat) (v : Value) (rs : List R) : Prop := w.ownsRow base 27 4 v rs.length (flat rs)
theorem OwnR.nil (w : World) (base : Nat) : OwnR w base (.slice none 0 0) [] := World.ownsRow_nil _ _ _ _
theorem OwnR.form {w : World} {base : Nat} {v : Value} {rs : List R} (h : OwnR w base v rs) : ∃ A c, v = .slice A rs.length c ∧ rs.length ≤ c ∧ c ≤ maxLen := Held.row_form h
theorem OwnR.recs {w : World} {base n c : Nat} {A : Option Addr} {rs : List R} (h : OwnR w base (.slice A n c) rs) (hw : ∀ r ∈ rs, r.wf) : Recs w w.heap.size A n rs := by
  rcases h.2 with ⟨e, hn⟩ | ⟨g, cap, cur, e, hb, hg, hnc, hcm, hcs, ht⟩
  · injection e with e1 e2 e3
    subst e1
    subst e2
    have : rs = [] := List.eq_nil_of_length_eq_zero hn
    subst this
    exact Recs.nil _ _ _
  · injection e with e1 e2 e3
    subst e1
    subst e2
    refine ⟨rfl, hw, fun _ => ⟨g, 0, rfl, (Array.getElem?_eq_some_iff.1 hg).1, fun j v hv => ?_⟩⟩
    rw [Nat.zero_add, cell_of_row w g j _ _ (0, 0) hg]
    have hj := (List.getElem?_eq_some_iff.1 hv).1
    rw [flat_length] at hj
    have := congrArg (fun l => l[j]?) ht
    simp only [List.getElem?_take, hj, if_true] at this
    rw [← hv, ← this]
    simp
theorem OwnR.kept {w w' : World} {base : Nat} {v : Value} {rs : List R} (h : OwnR w base v rs) {row : Option Nat} (hg : w.grownBy w' row) (hne : v.ownBlock = none ∨ v.ownBlock ≠ row) : OwnR w' base v rs := World.ownsRow.kept h hg hne
theorem OwnR.below {w w' : World} {base : Nat} {v : Value} {rs : List R} (h : OwnR w base v rs) (hb : Below w.heap.size w w') : OwnR w' base v rs := h.kept (grown_of_below hb none) (by cases v.ownBlock <;> simp)
/-- one record as a list of its own -/
theorem wpList_build_rec {ops : Array Oper} {rest : List Oper} {o : Oper} {a : Act} {w : World} {Q : Exit → Act → World → Prop} (hgd : o.guard = none) (y : Operand) (ho : o.op = .buildSlice 22 1 #[(0, y)]) (f : R) (hy : a.eval y = .agg #[.bool f.d, .int .i64 f.k, .int .i64 f.v, .int .i64 f.s])
    (h : ∀ w', Blk w' w.heap.size 27 f.cells.toArray → w.grownBy w' none → Hid (w'.heap.size = w.heap.size + 1) → wpList Try.prog ops Q rest (a.put o.dst (.slice (some ⟨w.heap.size, 0, none⟩) 1 1)) w') : wpList Try.prog ops Q (o :: rest) a w := by
  obtain ⟨ie, hie, hsb⟩ := Option.map_eq_some_iff.1 info_recs
  simp only [Prod.mk.injEq] at hsb
  have hz : ie.zero = some (.agg #[.bool false, .int .i64 0, .int .i64 0, .int .i64 0]) := by
    have := zero_rec
    rw [hie] at this
    exact this
  refine Go.wpList_buildSlice hgd 22 27 1 #[(0, y)] ho f.cells.toArray ie _ Try.underlying22 hie hz (by rw [hsb.1]; omega) (by rw [hsb.1]; omega) ?_ (h _ (heap_alloc_new w _) (World.grownBy_alloc w _ none) (Lib.hid (by simp)))
  have hf := Great.fill_whole (s := 4) (by omega) [.agg f.cells.toArray] ((Array.range (1 * ie.size)).map ((Value.agg #[.bool false, .int .i64 0, .int .i64 0, .int .i64 0]).cells[· % (Value.agg #[.bool false, .int .i64 0, .int .i64 0, .int .i64 0]).cells.size]!)) (by simp [Value.cells, R.cells]) (by simp [hsb.1])
  rw [hsb.1] at hf ⊢
  simp only [List.map_toArray, List.map_cons, List.map_nil, hy]
  refine Eq.trans ?_ (hf.trans ?_)
  · rfl
  · simp [Value.cells, R.cells]
/-- append of records that read as a list, onto what the call owns -/
theorem wpList_append_recs {ops : Array Oper} {rest : List Oper} {o : Oper} {a : Act} {w : World} {Q : Exit → Act → World → Prop} (hgd : o.guard = none) (s x : Operand) (ho : o.op = .call { callee := .builtin .append, args := #[s, x], argTypes := #[22, 22] })
    (base B g off m c : Nat) (v : Value) (rs qs : List R) (hs : a.eval s = v) (hx : a.eval x = .slice (some ⟨g, off, none⟩) m c) (hown : OwnR w base v rs) (hq : Recs w B (some ⟨g, off, none⟩) m qs) (hm : rs.length + m ≤ 1048576) (hbase : base ≤ w.heap.size)
    (h : ∀ v' w', OwnR w' base v' (rs ++ qs) → w.grownBy w' v.ownBlock → (v'.ownBlock = v.ownBlock ∨ v'.ownBlock = some w.heap.size) → wpList Try.prog ops Q rest (a.put o.dst v') w') : wpList Try.prog ops Q (o :: rest) a w := by
  obtain ⟨ie, hie, hsb⟩ := Option.map_eq_some_iff.1 info_recs
  simp only [Prod.mk.injEq] at hsb
  have hz : ie.zero = some (.agg #[.bool false, .int .i64 0, .int .i64 0, .int .i64 0]) := by
    have := zero_rec
    rw [hie] at this
    exact this
  have hcells : ∀ j u, (flat qs)[j]? = some u → w.cell? ((Addr.mk g off none).add j) = some u := fun j u hu => by
    have hj := (List.getElem?_eq_some_iff.1 hu).1
    rw [flat_length] at hj
    obtain ⟨b, off', e, _, hc⟩ := hq.2.2 (by have := hq.1; omega)
    injection e with e
    injection e with e1 e2
    subst e1
    subst e2
    rw [show (Addr.mk g off none).add j = ⟨g, off + j, none⟩ by (unfold Addr.add; split <;> simp_all)]
    exact hc j u hu
  refine wpList_append_own_at w hgd s x 22 ho base 27 ie _ 4 32 Try.underlying22 hie hz hsb.1 hsb.2 rfl (by omega) v rs.length (flat rs) hs hown ⟨g, off, none⟩ m c (flat qs) hx (by rw [flat_length, hq.1]) hcells (flat_one' qs) (by unfold maxLen; omega) (by omega) hbase ?_
  intro v' w' h1 h2 _ h4
  refine h v' w' ?_ h2 h4
  unfold OwnR
  rw [flat_append, List.length_append, hq.1]
  exact h1
end Go.Proofs.Ytjelacblnjbfgaa.Rs
namespace Go.Proofs.Ytjelacblnjbfgaa.Rc
open Go.RowKit Go.Shelf Go.Proofs.Ytjelacblnjbfgaa.Mem Go.Proofs.Ytjelacblnjbfgaa.Help Go.Proofs.Ytjelacblnjbfgaa.Sum Go.Proofs.Ytjelacblnjbfgaa.Po Go.Proofs.Ytjelacblnjbfgaa.Ky Go.Proofs.Ytjelacblnjbfgaa.Ct Go.Proofs.Ytjelacblnjbfgaa.Bit Go.Proofs.Ytjelacblnjbfgaa.Held Go.Proofs.Ytjelacblnjbfgaa.Range Go.Proofs.Ytjelacblnjbfgaa
set_option linter.unusedVariables false
attribute [local go_sem] Oper.semAt_some
attribute [local irreducible] wpList wpListIn Calls

/-- the number of a word -/
def fld (zs : List Int) (i : Nat) : Int := val ((zs.drop (8 * i)).take 8)
/-- the record that four numbers are -/
def recC (n0 n1 n2 n3 : Int) : Array Value := #[.bool (n0 == 1), .int .i64 (wrap64 n1), .int .i64 (wrap64 n2), .int .i64 (wrap64 n3)]
def noneC : Array Value := #[.bool false, .int .i64 0, .int .i64 0, .int .i64 0]
/-- what bytes are taken as -/
def mayB (zs : List Int) : Bool := may (fld zs 0) (fld zs 1) (fld zs 2) (fld zs 3)
def takenC (zs : List Int) : Array Value := if zs.length = 32 ∧ mayB zs = true then recC (fld zs 0) (fld zs 1) (fld zs 2) (fld zs 3) else noneC
def takenE (zs : List Int) : Int := if zs.length < 32 then 3 else if zs.length = 32 ∧ mayB zs = true then 0 else 4
theorem takenC_size (zs : List Int) : (takenC zs).size = 4 := by
  unfold takenC
  split <;> rfl
theorem takenC_one (zs : List Int) : (takenC zs).all (·.oneCell') = true := by
  unfold takenC
  split <;> kernel_rfl
theorem fld_wf {zs : List Int} (h : Bs zs) (i : Nat) : (Lit.int .u64 (fld zs i)).wf = true := by
  have hb : Bs ((zs.drop (8 * i)).take 8) := fun z hz => h z (List.mem_of_mem_drop (List.mem_of_mem_take hz))
  have h0 := val_nonneg (xs := (zs.drop (8 * i)).take 8) fun z hz => (hb z hz).1
  have h1 := val_lt hb
  have hl : ((zs.drop (8 * i)).take 8).length ≤ 8 := by rw [List.length_take]; omega
  unfold fld
  generalize val ((zs.drop (8 * i)).take 8) = v at *
  generalize ((zs.drop (8 * i)).take 8).length = n at *
  refine wf_64 ?_
  rcases (show n = 0 ∨ n = 1 ∨ n = 2 ∨ n = 3 ∨ n = 4 ∨ n = 5 ∨ n = 6 ∨ n = 7 ∨ n = 8 by omega) with rfl | rfl | rfl | rfl | rfl | rfl | rfl | rfl | rfl <;> omega
def flds (zs : List Int) : List Int := [fld zs 0, fld zs 1, fld zs 2, fld zs 3]
theorem flds_at (zs : List Int) {i : Nat} (h : i < 4) : (flds zs).getD i 0 = fld zs i := by
  match i, h with
  | 0, _ => rfl
  | 1, _ => rfl
  | 2, _ => rfl
  | 3, _ => rfl
theorem flds_wf {zs : List Int} (h : Bs zs) : ∀ z ∈ flds zs, (Lit.int .u64 z).wf = true := fun z hz => by
  simp only [flds, List.mem_cons, List.not_mem_nil, or_false] at hz
  rcases hz with rfl | rfl | rfl | rfl <;> exact fld_wf h _

set_option maxRecDepth 100000 in
set_option maxHeartbeats 4000000 in
theorem take_off (A : Option Addr) (m c : Nat) (w : World) (hm : m ≤ 1099511627776) (h : m ≠ 32) :
    Calls Try.prog 39 #[.slice A m c] w fun e w' => e = .returned (.tuple #[.agg noneC, .int .i64 (if m < 32 then 3 else 4)]) ∧ Below w.heap.size w w' := by
  by_cases hlt : m < 32
  · have hlt' : (m : Int) < 32 := by omega
    rw [if_pos hlt]
    go_enter Try.func39, Try.ntmps39
    go_wp2_with (first
      | (refine wpList_alloc_blk (w := w) rfl 27 rfl _ zero_rec ?_; intro w1 q1 g1 z1)
      | (refine wpList_build_blk rfl 27 _ rfl noneC (by kernel_rfl) ?_)
      | (refine wpList_store_blk (w := w1) rfl 27 _ _ rfl w.heap.size 4 rfl 27 _ noneC rfl q1 info_rec rfl rfl (by kernel_rfl) ?_; intro w2 q2 g2 z2))
    exact bodyPost_ret (results_blk_tmp rfl _ _ w.heap.size 4 _ _ _ rfl rfl q2 _ Try.underlying27 rfl info_rec rfl) rfl ⟨rfl, ((Below.refl _ w).grown g1 (Nat.le_refl _) (by simp)).grown g2 g1.size (fun r e => by cases e; exact Nat.le_refl _)⟩
  · have hlt' : ¬ (m : Int) < 32 := by omega
    have hgt : (32 : Int) < (m : Int) := by omega
    rw [if_neg hlt]
    go_enter Try.func39, Try.ntmps39
    go_wp2_with (first
      | (refine wpList_alloc_blk (w := w) rfl 27 rfl _ zero_rec ?_; intro w1 q1 g1 z1)
      | (refine wpList_build_blk rfl 27 _ rfl noneC (by kernel_rfl) ?_)
      | (refine wpList_store_blk (w := w1) rfl 27 _ _ rfl w.heap.size 4 rfl 27 _ noneC rfl q1 info_rec rfl rfl (by kernel_rfl) ?_; intro w2 q2 g2 z2))
    exact bodyPost_ret (results_blk_tmp rfl _ _ w.heap.size 4 _ _ _ rfl rfl q2 _ Try.underlying27 rfl info_rec rfl) rfl ⟨rfl, ((Below.refl _ w).grown g1 (Nat.le_refl _) (by simp)).grown g2 g1.size (fun r e => by cases e; exact Nat.le_refl _)⟩

/-- what a round of Take keeps -/
def TInv (w : World) (gr gn : Nat) (zs : List Int) (pre : List Nat) (W : World) : Prop :=
  Row W gn 59 .u64 (blend (flds zs) (List.replicate 4 0) pre.length) ∧ Blk W gr 27 noneC ∧ Below w.heap.size w W
theorem TInv.own (w : World) (gr gn : Nat) (zs : List Int) {B : Nat} (hB : w.heap.size ≤ B) : OwnFrom B (TInv w gr gn zs) := fun pre W W' row ⟨h1, h2, h4⟩ hg hr =>
  ⟨row_own h1 hg hr, blk_own h2 hg hr, h4.grown hg h4.size (fun r e => Nat.le_trans hB (hr r e).1)⟩
set_option maxRecDepth 100000 in
set_option maxHeartbeats 2000000 in
theorem take_at (B : Nat) (b off c : Nat) (zs : List Int) (w : World) (h : Ints w .u8 B (some ⟨b, off, none⟩) 32 zs) (hb : b < B) (hB : B ≤ w.heap.size) (hc : 32 ≤ c) :
    Calls Try.prog 39 #[.slice (some ⟨b, off, none⟩) 32 c] w fun e w' => e = .returned (.tuple #[.agg (takenC zs), .int .i64 (takenE zs)]) ∧ Below w.heap.size w w' := by
  have HL := Lib.hid h.1
  have hbs := bs_of h.2.1
  have HW := Lib.hid (flds_wf hbs)
  refine (callsIn_wide (n := 3)).1 ?_
  refine callsIn_of_wp_marks Try.func39 rfl trivial ?_ rfl
  simp only [Try.ntmps39, List.size_toArray, List.length_cons, List.length_nil, Nat.reduceAdd, Nat.reduceSub, Array.replicate_succ, Array.replicate_zero, List.push_toArray, List.append_toArray, List.nil_append, List.cons_append]
  refine wpIn_wide.2 ?_
  go_wp2_with (first
    | (refine wpList_alloc_blk (w := w) rfl 27 rfl _ zero_rec ?_; intro u1 q1 g1 z1)
    | (refine wpList_alloc_Row (w := u1) rfl 59 rfl .u64 4 zero_row ?_; intro u2 r2 g2 z2))
  have bz : Below w.heap.size w u2 := ((Below.refl _ w).grown g1 (Nat.le_refl _) (by simp)).grown g2 g1.size (by simp)
  have q1 : Blk u1 w.heap.size 27 noneC := q1
  have hlt1 : w.heap.size < u1.heap.size := q1.lt
  have q1 := q1.grown g2 (by simp)
  clear g1 g2 z1 z2
  have rl0 := r2.lt
  go_wp2_with fail
  refine (words_any (some ⟨b, off, none⟩) 32 c u2).mono ?_
  rintro e v2 ⟨bx, rfl, qx, hbx, bw⟩
  have q1 := q1.after bw
  have r2 := r2.below bw r2.lt
  have bz := bz.trans (bw.mono bz.size)
  have lt1 := q1.lt
  have lt2 := r2.lt
  have hxn : bx ≠ u1.heap.size := fun e => by subst e; exact absurd (Nat.lt_of_lt_of_le rl0 hbx) (Nat.lt_irrefl _)
  have hit := fun N => words_give N bx (fun b => b = u1.heap.size) b off 32 c v2 (qx.cell rfl) hxn hc (by omega)
  have hF : (flds zs).length = (List.replicate 4 (0 : Int)).length := by simp [flds]
  have h2 := h.below (bz.mono hB)
  have hbn : b ≠ u1.heap.size := by omega
  clear bw
  go_wp2_with fail
  refine (wpIn_wide (n := 3)).1 ?_
  refine wpIn_rangeFunc_give rfl (by omega) (gf := 45) (lb := #[.pointer (some ⟨bx, 0, none⟩)]) rfl trivial (enters_of Try.func45 (by kernel_rfl) rfl)
    (hit _) (fun h k => h.trans k) (fun W l o o' hl ho hc _ => Only.put W l o o' ho hc) (Below.refl _ _) (fun x B W args hx => by cases hx; rfl)
    (TInv w w.heap.size u1.heap.size zs) (TInv.own w _ _ zs bz.size) ⟨by rw [List.length_nil, blend_zero]; exact r2, q1, bz⟩
    (fun x a' pre W => TInv w w.heap.size u1.heap.size zs pre W ∧ a' = { tmps := #[.slice (some ⟨b, off, none⟩) 32 c, undef, .pointer (some ⟨w.heap.size, 0, none⟩), .int .i64 0, .pointer (some ⟨u1.heap.size, 0, none⟩), .int .i64 (x : Int), .slice (some ⟨b, off + 8 * x, none⟩) 8 (c - 8 * x), .slice (some ⟨b, off, none⟩) 32 c, .int .i64 32, .bool false, undef, .slice (some ⟨b, off, none⟩) 32 c, .int .i64 32, .bool false, undef, .slice (some ⟨b, off, none⟩) 32 c, .func (.func 45) #[] #[.pointer (some ⟨bx, 0, none⟩)], .int .i64 (x : Int), .slice (some ⟨b, off + 8 * x, none⟩) 8 (c - 8 * x), undef, undef, undef, undef, undef, undef, undef, undef, undef, undef], defers := [] }) ?ib ?assign ?body ?done
  case ib =>
    rintro x a' pre W W' row ⟨hv, h7⟩ hgr hr
    exact ⟨TInv.own w _ _ zs bz.size pre W W' row hv hgr hr, h7⟩
  case assign =>
    rintro l pre x args W0 W K hv hg rfl hp hsz hK
    simp only [Held.zip_two, List.setIfInBounds_toArray, List.set_cons_zero, List.set_cons_succ]
    gi_wp2_with fail
    exact hK _ _ (KeepsOthers.refl _) (Only.refl _ _) ⟨TInv.own w _ _ zs bz.size pre W0 W none hv hg (fun r e => by cases e), rfl⟩
  case body =>
    rintro l pre x a' W ⟨⟨i1, i2, i4⟩, rfl⟩ hp hsz
    obtain ⟨hx, hx4⟩ := prefix_range hp
    have hx4 : x < 4 := hx4
    rw [← hx] at i1
    have hx4' : (x : Int) < 4 := by omega
    have hx0 : (0 : Int) ≤ (x : Int) := by omega
    have iw : Ints W .u8 B (some ⟨b, off + 8 * x, none⟩) 8 ((zs.drop (8 * x)).take 8) := by
      have hi := h.below (i4.mono hB)
      refine ⟨by rw [List.length_take, List.length_drop, HL.out]; omega, fun z hz => hi.2.1 z (List.mem_of_mem_drop (List.mem_of_mem_take hz)), fun _ => ⟨b, off + 8 * x, rfl, hb, fun i hi8 => ?_⟩⟩
      obtain ⟨b', off', e, _, hcc⟩ := hi.2.2 (by omega)
      injection e with e
      injection e with e1 e2
      subst e1
      subst e2
      rw [Nat.add_assoc, hcc (8 * x + i) (by omega)]
      simp [List.getD_eq_getElem?_getD, hi8]
    have HS := Lib.hid (show (blend (flds zs) (List.replicate 4 0) x).set x (fld zs x) = blend (flds zs) (List.replicate 4 0) (pre ++ [x]).length by
      have := blend_set hF (i := x) (by simpa using hx4)
      rw [flds_at zs hx4] at this
      rw [this, List.length_append, List.length_singleton, ← hx])
    have HBL := Lib.hid (show x < (blend (flds zs) (List.replicate 4 0) x).length by rw [blend_length hF]; simpa using hx4)
    have wz := fld_wf hbs x
    clear hx hp
    gi_wp2_with fail
    refine ⟨trivial, ?_⟩
    refine (CallsIn.inRound l (callsIn_wide.2 (number_any B (some ⟨b, off + 8 * x, none⟩) 8 (c - 8 * x) _ W iw (by omega)))).mono ?_
    rintro e W4 ⟨rfl, rfl⟩
    gi_wp2_with (refine wpListIn_store_elem (w := W) rfl 57 _ _ rfl u1.heap.size x rfl 59 .u64 _ (fld zs x) rfl i1 HBL.out size_u64 wz ?_; intro W5 r5 g5 z5; rw [HS.out] at r5)
    exact ⟨Held.others_of_grown i1.2 g5, Only.of_grown g5 (fun r e => by cases e; rfl), r5, i2.grown g5 (by intro e; injection e with e; omega), i4.grown g5 i4.size (fun r e => by cases e; omega)⟩
  case done =>
    rintro D W hD ⟨i1, i2, i4⟩ hDl
    have e4 : blend (flds zs) (List.replicate 4 0) (List.range (32 / 8)).length = [fld zs 0, fld zs 1, fld zs 2, fld zs 3] := blend_all hF
    rw [e4] at i1
    obtain ⟨bm, hbm⟩ : ∃ bm, may (fld zs 0) (fld zs 1) (fld zs 2) (fld zs 3) = bm := ⟨_, rfl⟩
    have hm := mayBe_any (fld zs 0) (fld zs 1) (fld zs 2) (fld zs 3) HW.out W
    rw [hbm] at hm
    have HC := Lib.hid (show takenC zs = if bm = true then recC (fld zs 0) (fld zs 1) (fld zs 2) (fld zs 3) else noneC by
      unfold takenC mayB
      rw [hbm, HL.out]
      simp)
    have HE := Lib.hid (show takenE zs = if bm = true then 0 else 4 by
      unfold takenE mayB
      rw [hbm, HL.out]
      simp)
    have hr := record_any (fld zs 0) (fld zs 1) (fld zs 2) (fld zs 3) HW.out
    clear hbm
    go_wp2_with (refine wpList_load_Row (w := W) rfl 59 _ rfl u1.heap.size rfl 59 .u64 _ i1 4 57 Try.underlying59 info_row rfl ?_)
    refine hm.mono ?_
    rintro e W2 ⟨rfl, b2⟩
    have i1 := i1.below b2 i1.lt
    have i2 := i2.after b2
    have d2 := (b2.block D (Array.getElem?_eq_some_iff.1 hDl).1).trans hDl
    have i4 := i4.trans (b2.mono i4.size)
    clear b2 hDl hm
    cases bm
    · have hone : oneI false = 0 := rfl
      rw [hone]
      go_wp2_with (first
        | (refine wpList_build_blk rfl 27 _ rfl noneC (by kernel_rfl) ?_)
        | (refine wpList_store_blk (w := W2) rfl 27 _ _ rfl w.heap.size 4 rfl 27 _ noneC rfl i2 info_rec rfl rfl (by kernel_rfl) ?_; intro W5 q5 g5 z5))
      have d5 := (g5.block D (Array.getElem?_eq_some_iff.1 d2).1 (by intro e; injection e with e; omega)).trans d2
      have b5 := i4.grown g5 i4.size (fun r e => by cases e; exact Nat.le_refl _)
      refine ⟨by simp, .inl ⟨_, _, rfl, run_takeDeferred d5, ?_⟩⟩
      have r9 : Blk (W5.putObj D (.deferred none)) w.heap.size 27 noneC := (World.putObj_heap_other (by omega)).trans q5
      exact ⟨_, results_blk_tmp rfl _ _ w.heap.size 4 _ _ _ rfl rfl r9 _ Try.underlying27 rfl info_rec rfl, by rw [HC.out, HE.out]; rfl, b5.grown (grownBy_putObj' _ D _) b5.size (fun r e => by cases e; omega)⟩
    · have hone : oneI true = 1 := rfl
      rw [hone]
      go_wp2_with (refine wpList_load_Row (w := W2) rfl 59 _ rfl u1.heap.size rfl 59 .u64 _ i1 4 57 Try.underlying59 info_row rfl ?_)
      refine (hr W2).mono ?_
      rintro e W3 ⟨rfl, b3⟩
      have i2 := i2.after b3
      have d3 := (b3.block D (Array.getElem?_eq_some_iff.1 d2).1).trans d2
      have i4 := i4.trans (b3.mono i4.size)
      clear b3 d2
      go_wp2_with (refine wpList_store_blk (w := W3) rfl 27 _ _ rfl w.heap.size 4 rfl 27 _ (recC (fld zs 0) (fld zs 1) (fld zs 2) (fld zs 3)) rfl i2 info_rec rfl rfl (by kernel_rfl) ?_; intro W5 q5 g5 z5)
      have d5 := (g5.block D (Array.getElem?_eq_some_iff.1 d3).1 (by intro e; injection e with e; omega)).trans d3
      have b5 := i4.grown g5 i4.size (fun r e => by cases e; exact Nat.le_refl _)
      refine ⟨by simp, .inl ⟨_, _, rfl, run_takeDeferred d5, ?_⟩⟩
      have r9 : Blk (W5.putObj D (.deferred none)) w.heap.size 27 (recC (fld zs 0) (fld zs 1) (fld zs 2) (fld zs 3)) := (World.putObj_heap_other (by omega)).trans q5
      exact ⟨_, results_blk_tmp rfl _ _ w.heap.size 4 _ _ _ rfl rfl r9 _ Try.underlying27 rfl info_rec rfl, by rw [HC.out, HE.out]; rfl, b5.grown (grownBy_putObj' _ D _) b5.size (fun r e => by cases e; omega)⟩

theorem take_any (B : Nat) (A : Option Addr) (m c : Nat) (zs : List Int) (w : World) (h : Ints w .u8 B A m zs) (hB : B ≤ w.heap.size) (hc : m ≤ c) (hm' : m ≤ 1099511627776) :
    Calls Try.prog 39 #[.slice A m c] w fun e w' => e = .returned (.tuple #[.agg (takenC zs), .int .i64 (takenE zs)]) ∧ Below w.heap.size w w' := by
  by_cases hm : m = 32
  · subst hm
    obtain ⟨b, off, rfl, hb, _⟩ := h.2.2 (by omega)
    exact take_at B b off c zs w h hb hB hc
  · have e1 : takenC zs = noneC := by
      unfold takenC
      rw [if_neg (by rw [h.1]; omega)]
    have e2 : takenE zs = if m < 32 then 3 else 4 := by
      unfold takenE
      rw [h.1]
      split
      · rfl
      · rw [if_neg (by omega)]
    rw [e1, e2]
    exact take_off A m c w (by omega) hm
end Go.Proofs.Ytjelacblnjbfgaa.Rc
