/-
  Records as plain things, lists of them in memory, cell by cell; a call of a function value within a region that draws its order: no program here but the type of a record.
  The functions Same and Plain of package dominohelp on records, by their contracts.
  The functions Own and Kept of package dominohelp on records, by their contracts.
  Package record's Take, by its contract.
  A number's eight bytes, numbers' bytes, and a number of bytes, by the document's own, by their contracts: with no other layer.
  Slices cut: s[:h] and s[l:] by their run, and what they read as.
  The document's own Ahead, Before, Pack and Take of records, and the laws' first line, by their contracts.
  The document's own may, Size and Pack of blocks, by their contracts.
  ChaCha20 as plain functions: no program here.
  What follows of ChaCha20 as plain functions: a quarter round turned back; bytes turned twice; a part from a whole block on.
  Bytes turned by ChaCha20, as a plain function: turned twice; from a whole block on; of zeros.
-/
import Derived.Test.YtjelacblnjbfgaaDoorB8
import Derived.Test.YtjelacblnjbfgaaDoorB9
import Derived.Deep.MidRow
import Derived.Test.YtjelacblnjbfgaaDoorB2
import Derived.OwnWalk
import Derived.Lib.BufferOwn
import Derived.Maps.AppendAt
import Derived.Great.BuildSlice
import Derived.Test.YtjelacblnjbfgaaDoorB1
import Derived.Laws.Slices
import Derived.BigQuiet
set_option linter.unusedVariables false
namespace Go.Proofs.YtjelacblnjbfgaaDoor.Rs
open Go.RowKit Go.Shelf Mem Held Rc
structure R where
  d : Bool
  k : Int
  v : Int
  s : Int
theorem R.eq {a b : R} (h1 : a.d = b.d) (h2 : a.k = b.k) (h3 : a.v = b.v) (h4 : a.s = b.s) : a = b := by
  cases a
  cases b
  simp_all
instance decR : DecidableEq R := fun a b =>
  if h : a.d = b.d ∧ a.k = b.k ∧ a.v = b.v ∧ a.s = b.s then .isTrue (R.eq h.1 h.2.1 h.2.2.1 h.2.2.2)
  else .isFalse fun e => h (by rw [e]; exact ⟨rfl, rfl, rfl, rfl⟩)
theorem R.iff {a b : R} : a = b ↔ a.d = b.d ∧ a.k = b.k ∧ a.v = b.v ∧ a.s = b.s := ⟨fun e => by rw [e]; exact ⟨rfl, rfl, rfl, rfl⟩, fun h => R.eq h.1 h.2.1 h.2.2.1 h.2.2.2⟩
def R.wf (r : R) : Prop := (Lit.int .i64 r.k).wf = true ∧ (Lit.int .i64 r.v).wf = true ∧ (Lit.int .i64 r.s).wf = true
def R.cells (r : R) : List Value := [.bool r.d, .int .i64 r.k, .int .i64 r.v, .int .i64 r.s]
def R0 : R := ⟨false, 0, 0, 0⟩
def RD : R := ⟨true, 0, 0, 0⟩
def R.zd (r : R) : R := ⟨r.d, Rc.zd r.d r.k, Rc.zd r.d r.v, Rc.zd r.d r.s⟩
def flat (rs : List R) : List Value := rs.flatMap R.cells
theorem flat_length : ∀ rs : List R, (flat rs).length = rs.length * 4
  | [] => rfl
  | r :: rs => by
    have := flat_length rs
    simp only [flat, List.flatMap_cons, List.length_append, List.length_cons, R.cells, List.length_nil] at this ⊢
    omega
theorem flat_append (rs qs : List R) : flat (rs ++ qs) = flat rs ++ flat qs := by simp [flat]
theorem flat_one (r : R) : flat [r] = r.cells := by simp [flat]
theorem flat_at : ∀ (rs : List R) (i j : Nat), j < 4 → i < rs.length → (flat rs)[i * 4 + j]? = (rs.getD i R0).cells[j]?
  | [], i, j, _, h => absurd h (by simp)
  | r :: rs, 0, j, hj, _ => by
    simp only [flat, List.flatMap_cons, Nat.zero_mul, Nat.zero_add, List.getD_cons_zero]
    rw [List.getElem?_append_left (by simp [R.cells]; omega)]
  | r :: rs, i + 1, j, hj, h => by
    have := flat_at rs i j hj (by simpa using h)
    simp only [flat, List.flatMap_cons, List.getD_cons_succ] at this ⊢
    rw [List.getElem?_append_right (by simp [R.cells]; omega), show (i + 1) * 4 + j - r.cells.length = i * 4 + j by simp [R.cells]; omega, this]
theorem flat_one' (rs : List R) : ∀ u ∈ flat rs, u.oneCell' = true := fun u hu => by
  obtain ⟨r, _, h⟩ := List.mem_flatMap.1 hu
  simp only [R.cells, List.mem_cons, List.not_mem_nil, or_false] at h
  rcases h with rfl | rfl | rfl | rfl <;> rfl
def Recs (w : World) (B : Nat) (A : Option Addr) (n : Nat) (rs : List R) : Prop :=
  rs.length = n ∧ (∀ r ∈ rs, r.wf) ∧ (0 < n → ∃ b off, A = some ⟨b, off, none⟩ ∧ b < B ∧ w.rangeAt b off (flat rs))
section
variable {w w' : World} {B B' n : Nat} {A : Option Addr} {rs : List R}
theorem Recs.nil (w : World) (B : Nat) (A : Option Addr) : Recs w B A 0 [] := ⟨rfl, by simp, fun h => absurd h (by omega)⟩
theorem Recs.keep (h : Recs w B A n rs) (hk : ∀ p : Addr, p.block < B → w'.cell? p = w.cell? p) : Recs w' B A n rs :=
  ⟨h.1, h.2.1, fun hn => by
    obtain ⟨b, off, e, hb, hc⟩ := h.2.2 hn
    exact ⟨b, off, e, hb, fun j v hv => (hk ⟨b, off + j, none⟩ hb).trans (hc j v hv)⟩⟩
theorem Recs.more (h : Recs w B A n rs) (hB : B ≤ B') : Recs w B' A n rs :=
  ⟨h.1, h.2.1, fun hn => by
    obtain ⟨b, off, e, hb, hc⟩ := h.2.2 hn
    exact ⟨b, off, e, by omega, hc⟩⟩
theorem Recs.below (h : Recs w B A n rs) (hb : Below B w w') : Recs w' B A n rs := h.keep fun _ hp => hb.cell hp
theorem Recs.at_ (h : Recs w B A n rs) {i : Nat} (hi : i < n) : ∃ b off, A = some ⟨b, off, none⟩ ∧ b < B ∧ w.rangeAt b (off + i * 4) (rs.getD i R0).cells := by
  obtain ⟨b, off, e, hb, hc⟩ := h.2.2 (by omega)
  refine ⟨b, off, e, hb, fun j v hv => ?_⟩
  have hj : j < 4 := by have := (List.getElem?_eq_some_iff.1 hv).1; simpa [R.cells] using this
  rw [Nat.add_assoc]
  exact hc (i * 4 + j) v (by rw [flat_at rs i j hj (by rw [h.1]; exact hi)]; exact hv)
end
section
variable {P : Program} {ops : Array Oper} {Q : Exit → Act → World → Prop}
theorem op_callv (i : Nat) (d : Option Tmp) {o : Oper} {a : Act} {w : World} {K : Act → World → Prop} (f : FuncId) (lb vals : Array Value) {y : Operand} {xs : Array Operand} {ts : Array TypeId} {R : Ending → World → Prop} (hi : ops[i]? = some o) (hd : o.dst = d) (hw : Region.wanted o (yielded ops a.tmps) = true)
    (ho : o.op = .call { callee := .value y, args := xs, argTypes := ts }) (hy : a.eval y = .func (.func f) #[] lb) (he : Enters P f) (hv : xs.map a.eval = vals)
    (hc : Calls P f (vals ++ lb) w R)
    (h : ∀ e w', R e w' → ∃ v, e = .returned v ∧ K (a.put d v) w') : wpOp P ops Q i K a w := by
  subst hd
  refine op_wp i hi hw ?_
  have hrun : (execOp a.eval o).run P w = .ok (.enter f (vals ++ lb)) w := by
    unfold execOp
    simp only [ho, resolve, hy, Deferred.ofValue, Sem.run_bind, Sem.run_pure, Result.andThen_ok, invoke, Array.empty_append, hv]
    exact he _ _
  unfold Oper.wp
  rw [hrun, Oper.upon_enter]
  refine hc.mono fun e w' hR => ?_
  obtain ⟨v, rfl, hW⟩ := h e w' hR
  exact hW
end
section
variable {P : Program} {S : World → Prop} {ρ : Operand → Value} {o : Oper}
theorem run_addr_of (t e : TypeId) (b off len cap i s : Nat) (k : IntKind) (ht : P.underlying t = some (.slice e)) (hs : (P.info? e).map (·.size) = some s) (hi : i < len) (w : World) :
    (Instr.indexAt t (.slice (some ⟨b, off, none⟩) len cap) (.int k (i : Int))).run P w = .ok (.pointer (some ⟨b, off + i * s, none⟩)) w := by
  have he : P.elem t = e := by simp [Program.elem, ht]
  have hz : (sizeOf e).run P w = .ok s w := by
    cases hq : P.info? e with
    | none => simp [hq] at hs
    | some q => simp [hq] at hs; simp [sizeOf, typeInfo, hq, hs]
  have ea : (Addr.mk b off none).add (i * s) = ⟨b, off + i * s, none⟩ := by unfold Addr.add; split <;> simp_all
  rw [run_indexAt_slice w t ⟨b, off, none⟩ len cap k (i : Int) (by rw [he]; exact ht), he, if_pos ⟨by omega, by omega⟩, hz]
  simp [Result.andThen, ea]
theorem y_load_range {ty : TypeId} {x : Operand} {b off n : Nat} {cs : List Value} {d : TypeDesc} (ho : o.op = .load ty x) (hx : ρ x = .pointer (some ⟨b, off, none⟩)) (hu : P.underlying ty = some d) (hd : d.isRow = true) (hi : (P.info? ty).map (·.size) = some n) (hn : cs.length = n)
    (hr : ∀ w, S w → w.rangeAt b off cs) : ∀ w, S w → (execOp ρ o).run P w = .ok (.value (.agg cs.toArray)) w := fun w hw => by
  have h := run_loadAt_mid (P := P) w b off ty cs d (hr w hw) hu hd (by rw [hi, hn])
  simp [execOp, ho, hx, h]
end
end Go.Proofs.YtjelacblnjbfgaaDoor.Rs
namespace Go.Proofs.YtjelacblnjbfgaaDoor.Rs
open Go.RowKit Go.Shelf Go.Proofs.YtjelacblnjbfgaaDoor Mem Held Rc
attribute [local irreducible] wpList wpListIn Calls
theorem eqr_any (a b : R) (w : World) : Calls Tryd.prog 19 #[.agg #[.bool a.d, .int .i64 a.k, .int .i64 a.v, .int .i64 a.s], .agg #[.bool b.d, .int .i64 b.k, .int .i64 b.v, .int .i64 b.s]] w fun e w' => e = .returned (.bool (decide (a = b))) ∧ Below w.heap.size w w' := by
  have HR := Lib.hid (show decide (a.d = b.d ∧ a.k = b.k ∧ a.v = b.v ∧ a.s = b.s) = decide (a = b) from decide_eq_decide.2 R.iff.symm)
  go_enter Tryd.func19, Tryd.ntmps19
  go_wp2_with (first
    | (refine wpList_box_blk (w := w) rfl 36 _ rfl _ rfl ?_; intro w1 q1 g1 z1)
    | (refine wpList_box_blk (w := w1) rfl 36 _ rfl _ rfl ?_; intro w2 q2 g2 z2; have q1 := q1.grown g2 (by simp))
    | (refine wpList_load_blk (w := w2) rfl 36 _ rfl w.heap.size 4 rfl 36 _ q1 _ Tryd.underlying36 rfl (by kernel_rfl) rfl ?_)
    | (refine wpList_load_blk (w := w2) rfl 36 _ rfl w1.heap.size 4 rfl 36 _ q2 _ Tryd.underlying36 rfl (by kernel_rfl) rfl ?_)
    | (refine wpList_run rfl (v := .bool (decide (a = b))) (y_eqr (S := fun _ => True) rfl rfl rfl HR.out _ trivial) ?_))
  go_ret
  exact ⟨rfl, ((Below.refl _ w).grown g1 (Nat.le_refl _) (by simp)).grown g2 g1.size (by simp)⟩
theorem take_stepR {xs ys : List R} {k : Nat} (hx : k < xs.length) (hy : k < ys.length) (h : xs.take k = ys.take k) (e : xs.getD k R0 = ys.getD k R0) : xs.take (k + 1) = ys.take (k + 1) := by
  rw [List.take_add_one, List.take_add_one, h]
  simp only [List.getD_eq_getElem?_getD, List.getElem?_eq_getElem hx, List.getElem?_eq_getElem hy, Option.getD_some] at e
  rw [List.getElem?_eq_getElem hx, List.getElem?_eq_getElem hy, e]
set_option maxRecDepth 100000 in
set_option maxHeartbeats 4000000 in
theorem same_any (B B' : Nat) (A A' : Option Addr) (n n' c c' : Nat) (rs rs' : List R) (w : World) (h : Recs w B A n rs) (h' : Recs w B' A' n' rs') (hB : B ≤ w.heap.size) (hB' : B' ≤ w.heap.size) (hn : n ≤ 1073741824) (hn' : n' ≤ 1073741824) :
    Calls Tryd.prog 18 #[.slice A n c, .slice A' n' c', .func (.func 19) #[] #[]] w fun e w' => e = .returned (.bool (decide (rs = rs'))) ∧ Below w.heap.size w w' := by
  by_cases hnn : n = n'
  · subst hnn
    have hne : ((n : Int) != (n : Int)) = false := by simp
    have HL := Lib.hid h.1
    have HL' := Lib.hid h'.1
    go_enter Tryd.func18, Tryd.ntmps18
    go_wp2_with fail
    go_loopw [7] (fun i wr => ∃ k : Nat, k ≤ n ∧ i = .int .i64 k ∧ Below w.heap.size w wr ∧ Hid (rs.take k = rs'.take k)) (fun i _ => n - (intOf i).toNat)
    case atStart => exact ⟨0, by omega, rfl, Below.refl _ _, Lib.hid rfl⟩
    case round =>
      obtain ⟨k, hk, rfl, hst, ht⟩ := hrel
      have hBk := Nat.le_trans hB hst.size
      have hBk' := Nat.le_trans hB' hst.size
      by_cases hlt : k < n
      · obtain ⟨b, off, rfl, hb, hx⟩ := (h.below (hst.mono hB)).at_ hlt
        obtain ⟨b', off', rfl, hb', hy⟩ := (h'.below (hst.mono hB')).at_ hlt
        have hlt' : (k : Int) < (n : Int) := by omega
        have hk0 : (0 : Int) ≤ (k : Int) := by omega
        by_cases hq0 : rs.getD k R0 = rs'.getD k R0
        · have HT := Lib.hid (take_stepR (by have := HL.out; omega) (by have := HL'.out; omega) ht.out hq0)
          have hq : decide (rs.getD k R0 = rs'.getD k R0) = true := by simpa using hq0
          clear hq0
          generalize rs.getD k R0 = x at hx hq
          generalize rs'.getD k R0 = y at hy hq
          go_wp2_with fail
          refine wp_region_held (S := fun W => Below wr.heap.size wr W) (by kernel_rfl) ?_
          change wpAnyH _ _ _ _ _ _ _ _ wr.drew
          have c0_0 := (Below.refl wr.heap.size wr).drew
          refine Held.tk (v := .func (.func 19) #[] #[]) 0 (some 19) rfl (Held.y_move rfl rfl) c0_0 ?_
          simp only [Act.put, Z1, Z2, Z3]
          refine Held.tk (v := .slice (some ⟨b, off, none⟩) n c) 1 (some 20) rfl (Held.y_move rfl rfl) c0_0 ?_
          simp only [Act.put, Z1, Z2, Z3]
          refine Held.tk (v := .int .i64 (k : Int)) 2 (some 21) rfl (Held.y_move rfl rfl) c0_0 ?_
          simp only [Act.put, Z1, Z2, Z3]
          refine Held.tk (v := .pointer (some ⟨b, off + k * 4, none⟩)) 3 (some 22) rfl (Held.y_addr rfl rfl rfl (run_addr_of 26 36 b off n c k 4 .i64 Tryd.underlying26 (by kernel_rfl) hlt)) c0_0 ?_
          simp only [Act.put, Z1, Z2, Z3]
          refine Held.tk (v := .agg #[.bool x.d, .int .i64 x.k, .int .i64 x.v, .int .i64 x.s]) 4 (some 23) rfl (y_load_range (n := 4) (cs := x.cells) rfl rfl Tryd.underlying36 rfl (by kernel_rfl) rfl (fun W hW => range_below hx hW (Nat.lt_of_lt_of_le hb hBk))) c0_0 ?_
          simp only [Act.put, Z1, Z2, Z3]
          refine Held.tk (v := .slice (some ⟨b', off', none⟩) n c') 5 (some 24) rfl (Held.y_move rfl rfl) c0_0 ?_
          simp only [Act.put, Z1, Z2, Z3]
          refine Held.tk (v := .int .i64 (k : Int)) 6 (some 25) rfl (Held.y_move rfl rfl) c0_0 ?_
          simp only [Act.put, Z1, Z2, Z3]
          refine Held.tk (v := .pointer (some ⟨b', off' + k * 4, none⟩)) 7 (some 26) rfl (Held.y_addr rfl rfl rfl (run_addr_of 26 36 b' off' n c' k 4 .i64 Tryd.underlying26 (by kernel_rfl) hlt)) c0_0 ?_
          simp only [Act.put, Z1, Z2, Z3]
          refine Held.tk (v := .agg #[.bool y.d, .int .i64 y.k, .int .i64 y.v, .int .i64 y.s]) 8 (some 27) rfl (y_load_range (n := 4) (cs := y.cells) rfl rfl Tryd.underlying36 rfl (by kernel_rfl) rfl (fun W hW => range_below hy hW (Nat.lt_of_lt_of_le hb' hBk'))) c0_0 ?_
          simp only [Act.put, Z1, Z2, Z3]
          refine Held.one 9 (by kernel_rfl) ?_
          refine Rs.op_callv 9 (some 28) 19 #[] #[.agg #[.bool x.d, .int .i64 x.k, .int .i64 x.v, .int .i64 x.s], .agg #[.bool y.d, .int .i64 y.k, .int .i64 y.v, .int .i64 y.s]] rfl rfl rfl rfl rfl (enters_of Tryd.func19 (by kernel_rfl) rfl) (by simp [Act.eval])
            (by have := eqr_any x y wr.drew; rwa [hq] at this) ?_
          rintro e w1 ⟨rfl, b1⟩
          have c0_1 := c0_0.trans (b1.mono c0_0.size)
          refine ⟨_, rfl, c0_1, ?_⟩
          simp only [Act.put, Z1, Z2, Z3]
          refine Held.tk (v := .bool false) 10 (some 29) rfl (Held.y_not rfl rfl rfl) c0_1 ?_
          simp only [Act.put, Z1, Z2, Z3]
          refine wpAnyH_done (by kernel_rfl) ?_ _
          have dz := hst.trans (c0_1.mono hst.size)
          generalize w1 = wz at dz ⊢
          clear hx hy c0_1
          go_wp2_with fail
          go_roundw
          case rel => exact ⟨k + 1, by omega, by go_num, dz, HT⟩
          case measure => simp [intOf]; omega
        · have HF := Lib.hid (show decide (rs = rs') = false by
            rw [decide_eq_false_iff_not]; intro e; exact hq0 (by rw [e]))
          have hq : decide (rs.getD k R0 = rs'.getD k R0) = false := by simpa using hq0
          clear hq0
          generalize rs.getD k R0 = x at hx hq
          generalize rs'.getD k R0 = y at hy hq
          go_wp2_with fail
          refine wp_region_held (S := fun W => Below wr.heap.size wr W) (by kernel_rfl) ?_
          change wpAnyH _ _ _ _ _ _ _ _ wr.drew
          have c0_0 := (Below.refl wr.heap.size wr).drew
          refine Held.tk (v := .func (.func 19) #[] #[]) 0 (some 19) rfl (Held.y_move rfl rfl) c0_0 ?_
          simp only [Act.put, Z1, Z2, Z3]
          refine Held.tk (v := .slice (some ⟨b, off, none⟩) n c) 1 (some 20) rfl (Held.y_move rfl rfl) c0_0 ?_
          simp only [Act.put, Z1, Z2, Z3]
          refine Held.tk (v := .int .i64 (k : Int)) 2 (some 21) rfl (Held.y_move rfl rfl) c0_0 ?_
          simp only [Act.put, Z1, Z2, Z3]
          refine Held.tk (v := .pointer (some ⟨b, off + k * 4, none⟩)) 3 (some 22) rfl (Held.y_addr rfl rfl rfl (run_addr_of 26 36 b off n c k 4 .i64 Tryd.underlying26 (by kernel_rfl) hlt)) c0_0 ?_
          simp only [Act.put, Z1, Z2, Z3]
          refine Held.tk (v := .agg #[.bool x.d, .int .i64 x.k, .int .i64 x.v, .int .i64 x.s]) 4 (some 23) rfl (y_load_range (n := 4) (cs := x.cells) rfl rfl Tryd.underlying36 rfl (by kernel_rfl) rfl (fun W hW => range_below hx hW (Nat.lt_of_lt_of_le hb hBk))) c0_0 ?_
          simp only [Act.put, Z1, Z2, Z3]
          refine Held.tk (v := .slice (some ⟨b', off', none⟩) n c') 5 (some 24) rfl (Held.y_move rfl rfl) c0_0 ?_
          simp only [Act.put, Z1, Z2, Z3]
          refine Held.tk (v := .int .i64 (k : Int)) 6 (some 25) rfl (Held.y_move rfl rfl) c0_0 ?_
          simp only [Act.put, Z1, Z2, Z3]
          refine Held.tk (v := .pointer (some ⟨b', off' + k * 4, none⟩)) 7 (some 26) rfl (Held.y_addr rfl rfl rfl (run_addr_of 26 36 b' off' n c' k 4 .i64 Tryd.underlying26 (by kernel_rfl) hlt)) c0_0 ?_
          simp only [Act.put, Z1, Z2, Z3]
          refine Held.tk (v := .agg #[.bool y.d, .int .i64 y.k, .int .i64 y.v, .int .i64 y.s]) 8 (some 27) rfl (y_load_range (n := 4) (cs := y.cells) rfl rfl Tryd.underlying36 rfl (by kernel_rfl) rfl (fun W hW => range_below hy hW (Nat.lt_of_lt_of_le hb' hBk'))) c0_0 ?_
          simp only [Act.put, Z1, Z2, Z3]
          refine Held.one 9 (by kernel_rfl) ?_
          refine Rs.op_callv 9 (some 28) 19 #[] #[.agg #[.bool x.d, .int .i64 x.k, .int .i64 x.v, .int .i64 x.s], .agg #[.bool y.d, .int .i64 y.k, .int .i64 y.v, .int .i64 y.s]] rfl rfl rfl rfl rfl (enters_of Tryd.func19 (by kernel_rfl) rfl) (by simp [Act.eval])
            (by have := eqr_any x y wr.drew; rwa [hq] at this) ?_
          rintro e w1 ⟨rfl, b1⟩
          have c0_1 := c0_0.trans (b1.mono c0_0.size)
          refine ⟨_, rfl, c0_1, ?_⟩
          simp only [Act.put, Z1, Z2, Z3]
          refine Held.tk (v := .bool true) 10 (some 29) rfl (Held.y_not rfl rfl rfl) c0_1 ?_
          simp only [Act.put, Z1, Z2, Z3]
          refine wpAnyH_done (by kernel_rfl) ?_ _
          have dz := hst.trans (c0_1.mono hst.size)
          generalize w1 = wz at dz ⊢
          clear hx hy c0_1
          go_wp2_with fail
          go_ret
          exact ⟨Mem.ret_bool HF.out.symm, dz⟩
      · have HF := Lib.hid (show decide (rs = rs') = true by
          have e1 := ht.out
          rw [List.take_of_length_le (by have := HL.out; omega), List.take_of_length_le (by have := HL'.out; omega)] at e1
          simpa using e1)
        go_wp2_with fail
        go_ret
        exact ⟨Mem.ret_bool HF.out.symm, hst⟩
  · have hne : ((n : Int) != (n' : Int)) = true := by simp; omega
    have HF := Lib.hid (show decide (rs = rs') = false by
      rw [decide_eq_false_iff_not]; intro e; exact hnn (by rw [← h.1, ← h'.1, e]))
    clear h h' hnn
    go_enter Tryd.func18, Tryd.ntmps18
    go_wp2_with fail
    go_ret
    exact ⟨Mem.ret_bool HF.out.symm, Below.refl _ _⟩
theorem plain_any (B B' : Nat) (A A' : Option Addr) (n n' c c' : Nat) (rs rs' : List R) (w : World) (h : Recs w B A n rs) (h' : Recs w B' A' n' rs') (hB : B ≤ w.heap.size) (hB' : B' ≤ w.heap.size) (hn : n ≤ 1073741824) (hn' : n' ≤ 1073741824) :
    Calls Tryd.prog 7 #[.slice A n c, .slice A' n' c'] w fun e w' => e = .returned (.bool (decide (rs = rs'))) ∧ Below w.heap.size w w' := by
  go_enter Tryd.func7, Tryd.ntmps7
  go_wp2_with fail
  refine (same_any B B' A A' n n' c c' rs rs' w h h' hB hB' hn hn').mono ?_
  rintro e w' ⟨rfl, hst⟩
  go_wp2_with fail
  go_ret
  exact ⟨rfl, hst⟩
end Go.Proofs.YtjelacblnjbfgaaDoor.Rs
namespace Go.Proofs.YtjelacblnjbfgaaDoor.Rs
open Go.RowKit Go.Shelf Go.Proofs.YtjelacblnjbfgaaDoor Mem Held Rc
set_option maxRecDepth 100000
attribute [local irreducible] wpList wpListIn Calls
theorem info_recs : (Tryd.prog.info? 36).map (fun i => (i.size, i.bytes)) = some (4, 32) := by kernel_rfl
theorem recs_of_blk {w : World} {g : Nat} {t : TypeId} {rs qs : List R} (h : Blk w g t (flat (rs ++ qs)).toArray) (hw : ∀ r ∈ rs, r.wf) : Recs w w.heap.size (some ⟨g, 0, none⟩) rs.length rs :=
  ⟨rfl, hw, fun _ => ⟨g, 0, rfl, h.lt, fun j v hv => by
    rw [Nat.zero_add]
    refine h.cell ?_
    rw [List.getElem?_toArray, flat_append, List.getElem?_append_left (List.getElem?_eq_some_iff.1 hv).1]
    exact hv⟩⟩
theorem wpList_append_ran {P : Program} {ops : Array Oper} {rest : List Oper} {o : Oper} {a : Act} {w : World} {Q : Exit → Act → World → Prop} (hgd : o.guard = none) (s x : Operand) (ts tx : TypeId) (ho : o.op = .call { callee := .builtin .append, args := #[s, x], argTypes := #[ts, tx] }) (u v r : Value) (w' : World) (hs : a.eval s = u) (hx : a.eval x = v)
    (hr : (Builtin.append_ #[ts, tx] o.type #[u, v]).run P w = .ok r w') (h : wpList P ops Q rest (a.put o.dst r) w') : wpList P ops Q (o :: rest) a w := by
  refine wpList_plain hgd fun K hK => ?_
  unfold Oper.wp execOp
  simp only [ho, resolve, invoke, builtin, Sem.run_bind, Sem.run_pure, Result.andThen_ok, List.map_toArray, List.map_cons, List.map_nil, hs, hx, hr]
  exact hK _ _ h
theorem run_append_recs_fits (w : World) (base g cap B m c : Nat) (A : Option Addr) (rs0 rs : List R) (hown : w.ownsRow base 36 4 (.slice (some ⟨g, 0, none⟩) rs0.length cap) rs0.length (flat rs0)) (h : Recs w B A m rs) (hfit : rs0.length + m ≤ cap) :
    ∃ w', (Builtin.append_ #[26, 26] 26 #[.slice (some ⟨g, 0, none⟩) rs0.length cap, .slice A m c]).run Tryd.prog w = .ok (.slice (some ⟨g, 0, none⟩) (rs0.length + m) cap) w' ∧ w'.ownsRow base 36 4 (.slice (some ⟨g, 0, none⟩) (rs0.length + m) cap) (rs0.length + m) (flat (rs0 ++ rs)) ∧ w.grownBy w' (some g) := by
  obtain ⟨ie, hie, hsb⟩ := Option.map_eq_some_iff.1 info_recs
  simp only [Prod.mk.injEq] at hsb
  obtain ⟨hsz, hby⟩ := hsb
  cases A with
  | none =>
    have hm : m = 0 := by
      rcases Nat.eq_zero_or_pos m with h0 | h0
      · exact h0
      · obtain ⟨_, _, e, _⟩ := h.2.2 h0
        cases e
    subst hm
    have e : rs = [] := List.eq_nil_of_length_eq_zero h.1
    subst e
    refine ⟨w, ?_, by simpa using hown, World.grownBy.refl w _⟩
    simp [Builtin.append_, run_underlying Tryd.underlying26, sizeOf, typeInfo, hie, Builtin.lenOf, Builtin.firstCells, show rs0.length ≤ cap by omega, storeCells]
  | some ad =>
    have hcells : ∀ j u, (flat rs)[j]? = some u → w.cell? (ad.add j) = some u := fun j u hu => by
      have hj := (List.getElem?_eq_some_iff.1 hu).1
      rw [flat_length] at hj
      obtain ⟨b, off, e, _, hc⟩ := h.2.2 (by have := h.1; omega)
      injection e with e
      subst e
      rw [show (Addr.mk b off none).add j = ⟨b, off + j, none⟩ by (unfold Addr.add; split <;> simp_all)]
      exact hc j u hu
    obtain ⟨w', h1, h2, h3⟩ := run_append_fits (P := Tryd.prog) w base 26 26 36 ie 4 Tryd.underlying26 hie hsz g rs0.length cap (flat rs0) hown ad m c (flat rs) (by rw [flat_length, h.1]) hcells (flat_one' rs) hfit
    exact ⟨w', h1, by rw [flat_append]; exact h2, h3⟩
def OwnR (w : World) (base : Nat) (v : Value) (rs : List R) : Prop := w.ownsRow base 36 4 v rs.length (flat rs)
theorem OwnR.nil (w : World) (base : Nat) : OwnR w base (.slice none 0 0) [] := World.ownsRow_nil _ _ _ _
theorem OwnR.form {w : World} {base : Nat} {v : Value} {rs : List R} (h : OwnR w base v rs) : ∃ A c, v = .slice A rs.length c ∧ rs.length ≤ c ∧ c ≤ maxLen := Held.row_form h
theorem OwnR.recs {w : World} {base n c : Nat} {A : Option Addr} {rs : List R} (h : OwnR w base (.slice A n c) rs) (hw : ∀ r ∈ rs, r.wf) : Recs w w.heap.size A n rs := by
  rcases h.2 with ⟨e, hn⟩ | ⟨g, cap, cur, e, hb, hg, hnc, hcm, hcs, ht⟩
  · injection e with e1 e2 e3
    subst e1
    subst e2
    have : rs = [] := List.eq_nil_of_length_eq_zero hn
    subst this
    exact Recs.nil _ _ _
  · injection e with e1 e2 e3
    subst e1
    subst e2
    refine ⟨rfl, hw, fun _ => ⟨g, 0, rfl, (Array.getElem?_eq_some_iff.1 hg).1, fun j v hv => ?_⟩⟩
    rw [Nat.zero_add, cell_of_row w g j _ _ (0, 0) hg]
    have hj := (List.getElem?_eq_some_iff.1 hv).1
    rw [flat_length] at hj
    have := congrArg (fun l => l[j]?) ht
    simp only [List.getElem?_take, hj, if_true] at this
    rw [← hv, ← this]
    simp
theorem OwnR.kept {w w' : World} {base : Nat} {v : Value} {rs : List R} (h : OwnR w base v rs) {row : Option Nat} (hg : w.grownBy w' row) (hne : v.ownBlock = none ∨ v.ownBlock ≠ row) : OwnR w' base v rs := World.ownsRow.kept h hg hne
theorem OwnR.below {w w' : World} {base : Nat} {v : Value} {rs : List R} (h : OwnR w base v rs) (hb : Below w.heap.size w w') : OwnR w' base v rs := h.kept (grown_of_below hb none) (by cases v.ownBlock <;> simp)
theorem wpList_build_rec {ops : Array Oper} {rest : List Oper} {o : Oper} {a : Act} {w : World} {Q : Exit → Act → World → Prop} (hgd : o.guard = none) (y : Operand) (ho : o.op = .buildSlice 26 1 #[(0, y)]) (f : R) (hy : a.eval y = .agg #[.bool f.d, .int .i64 f.k, .int .i64 f.v, .int .i64 f.s])
    (h : ∀ w', Blk w' w.heap.size 36 f.cells.toArray → w.grownBy w' none → Hid (w'.heap.size = w.heap.size + 1) → wpList Tryd.prog ops Q rest (a.put o.dst (.slice (some ⟨w.heap.size, 0, none⟩) 1 1)) w') : wpList Tryd.prog ops Q (o :: rest) a w := by
  obtain ⟨ie, hie, hsb⟩ := Option.map_eq_some_iff.1 info_recs
  simp only [Prod.mk.injEq] at hsb
  have hz : ie.zero = some (.agg #[.bool false, .int .i64 0, .int .i64 0, .int .i64 0]) := by
    have := zero_rec
    rw [hie] at this
    exact this
  refine Go.wpList_buildSlice hgd 26 36 1 #[(0, y)] ho f.cells.toArray ie _ Tryd.underlying26 hie hz (by rw [hsb.1]; omega) (by rw [hsb.1]; omega) ?_ (h _ (heap_alloc_new w _) (World.grownBy_alloc w _ none) (Lib.hid (by simp)))
  have hf := Great.fill_whole (s := 4) (by omega) [.agg f.cells.toArray] ((Array.range (1 * ie.size)).map ((Value.agg #[.bool false, .int .i64 0, .int .i64 0, .int .i64 0]).cells[· % (Value.agg #[.bool false, .int .i64 0, .int .i64 0, .int .i64 0]).cells.size]!)) (by simp [Value.cells, R.cells]) (by simp [hsb.1])
  rw [hsb.1] at hf ⊢
  simp only [List.map_toArray, List.map_cons, List.map_nil, hy]
  refine Eq.trans ?_ (hf.trans ?_)
  · rfl
  · simp [Value.cells, R.cells]
end Go.Proofs.YtjelacblnjbfgaaDoor.Rs
namespace Go.Proofs.YtjelacblnjbfgaaDoor.Rc
open Go.RowKit Go.Shelf Go.Proofs.YtjelacblnjbfgaaDoor Mem Help Go.Proofs.YtjelacblnjbfgaaDoor.Sum Po Ky Ct Go.Proofs.YtjelacblnjbfgaaDoor.Bit Held Go.Proofs.YtjelacblnjbfgaaDoor.Range
attribute [local go_sem] Oper.semAt_some
attribute [local irreducible] wpList wpListIn Calls
def fld (zs : List Int) (i : Nat) : Int := val ((zs.drop (8 * i)).take 8)
def recC (n0 n1 n2 n3 : Int) : Array Value := #[.bool (n0 == 1), .int .i64 (wrap64 n1), .int .i64 (wrap64 n2), .int .i64 (wrap64 n3)]
def noneC : Array Value := #[.bool false, .int .i64 0, .int .i64 0, .int .i64 0]
def mayB (zs : List Int) : Bool := may (fld zs 0) (fld zs 1) (fld zs 2) (fld zs 3)
def takenC (zs : List Int) : Array Value := if zs.length = 32 ∧ mayB zs = true then recC (fld zs 0) (fld zs 1) (fld zs 2) (fld zs 3) else noneC
def takenE (zs : List Int) : Int := if zs.length < 32 then 3 else if zs.length = 32 ∧ mayB zs = true then 0 else 4
theorem takenC_size (zs : List Int) : (takenC zs).size = 4 := by
  unfold takenC
  split <;> rfl
theorem takenC_one (zs : List Int) : (takenC zs).all (·.oneCell') = true := by
  unfold takenC
  split <;> kernel_rfl
theorem fld_wf {zs : List Int} (h : Bs zs) (i : Nat) : (Lit.int .u64 (fld zs i)).wf = true := by
  have hb : Bs ((zs.drop (8 * i)).take 8) := fun z hz => h z (List.mem_of_mem_drop (List.mem_of_mem_take hz))
  have h0 := val_nonneg (xs := (zs.drop (8 * i)).take 8) fun z hz => (hb z hz).1
  have h1 := val_lt hb
  have hl : ((zs.drop (8 * i)).take 8).length ≤ 8 := by rw [List.length_take]; omega
  unfold fld
  generalize val ((zs.drop (8 * i)).take 8) = v at *
  generalize ((zs.drop (8 * i)).take 8).length = n at *
  refine wf_64 ?_
  rcases (show n = 0 ∨ n = 1 ∨ n = 2 ∨ n = 3 ∨ n = 4 ∨ n = 5 ∨ n = 6 ∨ n = 7 ∨ n = 8 by omega) with rfl | rfl | rfl | rfl | rfl | rfl | rfl | rfl | rfl <;> omega
def flds (zs : List Int) : List Int := [fld zs 0, fld zs 1, fld zs 2, fld zs 3]
theorem flds_at (zs : List Int) {i : Nat} (h : i < 4) : (flds zs).getD i 0 = fld zs i := by
  match i, h with
  | 0, _ => rfl
  | 1, _ => rfl
  | 2, _ => rfl
  | 3, _ => rfl
theorem flds_wf {zs : List Int} (h : Bs zs) : ∀ z ∈ flds zs, (Lit.int .u64 z).wf = true := fun z hz => by
  simp only [flds, List.mem_cons, List.not_mem_nil, or_false] at hz
  rcases hz with rfl | rfl | rfl | rfl <;> exact fld_wf h _
set_option maxRecDepth 100000 in
set_option maxHeartbeats 4000000 in
theorem take_off (A : Option Addr) (m c : Nat) (w : World) (hm : m ≤ 1099511627776) (h : m ≠ 32) :
    Calls Tryd.prog 46 #[.slice A m c] w fun e w' => e = .returned (.tuple #[.agg noneC, .int .i64 (if m < 32 then 3 else 4)]) ∧ Below w.heap.size w w' := by
  by_cases hlt : m < 32
  · have hlt' : (m : Int) < 32 := by omega
    rw [if_pos hlt]
    go_enter Tryd.func46, Tryd.ntmps46
    go_wp2_with (first
      | (refine wpList_alloc_blk (w := w) rfl 36 rfl _ zero_rec ?_; intro w1 q1 g1 z1)
      | (refine wpList_build_blk rfl 36 _ rfl noneC (by kernel_rfl) ?_)
      | (refine wpList_store_blk (w := w1) rfl 36 _ _ rfl w.heap.size 4 rfl 36 _ noneC rfl q1 info_rec rfl rfl (by kernel_rfl) ?_; intro w2 q2 g2 z2))
    exact bodyPost_ret (results_blk_tmp rfl _ _ w.heap.size 4 _ _ _ rfl rfl q2 _ Tryd.underlying36 rfl info_rec rfl) rfl ⟨rfl, ((Below.refl _ w).grown g1 (Nat.le_refl _) (by simp)).grown g2 g1.size (fun r e => by cases e; exact Nat.le_refl _)⟩
  · have hlt' : ¬ (m : Int) < 32 := by omega
    have hgt : (32 : Int) < (m : Int) := by omega
    rw [if_neg hlt]
    go_enter Tryd.func46, Tryd.ntmps46
    go_wp2_with (first
      | (refine wpList_alloc_blk (w := w) rfl 36 rfl _ zero_rec ?_; intro w1 q1 g1 z1)
      | (refine wpList_build_blk rfl 36 _ rfl noneC (by kernel_rfl) ?_)
      | (refine wpList_store_blk (w := w1) rfl 36 _ _ rfl w.heap.size 4 rfl 36 _ noneC rfl q1 info_rec rfl rfl (by kernel_rfl) ?_; intro w2 q2 g2 z2))
    exact bodyPost_ret (results_blk_tmp rfl _ _ w.heap.size 4 _ _ _ rfl rfl q2 _ Tryd.underlying36 rfl info_rec rfl) rfl ⟨rfl, ((Below.refl _ w).grown g1 (Nat.le_refl _) (by simp)).grown g2 g1.size (fun r e => by cases e; exact Nat.le_refl _)⟩
def TInv (w : World) (gr gn : Nat) (zs : List Int) (pre : List Nat) (W : World) : Prop :=
  Row W gn 70 .u64 (blend (flds zs) (List.replicate 4 0) pre.length) ∧ Blk W gr 36 noneC ∧ Below w.heap.size w W
theorem TInv.own (w : World) (gr gn : Nat) (zs : List Int) {B : Nat} (hB : w.heap.size ≤ B) : OwnFrom B (TInv w gr gn zs) := fun pre W W' row ⟨h1, h2, h4⟩ hg hr =>
  ⟨row_own h1 hg hr, blk_own h2 hg hr, h4.grown hg h4.size (fun r e => Nat.le_trans hB (hr r e).1)⟩
set_option maxRecDepth 100000 in
set_option maxHeartbeats 2000000 in
theorem take_at (B : Nat) (b off c : Nat) (zs : List Int) (w : World) (h : Ints w .u8 B (some ⟨b, off, none⟩) 32 zs) (hb : b < B) (hB : B ≤ w.heap.size) (hc : 32 ≤ c) :
    Calls Tryd.prog 46 #[.slice (some ⟨b, off, none⟩) 32 c] w fun e w' => e = .returned (.tuple #[.agg (takenC zs), .int .i64 (takenE zs)]) ∧ Below w.heap.size w w' := by
  have HL := Lib.hid h.1
  have hbs := bs_of h.2.1
  have HW := Lib.hid (flds_wf hbs)
  refine (callsIn_wide (n := 3)).1 ?_
  refine callsIn_of_wp_marks Tryd.func46 rfl trivial ?_ rfl
  simp only [Tryd.ntmps46, List.size_toArray, List.length_cons, List.length_nil, Nat.reduceAdd, Nat.reduceSub, Array.replicate_succ, Array.replicate_zero, List.push_toArray, List.append_toArray, List.nil_append, List.cons_append]
  refine wpIn_wide.2 ?_
  go_wp2_with (first
    | (refine wpList_alloc_blk (w := w) rfl 36 rfl _ zero_rec ?_; intro u1 q1 g1 z1)
    | (refine wpList_alloc_Row (w := u1) rfl 70 rfl .u64 4 zero_row ?_; intro u2 r2 g2 z2))
  have bz : Below w.heap.size w u2 := ((Below.refl _ w).grown g1 (Nat.le_refl _) (by simp)).grown g2 g1.size (by simp)
  have q1 : Blk u1 w.heap.size 36 noneC := q1
  have hlt1 : w.heap.size < u1.heap.size := q1.lt
  have q1 := q1.grown g2 (by simp)
  clear g1 g2 z1 z2
  have rl0 := r2.lt
  go_wp2_with fail
  refine (words_any (some ⟨b, off, none⟩) 32 c u2).mono ?_
  rintro e v2 ⟨bx, rfl, qx, hbx, bw⟩
  have q1 := q1.after bw
  have r2 := r2.below bw r2.lt
  have bz := bz.trans (bw.mono bz.size)
  have lt1 := q1.lt
  have lt2 := r2.lt
  have hxn : bx ≠ u1.heap.size := fun e => by subst e; exact absurd (Nat.lt_of_lt_of_le rl0 hbx) (Nat.lt_irrefl _)
  have hit := fun N => words_give N bx (fun b => b = u1.heap.size) b off 32 c v2 (qx.cell rfl) hxn hc (by omega)
  have hF : (flds zs).length = (List.replicate 4 (0 : Int)).length := by simp [flds]
  have h2 := h.below (bz.mono hB)
  have hbn : b ≠ u1.heap.size := by omega
  clear bw
  go_wp2_with fail
  refine (wpIn_wide (n := 3)).1 ?_
  refine wpIn_rangeFunc_give rfl (by omega) (gf := 49) (lb := #[.pointer (some ⟨bx, 0, none⟩)]) rfl trivial (enters_of Tryd.func49 (by kernel_rfl) rfl)
    (hit _) (fun h k => h.trans k) (fun W l o o' hl ho hc _ => Only.put W l o o' ho hc) (Below.refl _ _) (fun x B W args hx => by cases hx; rfl)
    (TInv w w.heap.size u1.heap.size zs) (TInv.own w _ _ zs bz.size) ⟨by rw [List.length_nil, blend_zero]; exact r2, q1, bz⟩
    (fun x a' pre W => TInv w w.heap.size u1.heap.size zs pre W ∧ a' = { tmps := #[.slice (some ⟨b, off, none⟩) 32 c, undef, .pointer (some ⟨w.heap.size, 0, none⟩), .int .i64 0, .pointer (some ⟨u1.heap.size, 0, none⟩), .int .i64 (x : Int), .slice (some ⟨b, off + 8 * x, none⟩) 8 (c - 8 * x), .slice (some ⟨b, off, none⟩) 32 c, .int .i64 32, .bool false, undef, .slice (some ⟨b, off, none⟩) 32 c, .int .i64 32, .bool false, undef, .slice (some ⟨b, off, none⟩) 32 c, .func (.func 49) #[] #[.pointer (some ⟨bx, 0, none⟩)], .int .i64 (x : Int), .slice (some ⟨b, off + 8 * x, none⟩) 8 (c - 8 * x), undef, undef, undef, undef, undef, undef, undef, undef, undef, undef], defers := [] }) ?ib ?assign ?body ?done
  case ib =>
    rintro x a' pre W W' row ⟨hv, h7⟩ hgr hr
    exact ⟨TInv.own w _ _ zs bz.size pre W W' row hv hgr hr, h7⟩
  case assign =>
    rintro l pre x args W0 W K hv hg rfl hp hsz hK
    simp only [Held.zip_two, List.setIfInBounds_toArray, List.set_cons_zero, List.set_cons_succ]
    gi_wp2_with fail
    exact hK _ _ (KeepsOthers.refl _) (Only.refl _ _) ⟨TInv.own w _ _ zs bz.size pre W0 W none hv hg (fun r e => by cases e), rfl⟩
  case body =>
    rintro l pre x a' W ⟨⟨i1, i2, i4⟩, rfl⟩ hp hsz
    obtain ⟨hx, hx4⟩ := prefix_range hp
    have hx4 : x < 4 := hx4
    rw [← hx] at i1
    have hx4' : (x : Int) < 4 := by omega
    have hx0 : (0 : Int) ≤ (x : Int) := by omega
    have iw : Ints W .u8 B (some ⟨b, off + 8 * x, none⟩) 8 ((zs.drop (8 * x)).take 8) := by
      have hi := h.below (i4.mono hB)
      refine ⟨by rw [List.length_take, List.length_drop, HL.out]; omega, fun z hz => hi.2.1 z (List.mem_of_mem_drop (List.mem_of_mem_take hz)), fun _ => ⟨b, off + 8 * x, rfl, hb, fun i hi8 => ?_⟩⟩
      obtain ⟨b', off', e, _, hcc⟩ := hi.2.2 (by omega)
      injection e with e
      injection e with e1 e2
      subst e1
      subst e2
      rw [Nat.add_assoc, hcc (8 * x + i) (by omega)]
      simp [List.getD_eq_getElem?_getD, hi8]
    have HS := Lib.hid (show (blend (flds zs) (List.replicate 4 0) x).set x (fld zs x) = blend (flds zs) (List.replicate 4 0) (pre ++ [x]).length by
      have := blend_set hF (i := x) (by simpa using hx4)
      rw [flds_at zs hx4] at this
      rw [this, List.length_append, List.length_singleton, ← hx])
    have HBL := Lib.hid (show x < (blend (flds zs) (List.replicate 4 0) x).length by rw [blend_length hF]; simpa using hx4)
    have wz := fld_wf hbs x
    clear hx hp
    gi_wp2_with fail
    refine ⟨trivial, ?_⟩
    refine (CallsIn.inRound l (callsIn_wide.2 (number_any B (some ⟨b, off + 8 * x, none⟩) 8 (c - 8 * x) _ W iw (by omega)))).mono ?_
    rintro e W4 ⟨rfl, rfl⟩
    gi_wp2_with (refine wpListIn_store_elem (w := W) rfl 23 _ _ rfl u1.heap.size x rfl 70 .u64 _ (fld zs x) rfl i1 HBL.out size_u64 wz ?_; intro W5 r5 g5 z5; rw [HS.out] at r5)
    exact ⟨Held.others_of_grown i1.2 g5, Only.of_grown g5 (fun r e => by cases e; rfl), r5, i2.grown g5 (by intro e; injection e with e; omega), i4.grown g5 i4.size (fun r e => by cases e; omega)⟩
  case done =>
    rintro D W hD ⟨i1, i2, i4⟩ hDl
    have e4 : blend (flds zs) (List.replicate 4 0) (List.range (32 / 8)).length = [fld zs 0, fld zs 1, fld zs 2, fld zs 3] := blend_all hF
    rw [e4] at i1
    obtain ⟨bm, hbm⟩ : ∃ bm, may (fld zs 0) (fld zs 1) (fld zs 2) (fld zs 3) = bm := ⟨_, rfl⟩
    have hm := mayBe_any (fld zs 0) (fld zs 1) (fld zs 2) (fld zs 3) HW.out W
    rw [hbm] at hm
    have HC := Lib.hid (show takenC zs = if bm = true then recC (fld zs 0) (fld zs 1) (fld zs 2) (fld zs 3) else noneC by
      unfold takenC mayB
      rw [hbm, HL.out]
      simp)
    have HE := Lib.hid (show takenE zs = if bm = true then 0 else 4 by
      unfold takenE mayB
      rw [hbm, HL.out]
      simp)
    have hr := record_any (fld zs 0) (fld zs 1) (fld zs 2) (fld zs 3) HW.out
    clear hbm
    go_wp2_with (refine wpList_load_Row (w := W) rfl 70 _ rfl u1.heap.size rfl 70 .u64 _ i1 4 23 Tryd.underlying70 info_row rfl ?_)
    refine hm.mono ?_
    rintro e W2 ⟨rfl, b2⟩
    have i1 := i1.below b2 i1.lt
    have i2 := i2.after b2
    have d2 := (b2.block D (Array.getElem?_eq_some_iff.1 hDl).1).trans hDl
    have i4 := i4.trans (b2.mono i4.size)
    clear b2 hDl hm
    cases bm
    · have hone : oneI false = 0 := rfl
      rw [hone]
      go_wp2_with (first
        | (refine wpList_build_blk rfl 36 _ rfl noneC (by kernel_rfl) ?_)
        | (refine wpList_store_blk (w := W2) rfl 36 _ _ rfl w.heap.size 4 rfl 36 _ noneC rfl i2 info_rec rfl rfl (by kernel_rfl) ?_; intro W5 q5 g5 z5))
      have d5 := (g5.block D (Array.getElem?_eq_some_iff.1 d2).1 (by intro e; injection e with e; omega)).trans d2
      have b5 := i4.grown g5 i4.size (fun r e => by cases e; exact Nat.le_refl _)
      refine ⟨by simp, .inl ⟨_, _, rfl, run_takeDeferred d5, ?_⟩⟩
      have r9 : Blk (W5.putObj D (.deferred none)) w.heap.size 36 noneC := (World.putObj_heap_other (by omega)).trans q5
      exact ⟨_, results_blk_tmp rfl _ _ w.heap.size 4 _ _ _ rfl rfl r9 _ Tryd.underlying36 rfl info_rec rfl, by rw [HC.out, HE.out]; rfl, b5.grown (grownBy_putObj' _ D _) b5.size (fun r e => by cases e; omega)⟩
    · have hone : oneI true = 1 := rfl
      rw [hone]
      go_wp2_with (refine wpList_load_Row (w := W2) rfl 70 _ rfl u1.heap.size rfl 70 .u64 _ i1 4 23 Tryd.underlying70 info_row rfl ?_)
      refine (hr W2).mono ?_
      rintro e W3 ⟨rfl, b3⟩
      have i2 := i2.after b3
      have d3 := (b3.block D (Array.getElem?_eq_some_iff.1 d2).1).trans d2
      have i4 := i4.trans (b3.mono i4.size)
      clear b3 d2
      go_wp2_with (refine wpList_store_blk (w := W3) rfl 36 _ _ rfl w.heap.size 4 rfl 36 _ (recC (fld zs 0) (fld zs 1) (fld zs 2) (fld zs 3)) rfl i2 info_rec rfl rfl (by kernel_rfl) ?_; intro W5 q5 g5 z5)
      have d5 := (g5.block D (Array.getElem?_eq_some_iff.1 d3).1 (by intro e; injection e with e; omega)).trans d3
      have b5 := i4.grown g5 i4.size (fun r e => by cases e; exact Nat.le_refl _)
      refine ⟨by simp, .inl ⟨_, _, rfl, run_takeDeferred d5, ?_⟩⟩
      have r9 : Blk (W5.putObj D (.deferred none)) w.heap.size 36 (recC (fld zs 0) (fld zs 1) (fld zs 2) (fld zs 3)) := (World.putObj_heap_other (by omega)).trans q5
      exact ⟨_, results_blk_tmp rfl _ _ w.heap.size 4 _ _ _ rfl rfl r9 _ Tryd.underlying36 rfl info_rec rfl, by rw [HC.out, HE.out]; rfl, b5.grown (grownBy_putObj' _ D _) b5.size (fun r e => by cases e; omega)⟩
theorem take_any (B : Nat) (A : Option Addr) (m c : Nat) (zs : List Int) (w : World) (h : Ints w .u8 B A m zs) (hB : B ≤ w.heap.size) (hc : m ≤ c) (hm' : m ≤ 1099511627776) :
    Calls Tryd.prog 46 #[.slice A m c] w fun e w' => e = .returned (.tuple #[.agg (takenC zs), .int .i64 (takenE zs)]) ∧ Below w.heap.size w w' := by
  by_cases hm : m = 32
  · subst hm
    obtain ⟨b, off, rfl, hb, _⟩ := h.2.2 (by omega)
    exact take_at B b off c zs w h hb hB hc
  · have e1 : takenC zs = noneC := by
      unfold takenC
      rw [if_neg (by rw [h.1]; omega)]
    have e2 : takenE zs = if m < 32 then 3 else 4 := by
      unfold takenE
      rw [h.1]
      split
      · rfl
      · rw [if_neg (by omega)]
    rw [e1, e2]
    exact take_off A m c w (by omega) hm
end Go.Proofs.YtjelacblnjbfgaaDoor.Rc
namespace Go.Proofs.YtjelacblnjbfgaaDoor.Rc
open Go.RowKit Go.Shelf Go.Proofs.YtjelacblnjbfgaaDoor Mem Help Go.Proofs.YtjelacblnjbfgaaDoor.Sum Po Ky Held
attribute [local irreducible] wpList wpListIn Calls
theorem byte_range {x : Int} (k : Nat) : 0 ≤ x / 2 ^ (8 * k) % 256 ∧ x / 2 ^ (8 * k) % 256 ≤ 255 := by omega
theorem order_prefix (zs : List Int) {k : Nat} (hk : k < zs.length) : zs.take k ++ [zs.getD k 0] = zs.take (k + 1) := by
  rw [List.take_succ_eq_append_getElem hk, List.getD_eq_getElem?_getD, List.getElem?_eq_getElem hk]
  rfl
end Go.Proofs.YtjelacblnjbfgaaDoor.Rc
namespace Go.Proofs.YtjelacblnjbfgaaDoor.Mem
open Go.RowKit
def Flat (A : Option Addr) (cap : Nat) : Prop := cap = 0 ∨ A = none ∨ ∃ b off, A = some ⟨b, off, none⟩
theorem Flat.head (b off cap : Nat) : Flat (some ⟨b, off, none⟩) cap := .inr (.inr ⟨b, off, rfl⟩)
section
variable {P : Program} {t e : TypeId} {A : Option Addr} {n cap : Nat}
theorem run_front (ht : P.underlying t = some (.slice e)) (hs : (P.info? e).map (·.size) = some 1) (hf : Flat A cap) {h : Nat} (hh : h ≤ cap) (w : World) :
    (Instr.sliceAt t (.slice A n cap) none (some (.int .i64 (h : Int))) none).run P w = .ok (.slice A h cap) w := by
  have he : P.elem t = e := by simp [Program.elem, ht]
  have ht' : P.underlying t = some (.slice (P.elem t)) := by rw [he]; exact ht
  obtain ⟨inf, hi, h1⟩ := Option.map_eq_some_iff.1 hs
  rw [run_sliceAt_slice w t _ _ _ _ ht', run_slice_h w t A n cap ht' .i64 _ (by omega) (by omega), he]
  have hz : (sizeOf e).run P w = .ok 1 w := by simp [sizeOf, typeInfo, hi, h1]
  rw [hz]
  simp only [Result.andThen, sliced, Nat.mul_one, Nat.sub_zero, Int.toNat_natCast]
  congr 2
  split
  · rfl
  · rcases hf with h0 | rfl | ⟨b, off, rfl⟩
    · exact absurd h0 ‹_›
    · rfl
    · simp [Addr.add]
theorem run_back (ht : P.underlying t = some (.slice e)) (hs : (P.info? e).map (·.size) = some 1) (hf : Flat A cap) (hc : n ≤ cap) {l : Nat} (hl : l ≤ n) {wi : World} {k : IntKind} {B : Nat} {zs : List Int} (h : Ints wi k B A n zs) :
    ∃ A', (∀ w, (Instr.sliceAt t (.slice A n cap) (some (.int .i64 (l : Int))) none none).run P w = .ok (.slice A' (n - l) (cap - l)) w) ∧ Flat A' (cap - l) ∧ Ints wi k B A' (n - l) (zs.drop l) := by
  have he : P.elem t = e := by simp [Program.elem, ht]
  have ht' : P.underlying t = some (.slice (P.elem t)) := by rw [he]; exact ht
  obtain ⟨inf, hi, h1⟩ := Option.map_eq_some_iff.1 hs
  refine ⟨if cap = l then A else A.map (·.add l), fun w => ?_, ?_, ?_⟩
  · rw [run_sliceAt_slice w t _ _ _ _ ht', run_slice_l w t A n cap ht' .i64 _ (by omega) (by omega), he]
    have hz : (sizeOf e).run P w = .ok 1 w := by simp [sizeOf, typeInfo, hi, h1]
    rw [hz]
    simp only [Result.andThen, sliced, Nat.mul_one, Int.toNat_natCast]
  · by_cases q : cap = l
    · exact .inl (by omega)
    · rw [if_neg q]
      rcases hf with h0 | rfl | ⟨b, off, rfl⟩
      · omega
      · exact .inr (.inl rfl)
      · exact .inr (.inr ⟨b, off + l, by simp [Addr.add]⟩)
  · refine ⟨by rw [List.length_drop, h.1], fun z hz => h.2.1 z (List.mem_of_mem_drop hz), fun h0 => ?_⟩
    obtain ⟨b, off, rfl, hb, hcell⟩ := h.2.2 (by omega)
    rw [if_neg (by omega)]
    refine ⟨b, off + l, by simp [Addr.add], hb, fun i hi => ?_⟩
    have := hcell (l + i) (by omega)
    rw [← Nat.add_assoc] at this
    rw [this]
    simp [List.getD_eq_getElem?_getD, List.getElem?_drop]
end
theorem Ints.front {w : World} {k : IntKind} {B n h : Nat} {A : Option Addr} {zs : List Int} (hi : Ints w k B A n zs) (hh : h ≤ n) : Ints w k B A h (zs.take h) := by
  refine ⟨by rw [List.length_take, hi.1]; omega, fun z hz => hi.2.1 z (List.mem_of_mem_take hz), fun h0 => ?_⟩
  obtain ⟨b, off, rfl, hb, hc⟩ := hi.2.2 (by omega)
  refine ⟨b, off, rfl, hb, fun i hi' => ?_⟩
  rw [hc i (by omega)]
  simp [List.getD_eq_getElem?_getD, hi']
theorem Own.flat {w : World} {base : Nat} {t : TypeId} {k : IntKind} {A : Option Addr} {n c : Nat} {zs : List Int} (h : Own w base t k (.slice A n c) zs) : Flat A c := by
  rcases h.2.2 with ⟨hv, _⟩ | ⟨g, cap, cur, hv, _⟩
  · injection hv with e1; exact .inr (.inl e1)
  · injection hv with e1; exact .inr (.inr ⟨g, 0, e1⟩)
end Go.Proofs.YtjelacblnjbfgaaDoor.Mem
namespace Go.Proofs.YtjelacblnjbfgaaDoor.Rc
open Go.RowKit Go.Shelf Go.Proofs.YtjelacblnjbfgaaDoor Mem Help Go.Proofs.YtjelacblnjbfgaaDoor.Sum Po Ky Ct Go.Proofs.YtjelacblnjbfgaaDoor.Bit Held
attribute [local irreducible] wpList wpListIn Calls
theorem info_w64 : (Tryd.prog.info? 23).map (fun i => (i.zero, i.size, i.bytes)) = some (some (.int .u64 0), 1, 8) := by kernel_rfl
end Go.Proofs.YtjelacblnjbfgaaDoor.Rc
namespace Go.Proofs.YtjelacblnjbfgaaDoor.Rs
open Go.RowKit Go.Shelf Go.Proofs.YtjelacblnjbfgaaDoor Mem Held Rc Po
attribute [local irreducible] wpList wpListIn Calls
def pad (rs : List R) (size : Nat) : List R := rs ++ List.replicate (size - rs.length) RD
theorem pad_length {rs : List R} {size : Nat} (h : rs.length ≤ size) : (pad rs size).length = size := by simp [pad]; omega
theorem pad_lt {rs : List R} {size i : Nat} (h : i < rs.length) : (pad rs size).getD i R0 = rs.getD i R0 := by
  simp only [pad, List.getD_eq_getElem?_getD]
  rw [List.getElem?_append_left h]
theorem pad_ge {rs : List R} {size i : Nat} (h : ¬ i < rs.length) (hi : i < size) : (pad rs size).getD i R0 = RD := by
  simp only [pad, List.getD_eq_getElem?_getD]
  rw [List.getElem?_append_right (by omega), List.getElem?_replicate, if_pos (by omega)]
  rfl
def packR (r : R) : List Int := packed r.d r.k r.v r.s
theorem packR_length (r : R) : (packR r).length = 32 := packed_length _ _ _ _
def packs (rs : List R) : List Int := rs.flatMap packR
theorem packs_length : ∀ rs : List R, (packs rs).length = 32 * rs.length
  | [] => rfl
  | r :: rs => by
    have := packs_length rs
    simp only [packs, List.flatMap_cons, List.length_append, packR_length, List.length_cons] at this ⊢
    omega
theorem packs_wf (rs : List R) : ∀ z ∈ packs rs, (Lit.int .u8 z).wf = true := fun z hz => by
  obtain ⟨r, _, h⟩ := List.mem_flatMap.1 hz
  exact packed_wf _ _ _ _ z h
def mayS (size : Int) : Bool := decide (1 ≤ size) && decide (size ≤ 8)
def word (zs : List Int) (i : Nat) : List Int := (zs.drop (32 * i)).take 32
theorem word_length {zs : List Int} {i size : Nat} (hl : zs.length = 32 * size) (hi : i < size) : (word zs i).length = 32 := by
  rw [word, List.length_take, List.length_drop, hl]
  omega
def recT (zs : List Int) : R := ⟨fld zs 0 == 1, wrap64 (fld zs 1), wrap64 (fld zs 2), wrap64 (fld zs 3)⟩
theorem recT_wf (zs : List Int) : (recT zs).wf := ⟨wrap64_wf _, wrap64_wf _, wrap64_wf _⟩
def allOk (zs : List Int) (size : Nat) : Bool := (List.range size).all fun i => mayB (word zs i)
theorem allOk_iff {zs : List Int} {size : Nat} : allOk zs size = true ↔ ∀ i, i < size → mayB (word zs i) = true := by simp [allOk]
def recsOf (zs : List Int) (k : Nat) : List R := (List.range k).map fun i => recT (word zs i)
theorem recsOf_length (zs : List Int) (k : Nat) : (recsOf zs k).length = k := by simp [recsOf]
theorem recsOf_snoc (zs : List Int) (k : Nat) : recsOf zs (k + 1) = recsOf zs k ++ [recT (word zs k)] := by simp [recsOf, List.range_succ]
theorem recsOf_wf (zs : List Int) (k : Nat) : ∀ r ∈ recsOf zs k, r.wf := fun r hr => by
  obtain ⟨i, _, rfl⟩ := List.mem_map.1 hr
  exact recT_wf _
def takesR (zs : List Int) (size : Int) : List R := if mayS size = true ∧ (zs.length : Int) = 32 * size ∧ allOk zs size.toNat = true then recsOf zs size.toNat else []
def takesE (zs : List Int) (size : Int) : Int := if mayS size = false then 1 else if (zs.length : Int) < 32 * size then 3 else if 32 * size < (zs.length : Int) then 4 else if allOk zs size.toNat = true then 0 else 4
theorem ints_mid {w : World} {B b off n : Nat} {zs : List Int} (hi : Ints w .u8 B (some ⟨b, off, none⟩) n zs) {o m : Nat} (hx : o + m ≤ n) (hm : 0 < m) : Ints w .u8 B (some ⟨b, off + o, none⟩) m ((zs.drop o).take m) := by
  refine ⟨by rw [List.length_take, List.length_drop, hi.1]; omega, fun z hz => hi.2.1 z (List.mem_of_mem_drop (List.mem_of_mem_take hz)), fun _ => ?_⟩
  obtain ⟨b', off', e, hb, hcc⟩ := hi.2.2 (by omega)
  injection e with e
  injection e with e1 e2
  subst e1
  subst e2
  refine ⟨b, off + o, rfl, hb, fun i hi8 => ?_⟩
  rw [Nat.add_assoc, hcc (o + i) (by omega)]
  simp [List.getD_eq_getElem?_getD, hi8]
def packE (n : Nat) (size : Int) : Int := if mayS size = false then 1 else if size < (n : Int) then 5 else 0
def packB (rs : List R) (size : Int) : List Int := if mayS size = true ∧ (rs.length : Int) ≤ size then packs (pad rs size.toNat) else []
theorem takesR_wf (zs : List Int) (size : Int) : ∀ r ∈ takesR zs size, r.wf := by
  unfold takesR
  split
  · exact recsOf_wf _ _
  · exact fun r hr => absurd hr (by simp)
def sizeV (size : Int) : Int := 32 * max 0 (min size 8) + 16
end Go.Proofs.YtjelacblnjbfgaaDoor.Rs
namespace Go.Proofs.YtjelacblnjbfgaaDoor.Cc
open Go.Proofs.YtjelacblnjbfgaaDoor.Sum
def lft (x : Int) (n : Nat) : Int := rotI x (32 - n)
def qr (a b c d : Int) : Int × Int × Int × Int :=
  let a1 := addI a b
  let d1 := lft (xorI d a1) 16
  let c1 := addI c d1
  let b1 := lft (xorI b c1) 12
  let a2 := addI a1 b1
  let d2 := lft (xorI d1 a2) 8
  let c2 := addI c1 d2
  let b2 := lft (xorI b1 c2) 7
  (a2, b2, c2, d2)
def at4 (s : List Int) (i j k l : Nat) : List Int :=
  let q := qr (s.getD i 0) (s.getD j 0) (s.getD k 0) (s.getD l 0)
  (((s.set i q.1).set j q.2.1).set k q.2.2.1).set l q.2.2.2
def columns (s : List Int) : List Int := at4 (at4 (at4 (at4 s 0 4 8 12) 1 5 9 13) 2 6 10 14) 3 7 11 15
def diagonals (s : List Int) : List Int := at4 (at4 (at4 (at4 s 0 5 10 15) 1 6 11 12) 2 7 8 13) 3 4 9 14
def twice (s : List Int) : List Int := diagonals (columns s)
def turns : Nat → List Int → List Int
  | 0, s => s
  | n + 1, s => twice (turns n s)
def lew (bs : List Int) (t : Nat) : Int := ((bs.getD (4 * t + 3) 0 * 256 + bs.getD (4 * t + 2) 0) * 256 + bs.getD (4 * t + 1) 0) * 256 + bs.getD (4 * t) 0
def sigma : List Int := [0x61707865, 0x3320646e, 0x79622d32, 0x6b206574]
def first (key : List Int) (ctr : Int) (nonce : List Int) : List Int := sigma ++ ((List.range 8).map (lew key) ++ (ctr :: (List.range 3).map (lew nonce)))
def byteOf (v s : List Int) (i : Nat) : Int := addI (v.getD (i / 4) 0) (s.getD (i / 4) 0) / 2 ^ (8 * (i % 4)) % 256
def block (key : List Int) (ctr : Int) (nonce : List Int) : List Int := (List.range 64).map (byteOf (turns 10 (first key ctr nonce)) (first key ctr nonce))
def streamAt (key : List Int) (ctr : Int) (nonce : List Int) (i : Nat) : Int := (block key (addI ctr ((i / 64 : Nat) : Int)) nonce).getD (i % 64) 0
def xors (key nonce : List Int) (ctr : Int) (bs : List Int) : List Int := (List.range bs.length).map fun i => bits .xor .u8 (bs.getD i 0) (streamAt key ctr nonce i)
theorem r32_lft (x : Int) (n : Nat) : R32 (lft x n) := r32_rot _ _
theorem r32_qr (a b c d : Int) : R32 (qr a b c d).1 ∧ R32 (qr a b c d).2.1 ∧ R32 (qr a b c d).2.2.1 ∧ R32 (qr a b c d).2.2.2 := ⟨r32_add _ _, r32_lft _ _, r32_add _ _, r32_lft _ _⟩
def Sixteen (s : List Int) : Prop := s.length = 16 ∧ ∀ z ∈ s, R32 z
theorem Sixteen.at4 {s : List Int} (h : Sixteen s) (i j k l : Nat) : Sixteen (at4 s i j k l) := by
  refine ⟨by simp [Cc.at4, h.1], fun z hz => ?_⟩
  obtain ⟨q1, q2, q3, q4⟩ := r32_qr (s.getD i 0) (s.getD j 0) (s.getD k 0) (s.getD l 0)
  rcases List.mem_or_eq_of_mem_set hz with hz | rfl
  · rcases List.mem_or_eq_of_mem_set hz with hz | rfl
    · rcases List.mem_or_eq_of_mem_set hz with hz | rfl
      · rcases List.mem_or_eq_of_mem_set hz with hz | rfl
        · exact h.2 z hz
        · exact q1
      · exact q2
    · exact q3
  · exact q4
attribute [irreducible] at4
theorem Sixteen.twice {s : List Int} (h : Sixteen s) : Sixteen (twice s) := by
  unfold Cc.twice diagonals columns
  exact (((((((h.at4 _ _ _ _).at4 _ _ _ _).at4 _ _ _ _).at4 _ _ _ _).at4 _ _ _ _).at4 _ _ _ _).at4 _ _ _ _).at4 _ _ _ _
theorem Sixteen.turns {s : List Int} (h : Sixteen s) : ∀ n, Sixteen (turns n s)
  | 0 => h
  | n + 1 => (Sixteen.turns h n).twice
theorem Sixteen.get {s : List Int} (h : Sixteen s) {i : Nat} (hi : i < 16) : R32 (s.getD i 0) := by
  have hl : i < s.length := by rw [h.1]; exact hi
  rw [List.getD_eq_getElem?_getD, List.getElem?_eq_getElem hl]
  exact h.2 _ (List.getElem_mem hl)
theorem r32_lew {bs : List Int} (h : Bs bs) (t : Nat) : R32 (lew bs t) := by
  have h0 := h.at_ (4 * t)
  have h1 := h.at_ (4 * t + 1)
  have h2 := h.at_ (4 * t + 2)
  have h3 := h.at_ (4 * t + 3)
  unfold R32 lew
  omega
theorem first_length (key : List Int) (ctr : Int) (nonce : List Int) : (first key ctr nonce).length = 16 := by simp [first, sigma]
theorem sixteen_first {key nonce : List Int} {ctr : Int} (hk : Bs key) (hn : Bs nonce) (hc : R32 ctr) : Sixteen (first key ctr nonce) := by
  refine ⟨first_length _ _ _, fun z hz => ?_⟩
  rcases List.mem_append.1 hz with h | h
  · have : ∀ z ∈ sigma, R32 z := by unfold R32; decide
    exact this z h
  · rcases List.mem_append.1 h with h | h
    · obtain ⟨t, _, rfl⟩ := List.mem_map.1 h
      exact r32_lew hk t
    · rcases List.mem_cons.1 h with rfl | h
      · exact hc
      · obtain ⟨t, _, rfl⟩ := List.mem_map.1 h
        exact r32_lew hn t
theorem block_length (key : List Int) (ctr : Int) (nonce : List Int) : (block key ctr nonce).length = 64 := by simp [block]
theorem byteOf_bound (v s : List Int) (i : Nat) : 0 ≤ byteOf v s i ∧ byteOf v s i ≤ 255 := by unfold byteOf; omega
theorem block_bytes (key : List Int) (ctr : Int) (nonce : List Int) : Bs (block key ctr nonce) := fun z hz => by
  obtain ⟨i, _, rfl⟩ := List.mem_map.1 hz
  exact byteOf_bound _ _ _
theorem xors_length (key nonce : List Int) (ctr : Int) (bs : List Int) : (xors key nonce ctr bs).length = bs.length := by simp [xors]
end Go.Proofs.YtjelacblnjbfgaaDoor.Cc
namespace Go.Proofs.YtjelacblnjbfgaaDoor.Cc
open Go.Proofs.YtjelacblnjbfgaaDoor.Sum
def rn (a m : Nat) : Nat := a / 2 ^ m ||| a * 2 ^ (32 - m) % 4294967296
end Go.Proofs.YtjelacblnjbfgaaDoor.Cc
namespace Go.Proofs.YtjelacblnjbfgaaDoor.Cc
open Go.Proofs.YtjelacblnjbfgaaDoor.Sum
theorem stream_bound (key : List Int) (ctr : Int) (nonce : List Int) (i : Nat) : 0 ≤ streamAt key ctr nonce i ∧ streamAt key ctr nonce i ≤ 255 := (block_bytes key (addI ctr ((i / 64 : Nat) : Int)) nonce).at_ (i % 64)
theorem byte_back {x s : Int} (hx : 0 ≤ x ∧ x ≤ 255) (hs : 0 ≤ s ∧ s ≤ 255) : bits .xor .u8 (bits .xor .u8 x s) s = x := by
  have h1 : x.toNat < 256 := by omega
  have h2 : s.toNat < 256 := by omega
  have h3 : x.toNat ^^^ s.toNat < 2 ^ 8 := Nat.xor_lt_two_pow h1 h2
  rw [u8_xor x s (by omega) (by omega) (by omega) (by omega), u8_xor _ s (by omega) (by omega) (by omega) (by omega), Int.toNat_natCast, Nat.xor_assoc, Nat.xor_self, Nat.xor_zero]
  omega
theorem byte_xor_bound {x s : Int} (hx : 0 ≤ x ∧ x ≤ 255) (hs : 0 ≤ s ∧ s ≤ 255) : 0 ≤ bits .xor .u8 x s ∧ bits .xor .u8 x s ≤ 255 := by
  have h3 : x.toNat ^^^ s.toNat < 2 ^ 8 := Nat.xor_lt_two_pow (show x.toNat < 2 ^ 8 by omega) (show s.toNat < 2 ^ 8 by omega)
  rw [u8_xor x s (by omega) (by omega) (by omega) (by omega)]
  omega
theorem xors_get (key nonce : List Int) (ctr : Int) (bs : List Int) {i : Nat} (hi : i < bs.length) : (xors key nonce ctr bs).getD i 0 = bits .xor .u8 (bs.getD i 0) (streamAt key ctr nonce i) := by
  simp [xors, List.getD_eq_getElem?_getD, hi]
theorem xors_bytes (key nonce : List Int) (ctr : Int) {bs : List Int} (h : Bs bs) : Bs (xors key nonce ctr bs) := fun z hz => by
  obtain ⟨i, _, rfl⟩ := List.mem_map.1 hz
  exact byte_xor_bound (h.at_ i) (stream_bound _ _ _ _)
theorem list_eq {xs ys : List Int} (hl : xs.length = ys.length) (h : ∀ i, i < xs.length → xs.getD i 0 = ys.getD i 0) : xs = ys := by
  apply List.ext_getElem hl
  intro i h1 h2
  have := h i h1
  simpa [List.getD_eq_getElem?_getD, h1, h2] using this
theorem xors_back (key nonce : List Int) (ctr : Int) {bs : List Int} (h : Bs bs) : xors key nonce ctr (xors key nonce ctr bs) = bs := by
  refine list_eq (by rw [xors_length, xors_length]) fun i hi => ?_
  rw [xors_length, xors_length] at hi
  rw [xors_get _ _ _ _ (by rw [xors_length]; exact hi), xors_get _ _ _ _ hi, byte_back (h.at_ i) (stream_bound _ _ _ _)]
theorem getD_left {xs ys : List Int} {i : Nat} (h : i < xs.length) : (xs ++ ys).getD i 0 = xs.getD i 0 := by simp [List.getD_eq_getElem?_getD, List.getElem?_append_left h]
theorem getD_last {xs : List Int} {y : Int} {i : Nat} (h : i = xs.length) : (xs ++ [y]).getD i 0 = y := by subst h; simp [List.getD_eq_getElem?_getD]
theorem xors_snoc (key nonce : List Int) (c : Int) (bs : List Int) {k : Nat} (hk : k < bs.length) : xors key nonce c (bs.take (k + 1)) = xors key nonce c (bs.take k) ++ [bits .xor .u8 (bs.getD k 0) (streamAt key c nonce k)] := by
  have l1 : (bs.take (k + 1)).length = k + 1 := by rw [List.length_take]; omega
  have l0 : (bs.take k).length = k := by rw [List.length_take]; omega
  refine list_eq (by rw [xors_length, List.length_append, xors_length, l1, l0]; rfl) fun i hi => ?_
  rw [xors_length, l1] at hi
  rw [xors_get _ _ _ _ (by omega)]
  have e1 : (bs.take (k + 1)).getD i 0 = bs.getD i 0 := by simp [List.getD_eq_getElem?_getD, hi]
  rw [e1]
  by_cases h : i < k
  · rw [getD_left (by rw [xors_length, l0]; exact h), xors_get _ _ _ _ (by omega)]
    congr 1
    simp [List.getD_eq_getElem?_getD, h]
  · have e : i = k := by omega
    subst e
    rw [getD_last (by rw [xors_length, l0])]
end Go.Proofs.YtjelacblnjbfgaaDoor.Cc
