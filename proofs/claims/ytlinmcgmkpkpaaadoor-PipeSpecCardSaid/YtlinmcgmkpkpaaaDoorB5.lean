/-
  Package record's Pack and Take, by their contracts.
  Records as plain things, lists of them in memory, cell by cell; a call of a function value within a region that draws its order: no program here but the type of a record.
  Programs of layer 11 as plain functions: which may be, what each operation makes of its numbers, what a part leaves in its registers and emits: no program here but the kinds of its lists.
  Package vm's same, pick, result and emitted, by their contracts.
  Package vm's mayStand, by its contract.
  The functions Same and Plain of package dominohelp on records, by their contracts.
  The functions Own and Kept of package dominohelp on records, by their contracts.
  Package record's Take, by its contract.
  A number's eight bytes, numbers' bytes, and a number of bytes, by the document's own, by their contracts: with no other layer.
  Slices cut: s[:h] and s[l:] by their run, and what they read as.
  The document's own Ahead, Before, Pack and Take of records, and the laws' first line, by their contracts.
  The document's own may, Size and Pack of blocks, by their contracts.
  The document's own Size of blocks (package dominoref10) by its contract.
  Where every activation may run, what is shown of one operation without a fence holds within a round, and within an iterator, too: no program here.
  Package block: which sizes may be, how long blocks are, and the iterator over records with dead ones behind them, by their contracts.
  Package vm's iterator over a part's operations, by its contract: it hands out each of them, in order, till it is told to stop.
-/
import Derived.Test.YtlinmcgmkpkpaaaDoorB4
import Derived.Test.YtlinmcgmkpkpaaaDoorB3
import Derived.Deep.MidRow
import Derived.Test.YtlinmcgmkpkpaaaDoorB2
import Derived.Laws.Bits128
import Derived.Test.YtlinmcgmkpkpaaaDoorB1
import Derived.WalkMore
import Derived.OwnWalk
import Derived.Lib.BufferOwn
import Derived.Maps.AppendAt
import Derived.Great.BuildSlice
import Derived.Laws.Slices
import Derived.BigQuiet
set_option linter.unusedVariables false
namespace Go.Proofs.YtlinmcgmkpkpaaaDoor.Rc
open Go.RowKit Go.Shelf Go.Proofs.YtlinmcgmkpkpaaaDoor Mem Help Go.Proofs.YtlinmcgmkpkpaaaDoor.Sum Po Ky Ct Go.Proofs.YtlinmcgmkpkpaaaDoor.Bit Held Go.Proofs.YtlinmcgmkpkpaaaDoor.Range
attribute [local go_sem] Oper.semAt_some
attribute [local irreducible] wpList wpListIn Calls
def zd (d : Bool) (x : Int) : Int := if d = true then 0 else x
def packed (d : Bool) (k v s : Int) : List Int := eights (numbers d (zd d k) (zd d v) (zd d s))
theorem row_own {W W' : World} {g : Nat} {t : TypeId} {k : IntKind} {zs : List Int} {row : Option Nat} (h : Row W g t k zs) (hg : W.grownBy W' row) {B : Nat} (hr : ∀ r, row = some r → B ≤ r ∧ ∃ o : Obj, W.heap[r]? = some o ∧ o.isCells = false) : Row W' g t k zs :=
  h.grown hg (fun e => by
    obtain ⟨_, o, ho, hc⟩ := hr g e.symm
    rw [h.2] at ho
    cases ho
    cases hc)
theorem blk_own {W W' : World} {g : Nat} {t : TypeId} {cs : Array Value} {row : Option Nat} (h : Blk W g t cs) (hg : W.grownBy W' row) {B : Nat} (hr : ∀ r, row = some r → B ≤ r ∧ ∃ o : Obj, W.heap[r]? = some o ∧ o.isCells = false) : Blk W' g t cs :=
  h.grown hg (fun e => by
    obtain ⟨_, o, ho, hc⟩ := hr g e.symm
    have h' : W.heap[g]? = some (.cells cs t (0, 0)) := h
    rw [h'] at ho
    cases ho
    cases hc)
def PInv (w : World) (gr gb p : Nat) (d : Bool) (k v s : Int) (pre : List Nat) (W : World) : Prop :=
  Row W gb 22 .u8 (blend (packed d k v s) (List.replicate 32 0) (8 * pre.length)) ∧ Row W gr 22 .u8 (List.replicate 32 0) ∧ Row W p 142 .u64 (numbers d (zd d k) (zd d v) (zd d s)) ∧ Below w.heap.size w W
theorem PInv.own (w : World) (gr gb p : Nat) (d : Bool) (k v s : Int) {B : Nat} (hB : w.heap.size ≤ B) : OwnFrom B (PInv w gr gb p d k v s) := fun pre W W' row ⟨h1, h2, h3, h4⟩ hg hr =>
  ⟨row_own h1 hg hr, row_own h2 hg hr, row_own h3 hg hr, h4.grown hg h4.size (fun r e => Nat.le_trans hB (hr r e).1)⟩
end Go.Proofs.YtlinmcgmkpkpaaaDoor.Rc
namespace Go.Proofs.YtlinmcgmkpkpaaaDoor.Rs
open Go.RowKit Go.Shelf Mem Held Rc
structure R where
  d : Bool
  k : Int
  v : Int
  s : Int
theorem R.eq {a b : R} (h1 : a.d = b.d) (h2 : a.k = b.k) (h3 : a.v = b.v) (h4 : a.s = b.s) : a = b := by
  cases a
  cases b
  simp_all
instance decR : DecidableEq R := fun a b =>
  if h : a.d = b.d ∧ a.k = b.k ∧ a.v = b.v ∧ a.s = b.s then .isTrue (R.eq h.1 h.2.1 h.2.2.1 h.2.2.2)
  else .isFalse fun e => h (by rw [e]; exact ⟨rfl, rfl, rfl, rfl⟩)
def R.wf (r : R) : Prop := (Lit.int .i64 r.k).wf = true ∧ (Lit.int .i64 r.v).wf = true ∧ (Lit.int .i64 r.s).wf = true
def R.cells (r : R) : List Value := [.bool r.d, .int .i64 r.k, .int .i64 r.v, .int .i64 r.s]
def R0 : R := ⟨false, 0, 0, 0⟩
def RD : R := ⟨true, 0, 0, 0⟩
def R.zd (r : R) : R := ⟨r.d, Rc.zd r.d r.k, Rc.zd r.d r.v, Rc.zd r.d r.s⟩
def flat (rs : List R) : List Value := rs.flatMap R.cells
theorem flat_length : ∀ rs : List R, (flat rs).length = rs.length * 4
  | [] => rfl
  | r :: rs => by
    have := flat_length rs
    simp only [flat, List.flatMap_cons, List.length_append, List.length_cons, R.cells, List.length_nil] at this ⊢
    omega
theorem flat_append (rs qs : List R) : flat (rs ++ qs) = flat rs ++ flat qs := by simp [flat]
theorem flat_at : ∀ (rs : List R) (i j : Nat), j < 4 → i < rs.length → (flat rs)[i * 4 + j]? = (rs.getD i R0).cells[j]?
  | [], i, j, _, h => absurd h (by simp)
  | r :: rs, 0, j, hj, _ => by
    simp only [flat, List.flatMap_cons, Nat.zero_mul, Nat.zero_add, List.getD_cons_zero]
    rw [List.getElem?_append_left (by simp [R.cells]; omega)]
  | r :: rs, i + 1, j, hj, h => by
    have := flat_at rs i j hj (by simpa using h)
    simp only [flat, List.flatMap_cons, List.getD_cons_succ] at this ⊢
    rw [List.getElem?_append_right (by simp [R.cells]; omega), show (i + 1) * 4 + j - r.cells.length = i * 4 + j by simp [R.cells]; omega, this]
def Recs (w : World) (B : Nat) (A : Option Addr) (n : Nat) (rs : List R) : Prop :=
  rs.length = n ∧ (∀ r ∈ rs, r.wf) ∧ (0 < n → ∃ b off, A = some ⟨b, off, none⟩ ∧ b < B ∧ w.rangeAt b off (flat rs))
section
variable {w w' : World} {B B' n : Nat} {A : Option Addr} {rs : List R}
theorem Recs.nil (w : World) (B : Nat) (A : Option Addr) : Recs w B A 0 [] := ⟨rfl, by simp, fun h => absurd h (by omega)⟩
theorem Recs.keep (h : Recs w B A n rs) (hk : ∀ p : Addr, p.block < B → w'.cell? p = w.cell? p) : Recs w' B A n rs :=
  ⟨h.1, h.2.1, fun hn => by
    obtain ⟨b, off, e, hb, hc⟩ := h.2.2 hn
    exact ⟨b, off, e, hb, fun j v hv => (hk ⟨b, off + j, none⟩ hb).trans (hc j v hv)⟩⟩
theorem Recs.more (h : Recs w B A n rs) (hB : B ≤ B') : Recs w B' A n rs :=
  ⟨h.1, h.2.1, fun hn => by
    obtain ⟨b, off, e, hb, hc⟩ := h.2.2 hn
    exact ⟨b, off, e, by omega, hc⟩⟩
theorem Recs.below (h : Recs w B A n rs) (hb : Below B w w') : Recs w' B A n rs := h.keep fun _ hp => hb.cell hp
theorem Recs.at_ (h : Recs w B A n rs) {i : Nat} (hi : i < n) : ∃ b off, A = some ⟨b, off, none⟩ ∧ b < B ∧ w.rangeAt b (off + i * 4) (rs.getD i R0).cells := by
  obtain ⟨b, off, e, hb, hc⟩ := h.2.2 (by omega)
  refine ⟨b, off, e, hb, fun j v hv => ?_⟩
  have hj : j < 4 := by have := (List.getElem?_eq_some_iff.1 hv).1; simpa [R.cells] using this
  rw [Nat.add_assoc]
  exact hc (i * 4 + j) v (by rw [flat_at rs i j hj (by rw [h.1]; exact hi)]; exact hv)
theorem Recs.wf_at (h : Recs w B A n rs) {i : Nat} (hi : i < n) : (rs.getD i R0).wf := by
  have hl : i < rs.length := by rw [h.1]; exact hi
  rw [List.getD_eq_getElem?_getD, List.getElem?_eq_getElem hl]
  exact h.2.1 _ (List.getElem_mem _)
end
section
variable {P : Program} {ops : Array Oper} {Q : Exit → Act → World → Prop}
theorem op_callv (i : Nat) (d : Option Tmp) {o : Oper} {a : Act} {w : World} {K : Act → World → Prop} (f : FuncId) (lb vals : Array Value) {y : Operand} {xs : Array Operand} {ts : Array TypeId} {R : Ending → World → Prop} (hi : ops[i]? = some o) (hd : o.dst = d) (hw : Region.wanted o (yielded ops a.tmps) = true)
    (ho : o.op = .call { callee := .value y, args := xs, argTypes := ts }) (hy : a.eval y = .func (.func f) #[] lb) (he : Enters P f) (hv : xs.map a.eval = vals)
    (hc : Calls P f (vals ++ lb) w R)
    (h : ∀ e w', R e w' → ∃ v, e = .returned v ∧ K (a.put d v) w') : wpOp P ops Q i K a w := by
  subst hd
  refine op_wp i hi hw ?_
  have hrun : (execOp a.eval o).run P w = .ok (.enter f (vals ++ lb)) w := by
    unfold execOp
    simp only [ho, resolve, hy, Deferred.ofValue, Sem.run_bind, Sem.run_pure, Result.andThen_ok, invoke, Array.empty_append, hv]
    exact he _ _
  unfold Oper.wp
  rw [hrun, Oper.upon_enter]
  refine hc.mono fun e w' hR => ?_
  obtain ⟨v, rfl, hW⟩ := h e w' hR
  exact hW
end
section
variable {P : Program} {S : World → Prop} {ρ : Operand → Value} {o : Oper}
theorem run_addr_of (t e : TypeId) (b off len cap i s : Nat) (k : IntKind) (ht : P.underlying t = some (.slice e)) (hs : (P.info? e).map (·.size) = some s) (hi : i < len) (w : World) :
    (Instr.indexAt t (.slice (some ⟨b, off, none⟩) len cap) (.int k (i : Int))).run P w = .ok (.pointer (some ⟨b, off + i * s, none⟩)) w := by
  have he : P.elem t = e := by simp [Program.elem, ht]
  have hz : (sizeOf e).run P w = .ok s w := by
    cases hq : P.info? e with
    | none => simp [hq] at hs
    | some q => simp [hq] at hs; simp [sizeOf, typeInfo, hq, hs]
  have ea : (Addr.mk b off none).add (i * s) = ⟨b, off + i * s, none⟩ := by unfold Addr.add; split <;> simp_all
  rw [run_indexAt_slice w t ⟨b, off, none⟩ len cap k (i : Int) (by rw [he]; exact ht), he, if_pos ⟨by omega, by omega⟩, hz]
  simp [Result.andThen, ea]
theorem y_load_range {ty : TypeId} {x : Operand} {b off n : Nat} {cs : List Value} {d : TypeDesc} (ho : o.op = .load ty x) (hx : ρ x = .pointer (some ⟨b, off, none⟩)) (hu : P.underlying ty = some d) (hd : d.isRow = true) (hi : (P.info? ty).map (·.size) = some n) (hn : cs.length = n)
    (hr : ∀ w, S w → w.rangeAt b off cs) : ∀ w, S w → (execOp ρ o).run P w = .ok (.value (.agg cs.toArray)) w := fun w hw => by
  have h := run_loadAt_mid (P := P) w b off ty cs d (hr w hw) hu hd (by rw [hi, hn])
  simp [execOp, ho, hx, h]
end
end Go.Proofs.YtlinmcgmkpkpaaaDoor.Rs
namespace Go.Proofs.YtlinmcgmkpkpaaaDoor.Vm
open Go.RowKit Go.Shelf Mem Held Rc Rs Sl
structure O where
  code : Int
  d : Int
  a : Int
  b : Int
  c : Int
  n : Int
def O.wf (o : O) : Prop := (Lit.int .i64 o.code).wf = true ∧ (Lit.int .i64 o.d).wf = true ∧ (Lit.int .i64 o.a).wf = true ∧ (Lit.int .i64 o.b).wf = true ∧ (Lit.int .i64 o.c).wf = true ∧ (Lit.int .i64 o.n).wf = true
def O.cells (o : O) : List Value := [.int .i64 o.code, .int .i64 o.d, .int .i64 o.a, .int .i64 o.b, .int .i64 o.c, .int .i64 o.n]
def O0 : O := ⟨0, 0, 0, 0, 0, 0⟩
theorem O.ext' {x y : O} (h1 : x.code = y.code) (h2 : x.d = y.d) (h3 : x.a = y.a) (h4 : x.b = y.b) (h5 : x.c = y.c) (h6 : x.n = y.n) : x = y := by
  cases x
  cases y
  simp_all
instance decO : DecidableEq O := fun x y =>
  if h : x.code = y.code ∧ x.d = y.d ∧ x.a = y.a ∧ x.b = y.b ∧ x.c = y.c ∧ x.n = y.n then .isTrue (O.ext' h.1 h.2.1 h.2.2.1 h.2.2.2.1 h.2.2.2.2.1 h.2.2.2.2.2)
  else .isFalse fun e => h (by rw [e]; exact ⟨rfl, rfl, rfl, rfl, rfl, rfl⟩)
theorem cells_one (o : O) : ∀ u ∈ o.cells, u.oneCell' = true := fun u hu => by
  simp only [O.cells, List.mem_cons, List.not_mem_nil, or_false] at hu
  rcases hu with rfl | rfl | rfl | rfl | rfl | rfl <;> rfl
theorem rcells_one (r : R) : ∀ u ∈ r.cells, u.oneCell' = true := fun u hu => by
  simp only [R.cells, List.mem_cons, List.not_mem_nil, or_false] at hu
  rcases hu with rfl | rfl | rfl | rfl <;> rfl
def kO : St O := ⟨6, O.cells, O.wf, O0, fun _ => rfl, cells_one, by omega⟩
def kR : St R := ⟨4, R.cells, R.wf, R0, fun _ => rfl, rcells_one, by omega⟩
def isReg (x : Int) : Bool := decide (0 ≤ x) && decide (x < 8)
def mayO (o : O) (k : Int) : Bool := decide (1 ≤ o.code) && decide (o.code ≤ 12) && isReg o.d && isReg o.a && isReg o.b && isReg o.c && (!decide (o.code = 12) || (decide (0 ≤ o.n) && decide (o.n < k)))
def mayP (l : List O) (k : Int) : Bool := decide (l.length ≤ 40) && l.all (mayO · k)
def checkB (K : Int) (m f e : List O) : Bool := decide (1 ≤ K) && decide (K ≤ 4) && mayP m K && mayP f 0 && mayP e 0
def checkE (K : Int) (m f e : List O) : Int := if checkB K m f e = true then 0 else 8
def reg (r : List Int) (i : Int) : Int := r.getD i.toNat 0
def opV (o : O) (a b c : Int) : Int :=
  if o.code = 1 then o.n else if o.code = 2 then wrap64 (a + b) else if o.code = 3 then wrap64 (a - b) else if o.code = 4 then wrap64 (a * b)
  else if o.code = 5 then bits .and .i64 a b else if o.code = 6 then bits .or .i64 a b else if o.code = 7 then bits .xor .i64 a b
  else if o.code = 8 then (if a < b then 1 else 0) else if o.code = 9 then (if a = b then 1 else 0) else if o.code = 10 then (if a = 0 then c else b)
  else a / 2 ^ (b % 64).toNat
def stepR (o : O) (r : List Int) : List Int := if o.code = 12 then r else r.set o.d.toNat (opV o (reg r o.a) (reg r o.b) (reg r o.c))
def emitR (first : Int) (o : O) (r : List Int) : R := if reg r o.c = 0 then RD else ⟨false, reg r o.a, reg r o.b, wrap64 (first + o.n)⟩
def stepOut (first : Int) (o : O) (r : List Int) (out : List R) : List R := if o.code = 12 then out.set o.n.toNat (emitR first o r) else out
def runR : List O → List Int → List Int
  | [], r => r
  | o :: l, r => runR l (stepR o r)
def runOut (first : Int) : List O → List Int → List R → List R
  | [], _, out => out
  | o :: l, r, out => runOut first l (stepR o r) (stepOut first o r out)
theorem runR_append : ∀ (l m : List O) (r : List Int), runR (l ++ m) r = runR m (runR l r)
  | [], _, _ => rfl
  | o :: l, m, r => runR_append l m (stepR o r)
theorem runOut_append (first : Int) : ∀ (l m : List O) (r : List Int) (out : List R), runOut first (l ++ m) r out = runOut first m (runR l r) (runOut first l r out)
  | [], _, _, _ => rfl
  | o :: l, m, r, out => runOut_append first l m (stepR o r) (stepOut first o r out)
theorem stepR_length (o : O) (r : List Int) : (stepR o r).length = r.length := by
  unfold stepR
  split
  · rfl
  · simp
theorem runR_length : ∀ (l : List O) (r : List Int), (runR l r).length = r.length
  | [], _ => rfl
  | o :: l, r => by rw [runR, runR_length l, stepR_length]
theorem stepOut_length (first : Int) (o : O) (r : List Int) (out : List R) : (stepOut first o r out).length = out.length := by
  unfold stepOut
  split
  · simp
  · rfl
theorem runOut_length (first : Int) : ∀ (l : List O) (r : List Int) (out : List R), (runOut first l r out).length = out.length
  | [], _, _ => rfl
  | o :: l, r, out => by rw [runOut, runOut_length first l, stepOut_length]
def foldV (K : Int) (m f e : List O) (a v : Int) : Int := if checkB K m f e = true then reg (runR f [a, v, 0, 0, 0, 0, 0, 0]) 0 else 0
def finishV (K : Int) (m f e : List O) (key v : Int) : Int := if checkB K m f e = true then reg (runR e [v, key, 0, 0, 0, 0, 0, 0]) 0 else 0
def mapR (K : Int) (m f e : List O) (n key val : Int) : List R := if checkB K m f e = true then runOut (wrap64 (n * K)) m [key, val, n, 0, 0, 0, 0, 0] (List.replicate K.toNat RD) else []
theorem mapR_length (K : Int) (m f e : List O) (n key val : Int) : (mapR K m f e n key val).length ≤ 4 := by
  unfold mapR
  split
  · rename_i h
    have hK : K ≤ 4 := by
      simp only [checkB, Bool.and_eq_true, decide_eq_true_eq] at h
      exact h.1.1.1.2
    rw [runOut_length, List.length_replicate]
    omega
  · simp
theorem bad_all {l : List O} {k : Int} {i : Nat} (hi : i < l.length) (h : mayO (l.getD i O0) k = false) : mayP l k = false := by
  unfold mayP
  have : l.all (mayO · k) = false := by
    cases hq : l.all (mayO · k)
    · rfl
    · have hm := List.all_eq_true.1 hq (l.getD i O0) (by rw [List.getD_eq_getElem?_getD, List.getElem?_eq_getElem hi]; exact List.getElem_mem _)
      rw [h] at hm
      cases hm
  rw [this, Bool.and_false]
end Go.Proofs.YtlinmcgmkpkpaaaDoor.Vm
namespace Go.Proofs.YtlinmcgmkpkpaaaDoor.Vm
open Go.RowKit Go.Shelf Go.Proofs.YtlinmcgmkpkpaaaDoor Mem Ct Go.Proofs.YtlinmcgmkpkpaaaDoor.Bit Held Rc Rs Sl
attribute [local irreducible] wpList wpListIn Calls
theorem w64 (n : Int) : IntKind.i64.wrap n = wrap64 n := by rw [IntKind.wrap_i64]; unfold wrap64; omega
theorem vsame_any (x y : Int) (hx : (Lit.int .i64 x).wf = true) (hy : (Lit.int .i64 y).wf = true) (w : World) :
    Calls Tryd.prog 100 #[.int .i64 x, .int .i64 y] w fun e w' => e = .returned (.int .u64 (oneI (decide (x = y)))) ∧ Below w.heap.size w w' := by
  have hxu := u64_wf x
  have hyu := u64_wf y
  have HE := Lib.hid (show decide (u64 x = u64 y) = decide (x = y) by simp only [u64_inj hx hy])
  have e1 := u64_eq x
  have e2 := u64_eq y
  go_enter Tryd.func100, Tryd.ntmps100
  go_wp2_with fail
  refine (same_b (u64 x) (u64 y) hxu hyu w).mono ?_
  rintro e w1 ⟨rfl, b1⟩
  rw [HE.out]
  go_wp2_with fail
  go_ret
  exact ⟨rfl, b1⟩
def pk (c : Bool) (x y : Int) : Int := if c = true then x else y
theorem vpick_any (c : Bool) (x y : Int) (hx : (Lit.int .i64 x).wf = true) (hy : (Lit.int .i64 y).wf = true) (w : World) :
    Calls Tryd.prog 101 #[.int .u64 (oneI c), .int .i64 x, .int .i64 y] w fun e w' => e = .returned (.int .i64 (pk c x y)) ∧ Below w.heap.size w w' := by
  have hxu := u64_wf x
  have hyu := u64_wf y
  have hc := Rc.one_wf c
  have HE := Lib.hid (show wrap64 (pickI (oneI c) (u64 x) (u64 y)) = pk c x y by
    have h1 := i64_u64 hx
    have h2 := i64_u64 hy
    rw [w64] at h1 h2
    cases c <;> simp [pickI, oneI, pk, h1, h2])
  have e1 := u64_eq x
  have e2 := u64_eq y
  generalize oneI c = d at hc HE ⊢
  go_enter Tryd.func101, Tryd.ntmps101
  go_wp2_with fail
  refine (pick_b d (u64 x) (u64 y) hc hxu hyu w).mono ?_
  rintro e w1 ⟨rfl, b1⟩
  generalize pickI d (u64 x) (u64 y) = z at HE ⊢
  go_wp2_with fail
  go_ret
  exact ⟨Mem.ret_int HE.out, b1⟩
theorem one_i64 (b : Bool) : IntKind.i64.wrap (oneI b) = oneI b := by cases b <;> rfl
theorem low6 (b : Int) (hb : (Lit.int .i64 b).wf = true) : bits .and .u64 (IntKind.u64.wrap b) 63 = (((b % 64).toNat : Nat) : Int) := by
  have := Po.mask_u64 (IntKind.u64.wrap b) 6 (by rw [IntKind.wrap_u64]; omega) (by rw [IntKind.wrap_u64]; omega) (by omega)
  have e : ((2 : Int) ^ 6 - 1) = 63 := by decide
  rw [e] at this
  rw [this, IntKind.wrap_u64]
  omega
set_option maxRecDepth 100000 in
set_option maxHeartbeats 4000000 in
theorem result_any (o : O) (a b c : Int) (w : World) (ha : (Lit.int .i64 a).wf = true) (hb : (Lit.int .i64 b).wf = true) (hc : (Lit.int .i64 c).wf = true) (h1 : 1 ≤ o.code) (h2 : o.code ≤ 11) :
    Calls Tryd.prog 87 #[.agg #[.int .i64 o.code, .int .i64 o.d, .int .i64 o.a, .int .i64 o.b, .int .i64 o.c, .int .i64 o.n], .int .i64 a, .int .i64 b, .int .i64 c] w fun e w' => e = .returned (.int .i64 (opV o a b c)) ∧ Below w.heap.size w w' := by
  obtain ⟨code, d, ra, rb, rc, n⟩ := o
  simp only at h1 h2 ⊢
  rcases (show code = 1 ∨ code = 2 ∨ code = 3 ∨ code = 4 ∨ code = 5 ∨ code = 6 ∨ code = 7 ∨ code = 8 ∨ code = 9 ∨ code = 10 ∨ code = 11 by omega) with rfl | rfl | rfl | rfl | rfl | rfl | rfl | rfl | rfl | rfl | rfl
  · go_enter Tryd.func87, Tryd.ntmps87
    go_wp2_with (first
      | (refine wpList_box_blk (w := w) rfl 58 _ rfl #[.int .i64 1, .int .i64 d, .int .i64 ra, .int .i64 rb, .int .i64 rc, .int .i64 n] rfl ?_; intro w1 q1 g1 z1; have b1 : Below w.heap.size w w1 := (Below.refl _ w).grown g1 (Nat.le_refl _) (by simp); have hc0 := q1.cell (i := 0) rfl; have hc5 := q1.cell (i := 5) rfl; clear q1 g1 z1)
      | (refine wpList_run (w := w1) rfl (v := .pointer (some ⟨w.heap.size, 0, none⟩)) (Held.y_field (S := fun _ => True) (k := 0) (s := 0) rfl rfl Tryd.underlying58 rfl (by kernel_rfl) rfl _ trivial) ?_)
      | (refine wpList_run (w := w1) rfl (v := .pointer (some ⟨w.heap.size, 5, none⟩)) (Held.y_field (S := fun _ => True) (k := 5) (s := 0) rfl rfl Tryd.underlying58 rfl (by kernel_rfl) rfl _ trivial) ?_))
    go_ret
    exact ⟨rfl, b1⟩
  · go_enter Tryd.func87, Tryd.ntmps87
    go_wp2_with (first
      | (refine wpList_box_blk (w := w) rfl 58 _ rfl #[.int .i64 2, .int .i64 d, .int .i64 ra, .int .i64 rb, .int .i64 rc, .int .i64 n] rfl ?_; intro w1 q1 g1 z1; have b1 : Below w.heap.size w w1 := (Below.refl _ w).grown g1 (Nat.le_refl _) (by simp); have hc0 := q1.cell (i := 0) rfl; have hc5 := q1.cell (i := 5) rfl; clear q1 g1 z1)
      | (refine wpList_run (w := w1) rfl (v := .pointer (some ⟨w.heap.size, 0, none⟩)) (Held.y_field (S := fun _ => True) (k := 0) (s := 0) rfl rfl Tryd.underlying58 rfl (by kernel_rfl) rfl _ trivial) ?_)
      | (refine wpList_run (w := w1) rfl (v := .pointer (some ⟨w.heap.size, 5, none⟩)) (Held.y_field (S := fun _ => True) (k := 5) (s := 0) rfl rfl Tryd.underlying58 rfl (by kernel_rfl) rfl _ trivial) ?_))
    go_ret
    exact ⟨rfl, b1⟩
  · go_enter Tryd.func87, Tryd.ntmps87
    go_wp2_with (first
      | (refine wpList_box_blk (w := w) rfl 58 _ rfl #[.int .i64 3, .int .i64 d, .int .i64 ra, .int .i64 rb, .int .i64 rc, .int .i64 n] rfl ?_; intro w1 q1 g1 z1; have b1 : Below w.heap.size w w1 := (Below.refl _ w).grown g1 (Nat.le_refl _) (by simp); have hc0 := q1.cell (i := 0) rfl; have hc5 := q1.cell (i := 5) rfl; clear q1 g1 z1)
      | (refine wpList_run (w := w1) rfl (v := .pointer (some ⟨w.heap.size, 0, none⟩)) (Held.y_field (S := fun _ => True) (k := 0) (s := 0) rfl rfl Tryd.underlying58 rfl (by kernel_rfl) rfl _ trivial) ?_)
      | (refine wpList_run (w := w1) rfl (v := .pointer (some ⟨w.heap.size, 5, none⟩)) (Held.y_field (S := fun _ => True) (k := 5) (s := 0) rfl rfl Tryd.underlying58 rfl (by kernel_rfl) rfl _ trivial) ?_))
    go_ret
    exact ⟨rfl, b1⟩
  · go_enter Tryd.func87, Tryd.ntmps87
    go_wp2_with (first
      | (refine wpList_box_blk (w := w) rfl 58 _ rfl #[.int .i64 4, .int .i64 d, .int .i64 ra, .int .i64 rb, .int .i64 rc, .int .i64 n] rfl ?_; intro w1 q1 g1 z1; have b1 : Below w.heap.size w w1 := (Below.refl _ w).grown g1 (Nat.le_refl _) (by simp); have hc0 := q1.cell (i := 0) rfl; have hc5 := q1.cell (i := 5) rfl; clear q1 g1 z1)
      | (refine wpList_run (w := w1) rfl (v := .pointer (some ⟨w.heap.size, 0, none⟩)) (Held.y_field (S := fun _ => True) (k := 0) (s := 0) rfl rfl Tryd.underlying58 rfl (by kernel_rfl) rfl _ trivial) ?_)
      | (refine wpList_run (w := w1) rfl (v := .pointer (some ⟨w.heap.size, 5, none⟩)) (Held.y_field (S := fun _ => True) (k := 5) (s := 0) rfl rfl Tryd.underlying58 rfl (by kernel_rfl) rfl _ trivial) ?_))
    go_ret
    exact ⟨rfl, b1⟩
  · go_enter Tryd.func87, Tryd.ntmps87
    go_wp2_with (first
      | (refine wpList_box_blk (w := w) rfl 58 _ rfl #[.int .i64 5, .int .i64 d, .int .i64 ra, .int .i64 rb, .int .i64 rc, .int .i64 n] rfl ?_; intro w1 q1 g1 z1; have b1 : Below w.heap.size w w1 := (Below.refl _ w).grown g1 (Nat.le_refl _) (by simp); have hc0 := q1.cell (i := 0) rfl; have hc5 := q1.cell (i := 5) rfl; clear q1 g1 z1)
      | (refine wpList_run (w := w1) rfl (v := .pointer (some ⟨w.heap.size, 0, none⟩)) (Held.y_field (S := fun _ => True) (k := 0) (s := 0) rfl rfl Tryd.underlying58 rfl (by kernel_rfl) rfl _ trivial) ?_)
      | (refine wpList_run (w := w1) rfl (v := .pointer (some ⟨w.heap.size, 5, none⟩)) (Held.y_field (S := fun _ => True) (k := 5) (s := 0) rfl rfl Tryd.underlying58 rfl (by kernel_rfl) rfl _ trivial) ?_))
    go_ret
    exact ⟨rfl, b1⟩
  · go_enter Tryd.func87, Tryd.ntmps87
    go_wp2_with (first
      | (refine wpList_box_blk (w := w) rfl 58 _ rfl #[.int .i64 6, .int .i64 d, .int .i64 ra, .int .i64 rb, .int .i64 rc, .int .i64 n] rfl ?_; intro w1 q1 g1 z1; have b1 : Below w.heap.size w w1 := (Below.refl _ w).grown g1 (Nat.le_refl _) (by simp); have hc0 := q1.cell (i := 0) rfl; have hc5 := q1.cell (i := 5) rfl; clear q1 g1 z1)
      | (refine wpList_run (w := w1) rfl (v := .pointer (some ⟨w.heap.size, 0, none⟩)) (Held.y_field (S := fun _ => True) (k := 0) (s := 0) rfl rfl Tryd.underlying58 rfl (by kernel_rfl) rfl _ trivial) ?_)
      | (refine wpList_run (w := w1) rfl (v := .pointer (some ⟨w.heap.size, 5, none⟩)) (Held.y_field (S := fun _ => True) (k := 5) (s := 0) rfl rfl Tryd.underlying58 rfl (by kernel_rfl) rfl _ trivial) ?_))
    go_ret
    exact ⟨rfl, b1⟩
  · go_enter Tryd.func87, Tryd.ntmps87
    go_wp2_with (first
      | (refine wpList_box_blk (w := w) rfl 58 _ rfl #[.int .i64 7, .int .i64 d, .int .i64 ra, .int .i64 rb, .int .i64 rc, .int .i64 n] rfl ?_; intro w1 q1 g1 z1; have b1 : Below w.heap.size w w1 := (Below.refl _ w).grown g1 (Nat.le_refl _) (by simp); have hc0 := q1.cell (i := 0) rfl; have hc5 := q1.cell (i := 5) rfl; clear q1 g1 z1)
      | (refine wpList_run (w := w1) rfl (v := .pointer (some ⟨w.heap.size, 0, none⟩)) (Held.y_field (S := fun _ => True) (k := 0) (s := 0) rfl rfl Tryd.underlying58 rfl (by kernel_rfl) rfl _ trivial) ?_)
      | (refine wpList_run (w := w1) rfl (v := .pointer (some ⟨w.heap.size, 5, none⟩)) (Held.y_field (S := fun _ => True) (k := 5) (s := 0) rfl rfl Tryd.underlying58 rfl (by kernel_rfl) rfl _ trivial) ?_))
    go_ret
    exact ⟨rfl, b1⟩
  · have HV := Lib.hid (show oneI (decide (a < b)) = opV ⟨8, d, ra, rb, rc, n⟩ a b c by simp [opV, oneI])
    have HO := one_i64 (decide (a < b))
    go_enter Tryd.func87, Tryd.ntmps87
    go_wp2_with (first
      | (refine wpList_box_blk (w := w) rfl 58 _ rfl #[.int .i64 8, .int .i64 d, .int .i64 ra, .int .i64 rb, .int .i64 rc, .int .i64 n] rfl ?_; intro w1 q1 g1 z1; have b1 : Below w.heap.size w w1 := (Below.refl _ w).grown g1 (Nat.le_refl _) (by simp); have hc0 := q1.cell (i := 0) rfl; have hc5 := q1.cell (i := 5) rfl; clear q1 g1 z1)
      | (refine wpList_run (w := w1) rfl (v := .pointer (some ⟨w.heap.size, 0, none⟩)) (Held.y_field (S := fun _ => True) (k := 0) (s := 0) rfl rfl Tryd.underlying58 rfl (by kernel_rfl) rfl _ trivial) ?_)
      | (refine wpList_run (w := w1) rfl (v := .pointer (some ⟨w.heap.size, 5, none⟩)) (Held.y_field (S := fun _ => True) (k := 5) (s := 0) rfl rfl Tryd.underlying58 rfl (by kernel_rfl) rfl _ trivial) ?_))
    refine (below_b a b ha hb w1).mono ?_
    rintro e w2 ⟨rfl, b2⟩
    generalize oneI (decide (a < b)) = z at HV HO ⊢
    go_wp2_with fail
    go_ret
    exact ⟨Mem.ret_int HV.out, b1.trans (b2.mono b1.size)⟩
  · have HV := Lib.hid (show oneI (decide (a = b)) = opV ⟨9, d, ra, rb, rc, n⟩ a b c by simp [opV, oneI])
    have HO := one_i64 (decide (a = b))
    go_enter Tryd.func87, Tryd.ntmps87
    go_wp2_with (first
      | (refine wpList_box_blk (w := w) rfl 58 _ rfl #[.int .i64 9, .int .i64 d, .int .i64 ra, .int .i64 rb, .int .i64 rc, .int .i64 n] rfl ?_; intro w1 q1 g1 z1; have b1 : Below w.heap.size w w1 := (Below.refl _ w).grown g1 (Nat.le_refl _) (by simp); have hc0 := q1.cell (i := 0) rfl; have hc5 := q1.cell (i := 5) rfl; clear q1 g1 z1)
      | (refine wpList_run (w := w1) rfl (v := .pointer (some ⟨w.heap.size, 0, none⟩)) (Held.y_field (S := fun _ => True) (k := 0) (s := 0) rfl rfl Tryd.underlying58 rfl (by kernel_rfl) rfl _ trivial) ?_)
      | (refine wpList_run (w := w1) rfl (v := .pointer (some ⟨w.heap.size, 5, none⟩)) (Held.y_field (S := fun _ => True) (k := 5) (s := 0) rfl rfl Tryd.underlying58 rfl (by kernel_rfl) rfl _ trivial) ?_))
    refine (vsame_any a b ha hb w1).mono ?_
    rintro e w2 ⟨rfl, b2⟩
    generalize oneI (decide (a = b)) = z at HV HO ⊢
    go_wp2_with fail
    go_ret
    exact ⟨Mem.ret_int HV.out, b1.trans (b2.mono b1.size)⟩
  · have HV := Lib.hid (show pk (decide (a = 0)) c b = opV ⟨10, d, ra, rb, rc, n⟩ a b c by simp [opV, pk])
    go_enter Tryd.func87, Tryd.ntmps87
    go_wp2_with (first
      | (refine wpList_box_blk (w := w) rfl 58 _ rfl #[.int .i64 10, .int .i64 d, .int .i64 ra, .int .i64 rb, .int .i64 rc, .int .i64 n] rfl ?_; intro w1 q1 g1 z1; have b1 : Below w.heap.size w w1 := (Below.refl _ w).grown g1 (Nat.le_refl _) (by simp); have hc0 := q1.cell (i := 0) rfl; have hc5 := q1.cell (i := 5) rfl; clear q1 g1 z1)
      | (refine wpList_run (w := w1) rfl (v := .pointer (some ⟨w.heap.size, 0, none⟩)) (Held.y_field (S := fun _ => True) (k := 0) (s := 0) rfl rfl Tryd.underlying58 rfl (by kernel_rfl) rfl _ trivial) ?_)
      | (refine wpList_run (w := w1) rfl (v := .pointer (some ⟨w.heap.size, 5, none⟩)) (Held.y_field (S := fun _ => True) (k := 5) (s := 0) rfl rfl Tryd.underlying58 rfl (by kernel_rfl) rfl _ trivial) ?_))
    refine (vsame_any a 0 ha rfl w1).mono ?_
    rintro e w2 ⟨rfl, b2⟩
    have b2 := b1.trans (b2.mono b1.size)
    go_wp2_with fail
    refine (vpick_any (decide (a = 0)) c b hc hb w2).mono ?_
    rintro e w3 ⟨rfl, b3⟩
    rw [HV.out]
    go_wp2_with fail
    go_ret
    exact ⟨rfl, b2.trans (b3.mono b2.size)⟩
  · have HL := low6 b hb
    have hlt := (show (b % 64).toNat ≤ 63 by omega)
    generalize hS : (b % 64).toNat = sh at HL hlt
    have HV := Lib.hid (show opV ⟨11, d, ra, rb, rc, n⟩ a b c = a / 2 ^ sh by rw [← hS]; rfl)
    rw [HV.out]
    clear HV hS
    go_enter Tryd.func87, Tryd.ntmps87
    go_wp2_with (first
      | (refine wpList_box_blk (w := w) rfl 58 _ rfl #[.int .i64 11, .int .i64 d, .int .i64 ra, .int .i64 rb, .int .i64 rc, .int .i64 n] rfl ?_; intro w1 q1 g1 z1; have b1 : Below w.heap.size w w1 := (Below.refl _ w).grown g1 (Nat.le_refl _) (by simp); have hc0 := q1.cell (i := 0) rfl; have hc5 := q1.cell (i := 5) rfl; clear q1 g1 z1)
      | (refine wpList_run (w := w1) rfl (v := .pointer (some ⟨w.heap.size, 0, none⟩)) (Held.y_field (S := fun _ => True) (k := 0) (s := 0) rfl rfl Tryd.underlying58 rfl (by kernel_rfl) rfl _ trivial) ?_)
      | (refine wpList_run (w := w1) rfl (v := .pointer (some ⟨w.heap.size, 5, none⟩)) (Held.y_field (S := fun _ => True) (k := 5) (s := 0) rfl rfl Tryd.underlying58 rfl (by kernel_rfl) rfl _ trivial) ?_)
      | (refine wpList_shr (w := w1) rfl _ _ _ _ rfl .i64 .u64 a (a / 2 ^ sh) sh rfl rfl (by simp [IntKind.bits]; omega) rfl ?_))
    go_ret
    exact ⟨rfl, b1⟩
def emV (k v al s : Int) : R := ⟨decide (al = 0), pk (decide (al = 0)) 0 k, pk (decide (al = 0)) 0 v, pk (decide (al = 0)) 0 s⟩
theorem emV_emitR (first : Int) (o : O) (r : List Int) : emV (reg r o.a) (reg r o.b) (reg r o.c) (wrap64 (first + o.n)) = emitR first o r := by
  unfold emV emitR pk
  by_cases h : reg r o.c = 0
  · rw [if_pos h]
    simp [h, RD]
  · rw [if_neg h]
    simp [h]
set_option maxRecDepth 100000 in
set_option maxHeartbeats 4000000 in
theorem emitted_any (k v al s : Int) (w : World) (hk : (Lit.int .i64 k).wf = true) (hv : (Lit.int .i64 v).wf = true) (ha : (Lit.int .i64 al).wf = true) (hs : (Lit.int .i64 s).wf = true) :
    Calls Tryd.prog 86 #[.int .i64 k, .int .i64 v, .int .i64 al, .int .i64 s] w fun e w' => e = .returned (.agg (emV k v al s).cells.toArray) ∧ Below w.heap.size w w' := by
  have HE := Lib.hid (show (emV k v al s).cells.toArray = #[.bool (decide (al = 0)), .int .i64 (pk (decide (al = 0)) 0 k), .int .i64 (pk (decide (al = 0)) 0 v), .int .i64 (pk (decide (al = 0)) 0 s)] from rfl)
  go_enter Tryd.func86, Tryd.ntmps86
  go_wp2_with (refine wpList_alloc_blk (w := w) rfl 51 rfl _ zero_rec ?_; intro w1 q1 g1 z1)
  have b1 : Below w.heap.size w w1 := (Below.refl _ w).grown g1 (Nat.le_refl _) (by simp)
  clear g1 z1
  refine (vsame_any al 0 ha rfl w1).mono ?_
  rintro e w2 ⟨rfl, b2⟩
  have q2 := q1.after b2
  have b2 := b1.trans (b2.mono b1.size)
  clear q1 b1
  have HO := Lib.hid (show (oneI (decide (al = 0)) == 1) = decide (al = 0) by cases decide (al = 0) <;> rfl)
  generalize decide (al = 0) = d at HO HE ⊢
  go_wp2_with fail
  rw [HO.out]
  refine (vpick_any d 0 k rfl hk w2).mono ?_
  rintro e w3 ⟨rfl, b3⟩
  have q3 := q2.after b3
  have b3 := b2.trans (b3.mono b2.size)
  clear q2 b2
  go_wp2_with fail
  refine (vpick_any d 0 v rfl hv w3).mono ?_
  rintro e w4 ⟨rfl, b4⟩
  have q4 := q3.after b4
  have b4 := b3.trans (b4.mono b3.size)
  clear q3 b3
  go_wp2_with fail
  refine (vpick_any d 0 s rfl hs w4).mono ?_
  rintro e w5 ⟨rfl, b5⟩
  have q5 := q4.after b5
  have b5 := b4.trans (b5.mono b4.size)
  clear q4 b4
  generalize pk d 0 k = pk1 at HE ⊢
  generalize pk d 0 v = pk2 at HE ⊢
  generalize pk d 0 s = pk3 at HE ⊢
  go_wp2_with (first
    | (refine wpList_build_blk rfl 51 _ rfl #[.bool d, .int .i64 pk1, .int .i64 pk2, .int .i64 pk3] (by kernel_rfl) ?_)
    | (refine wpList_store_blk (w := w5) rfl 51 _ _ rfl w.heap.size 4 rfl 51 _ #[.bool d, .int .i64 pk1, .int .i64 pk2, .int .i64 pk3] rfl q5 info_rec rfl rfl (by kernel_rfl) ?_; intro w6 q6 g6 z6))
  exact bodyPost_ret (results_blk rfl _ _ w.heap.size 4 _ _ rfl q6 _ Tryd.underlying51 rfl info_rec rfl) rfl ⟨by rw [HE.out], b5.grown g6 b5.size (fun r e => by cases e; exact Nat.le_refl _)⟩
end Go.Proofs.YtlinmcgmkpkpaaaDoor.Vm
namespace Go.Proofs.YtlinmcgmkpkpaaaDoor.Vm
open Go.RowKit Go.Shelf Go.Proofs.YtlinmcgmkpkpaaaDoor Mem Ct Go.Proofs.YtlinmcgmkpkpaaaDoor.Bit Held Rc Rs Sl
attribute [local irreducible] wpList wpListIn Calls
theorem isReg_lo {x : Int} (h : x < 0) : isReg x = false := by simp [isReg]; omega
theorem isReg_hi {x : Int} (h : 8 ≤ x) : isReg x = false := by simp [isReg]; omega
theorem isReg_ok {x : Int} (h : 0 ≤ x) (h8 : x < 8) : isReg x = true := by simp [isReg]; omega
def mayC (code n k : Int) : Bool := decide (1 ≤ code) && decide (code ≤ 12) && (!decide (code = 12) || (decide (0 ≤ n) && decide (n < k)))
theorem mayO_eq (o : O) (k : Int) : mayO o k = ([o.d, o.a, o.b, o.c].all isReg && mayC o.code o.n k) := by
  simp only [mayO, mayC, List.all_cons, List.all_nil, Bool.and_true]
  cases decide (1 ≤ o.code) <;> cases decide (o.code ≤ 12) <;> cases isReg o.d <;> cases isReg o.a <;> cases isReg o.b <;> cases isReg o.c <;> simp
theorem all_no {l : List Int} {i : Nat} (hi : i < l.length) (h : isReg (l.getD i 0) = false) : l.all isReg = false := by
  cases hq : l.all isReg
  · rfl
  · have hm := List.all_eq_true.1 hq (l.getD i 0) (by rw [List.getD_eq_getElem?_getD, List.getElem?_eq_getElem hi]; exact List.getElem_mem _)
    rw [h] at hm
    cases hm
theorem all_yes {l : List Int} (h : ∀ i, i < l.length → isReg (l.getD i 0) = true) : l.all isReg = true := by
  refine List.all_eq_true.2 fun x hx => ?_
  obtain ⟨i, hi, rfl⟩ := List.getElem_of_mem hx
  have := h i hi
  rwa [List.getD_eq_getElem?_getD, List.getElem?_eq_getElem hi] at this
set_option maxRecDepth 100000 in
set_option maxHeartbeats 8000000 in
theorem stand_any (o : O) (k : Int) (w : World) :
    Calls Tryd.prog 63 #[.agg #[.int .i64 o.code, .int .i64 o.d, .int .i64 o.a, .int .i64 o.b, .int .i64 o.c, .int .i64 o.n], .int .i64 k] w fun e w' => e = .returned (.bool (mayO o k)) ∧ Below w.heap.size w w' := by
  rw [mayO_eq]
  obtain ⟨code, d, ra, rb, rc, n⟩ := o
  obtain ⟨RS, hRS⟩ : ∃ RS, [d, ra, rb, rc] = RS := ⟨_, rfl⟩
  have HL := Lib.hid (show RS.length = 4 by rw [← hRS]; rfl)
  simp only [hRS]
  go_enter Tryd.func63, Tryd.ntmps63
  go_wp2_with (first
    | (refine wpList_box_blk (w := w) rfl 58 _ rfl #[.int .i64 code, .int .i64 d, .int .i64 ra, .int .i64 rb, .int .i64 rc, .int .i64 n] rfl ?_; intro w1 q1 g1 z1; have b1 : Below w.heap.size w w1 := (Below.refl _ w).grown g1 (Nat.le_refl _) (by simp); have hc0 := q1.cell (i := 0) rfl; have hc1 := q1.cell (i := 1) rfl; have hc2 := q1.cell (i := 2) rfl; have hc3 := q1.cell (i := 3) rfl; have hc4 := q1.cell (i := 4) rfl; have hc5 := q1.cell (i := 5) rfl; clear q1 g1 z1)
    | (refine wpList_run (w := w1) rfl (v := .pointer (some ⟨w.heap.size, 0, none⟩)) (Held.y_field (S := fun _ => True) (k := 0) (s := 0) rfl rfl Tryd.underlying58 rfl (by kernel_rfl) rfl _ trivial) ?_)
    | (refine wpList_run (w := w1) rfl (v := .pointer (some ⟨w.heap.size, 1, none⟩)) (Held.y_field (S := fun _ => True) (k := 1) (s := 0) rfl rfl Tryd.underlying58 rfl (by kernel_rfl) rfl _ trivial) ?_)
    | (refine wpList_run (w := w1) rfl (v := .pointer (some ⟨w.heap.size, 2, none⟩)) (Held.y_field (S := fun _ => True) (k := 2) (s := 0) rfl rfl Tryd.underlying58 rfl (by kernel_rfl) rfl _ trivial) ?_)
    | (refine wpList_run (w := w1) rfl (v := .pointer (some ⟨w.heap.size, 3, none⟩)) (Held.y_field (S := fun _ => True) (k := 3) (s := 0) rfl rfl Tryd.underlying58 rfl (by kernel_rfl) rfl _ trivial) ?_)
    | (refine wpList_run (w := w1) rfl (v := .pointer (some ⟨w.heap.size, 4, none⟩)) (Held.y_field (S := fun _ => True) (k := 4) (s := 0) rfl rfl Tryd.underlying58 rfl (by kernel_rfl) rfl _ trivial) ?_)
    | (refine wpList_run (w := w1) rfl (v := .pointer (some ⟨w.heap.size, 5, none⟩)) (Held.y_field (S := fun _ => True) (k := 5) (s := 0) rfl rfl Tryd.underlying58 rfl (by kernel_rfl) rfl _ trivial) ?_)
    | (refine wpList_build_blk rfl _ _ rfl (arr .i64 RS) (by rw [← hRS]; kernel_rfl) ?_))
  clear hc1 hc2 hc3 hc4 hRS
  go_loopw [16] (fun i wr => ∃ j : Nat, j ≤ 4 ∧ i = .int .i64 j ∧ wr = w1 ∧ ∀ x, x < j → isReg (RS.getD x 0) = true) (fun i _ => 4 - (intOf i).toNat)
  case atStart => exact ⟨0, by omega, rfl, rfl, fun x hx => absurd hx (by omega)⟩
  case round =>
    obtain ⟨j, hj, rfl, rfl, hall⟩ := hrel
    by_cases hlt : j < 4
    · have hlt' : (j : Int) < 4 := by omega
      have hj0 : (0 : Int) ≤ (j : Int) := by omega
      have hidx : ∀ W, (Instr.index 126 (.agg (arr .i64 RS)) (.int .i64 (j : Int))).run Tryd.prog W = .ok (.int .i64 (RS.getD j 0)) W := fun W => run_index_arr _ 3 4 .i64 RS j W Tryd.underlying126 (by kernel_rfl) (by kernel_rfl) HL.out hlt
      have HN := Lib.hid (fun h : isReg (RS.getD j 0) = false => all_no (l := RS) (by rw [HL.out]; exact hlt) h)
      have HY := Lib.hid (fun (h : isReg (RS.getD j 0) = true) x (hx : x < j + 1) => (show isReg (RS.getD x 0) = true from if e : x = j then e ▸ h else hall x (by omega)))
      generalize RS.getD j 0 = r at hidx HN HY
      clear hall
      by_cases h0 : r < 0
      · have HF := Lib.hid (HN.out (isReg_lo h0))
        clear HN HY
        go_wp2_with fail
        go_ret
        exact ⟨by rw [HF.out, Bool.false_and]; rfl, b1⟩
      · by_cases h8 : 8 ≤ r
        · have HF := Lib.hid (HN.out (isReg_hi h8))
          clear HN HY
          go_wp2_with fail
          go_ret
          exact ⟨by rw [HF.out, Bool.false_and]; rfl, b1⟩
        · have HT := Lib.hid (HY.out (isReg_ok (by omega) (by omega)))
          have h8' : ¬ r ≥ 8 := by omega
          clear HN HY
          go_wp2_with fail
          go_roundw
          case rel => exact ⟨j + 1, by omega, by go_num, trivial, HT.out⟩
          case measure => simp [intOf]; omega
    · have hj4 : j = 4 := by omega
      subst hj4
      have HA := Lib.hid (all_yes (l := RS) fun i hi => hall i (by rw [HL.out] at hi; exact hi))
      clear hall HL
      by_cases hc : code = 12
      · subst hc
        have HM : Hid (mayC 12 n k = (decide (0 ≤ n) && decide (n < k))) := Lib.hid (by simp [mayC])
        go_wp2_with (first
          | (refine wpList_run (w := wr) rfl (v := .pointer (some ⟨w.heap.size, 0, none⟩)) (Held.y_field (S := fun _ => True) (k := 0) (s := 0) rfl rfl Tryd.underlying58 rfl (by kernel_rfl) rfl _ trivial) ?_)
          | (refine wpList_run (w := wr) rfl (v := .pointer (some ⟨w.heap.size, 1, none⟩)) (Held.y_field (S := fun _ => True) (k := 1) (s := 0) rfl rfl Tryd.underlying58 rfl (by kernel_rfl) rfl _ trivial) ?_)
          | (refine wpList_run (w := wr) rfl (v := .pointer (some ⟨w.heap.size, 2, none⟩)) (Held.y_field (S := fun _ => True) (k := 2) (s := 0) rfl rfl Tryd.underlying58 rfl (by kernel_rfl) rfl _ trivial) ?_)
          | (refine wpList_run (w := wr) rfl (v := .pointer (some ⟨w.heap.size, 3, none⟩)) (Held.y_field (S := fun _ => True) (k := 3) (s := 0) rfl rfl Tryd.underlying58 rfl (by kernel_rfl) rfl _ trivial) ?_)
          | (refine wpList_run (w := wr) rfl (v := .pointer (some ⟨w.heap.size, 4, none⟩)) (Held.y_field (S := fun _ => True) (k := 4) (s := 0) rfl rfl Tryd.underlying58 rfl (by kernel_rfl) rfl _ trivial) ?_)
          | (refine wpList_run (w := wr) rfl (v := .pointer (some ⟨w.heap.size, 5, none⟩)) (Held.y_field (S := fun _ => True) (k := 5) (s := 0) rfl rfl Tryd.underlying58 rfl (by kernel_rfl) rfl _ trivial) ?_)
          | fail)
        · go_ret
          exact ⟨Mem.ret_bool (by rw [HM.out, HA.out, Bool.true_and, decide_eq_true (by assumption : 0 ≤ n), Bool.true_and]), b1⟩
        · go_ret
          exact ⟨Mem.ret_bool (by rw [HM.out, HA.out, Bool.true_and, decide_eq_false (by omega : ¬ 0 ≤ n), Bool.false_and]), b1⟩
      · have HM : Hid (mayC code n k = (decide (1 ≤ code) && decide (code < 12))) := Lib.hid (by
          unfold mayC
          rw [decide_eq_false hc]
          simp only [Bool.not_false, Bool.true_or, Bool.and_true]
          congr 1
          exact decide_eq_decide.2 (by omega))
        go_wp2_with (first
          | (refine wpList_run (w := wr) rfl (v := .pointer (some ⟨w.heap.size, 0, none⟩)) (Held.y_field (S := fun _ => True) (k := 0) (s := 0) rfl rfl Tryd.underlying58 rfl (by kernel_rfl) rfl _ trivial) ?_)
          | (refine wpList_run (w := wr) rfl (v := .pointer (some ⟨w.heap.size, 1, none⟩)) (Held.y_field (S := fun _ => True) (k := 1) (s := 0) rfl rfl Tryd.underlying58 rfl (by kernel_rfl) rfl _ trivial) ?_)
          | (refine wpList_run (w := wr) rfl (v := .pointer (some ⟨w.heap.size, 2, none⟩)) (Held.y_field (S := fun _ => True) (k := 2) (s := 0) rfl rfl Tryd.underlying58 rfl (by kernel_rfl) rfl _ trivial) ?_)
          | (refine wpList_run (w := wr) rfl (v := .pointer (some ⟨w.heap.size, 3, none⟩)) (Held.y_field (S := fun _ => True) (k := 3) (s := 0) rfl rfl Tryd.underlying58 rfl (by kernel_rfl) rfl _ trivial) ?_)
          | (refine wpList_run (w := wr) rfl (v := .pointer (some ⟨w.heap.size, 4, none⟩)) (Held.y_field (S := fun _ => True) (k := 4) (s := 0) rfl rfl Tryd.underlying58 rfl (by kernel_rfl) rfl _ trivial) ?_)
          | (refine wpList_run (w := wr) rfl (v := .pointer (some ⟨w.heap.size, 5, none⟩)) (Held.y_field (S := fun _ => True) (k := 5) (s := 0) rfl rfl Tryd.underlying58 rfl (by kernel_rfl) rfl _ trivial) ?_)
          | fail)
        · go_ret
          exact ⟨Mem.ret_bool (by rw [HM.out, HA.out, Bool.true_and, decide_eq_true (by assumption : 1 ≤ code), Bool.true_and]), b1⟩
        · go_ret
          exact ⟨Mem.ret_bool (by rw [HM.out, HA.out, Bool.true_and, decide_eq_false (by omega : ¬ 1 ≤ code), Bool.false_and]), b1⟩
end Go.Proofs.YtlinmcgmkpkpaaaDoor.Vm
namespace Go.Proofs.YtlinmcgmkpkpaaaDoor.Rs
open Go.RowKit Go.Shelf Go.Proofs.YtlinmcgmkpkpaaaDoor Mem Held Rc
attribute [local irreducible] wpList wpListIn Calls
end Go.Proofs.YtlinmcgmkpkpaaaDoor.Rs
namespace Go.Proofs.YtlinmcgmkpkpaaaDoor.Rs
open Go.RowKit Go.Shelf Go.Proofs.YtlinmcgmkpkpaaaDoor Mem Held Rc
set_option maxRecDepth 100000
attribute [local irreducible] wpList wpListIn Calls
theorem wpList_append_ran {P : Program} {ops : Array Oper} {rest : List Oper} {o : Oper} {a : Act} {w : World} {Q : Exit → Act → World → Prop} (hgd : o.guard = none) (s x : Operand) (ts tx : TypeId) (ho : o.op = .call { callee := .builtin .append, args := #[s, x], argTypes := #[ts, tx] }) (u v r : Value) (w' : World) (hs : a.eval s = u) (hx : a.eval x = v)
    (hr : (Builtin.append_ #[ts, tx] o.type #[u, v]).run P w = .ok r w') (h : wpList P ops Q rest (a.put o.dst r) w') : wpList P ops Q (o :: rest) a w := by
  refine wpList_plain hgd fun K hK => ?_
  unfold Oper.wp execOp
  simp only [ho, resolve, invoke, builtin, Sem.run_bind, Sem.run_pure, Result.andThen_ok, List.map_toArray, List.map_cons, List.map_nil, hs, hx, hr]
  exact hK _ _ h
def OwnR (w : World) (base : Nat) (v : Value) (rs : List R) : Prop := w.ownsRow base 51 4 v rs.length (flat rs)
theorem OwnR.nil (w : World) (base : Nat) : OwnR w base (.slice none 0 0) [] := World.ownsRow_nil _ _ _ _
theorem OwnR.form {w : World} {base : Nat} {v : Value} {rs : List R} (h : OwnR w base v rs) : ∃ A c, v = .slice A rs.length c ∧ rs.length ≤ c ∧ c ≤ maxLen := Held.row_form h
theorem OwnR.recs {w : World} {base n c : Nat} {A : Option Addr} {rs : List R} (h : OwnR w base (.slice A n c) rs) (hw : ∀ r ∈ rs, r.wf) : Recs w w.heap.size A n rs := by
  rcases h.2 with ⟨e, hn⟩ | ⟨g, cap, cur, e, hb, hg, hnc, hcm, hcs, ht⟩
  · injection e with e1 e2 e3
    subst e1
    subst e2
    have : rs = [] := List.eq_nil_of_length_eq_zero hn
    subst this
    exact Recs.nil _ _ _
  · injection e with e1 e2 e3
    subst e1
    subst e2
    refine ⟨rfl, hw, fun _ => ⟨g, 0, rfl, (Array.getElem?_eq_some_iff.1 hg).1, fun j v hv => ?_⟩⟩
    rw [Nat.zero_add, cell_of_row w g j _ _ (0, 0) hg]
    have hj := (List.getElem?_eq_some_iff.1 hv).1
    rw [flat_length] at hj
    have := congrArg (fun l => l[j]?) ht
    simp only [List.getElem?_take, hj, if_true] at this
    rw [← hv, ← this]
    simp
theorem OwnR.kept {w w' : World} {base : Nat} {v : Value} {rs : List R} (h : OwnR w base v rs) {row : Option Nat} (hg : w.grownBy w' row) (hne : v.ownBlock = none ∨ v.ownBlock ≠ row) : OwnR w' base v rs := World.ownsRow.kept h hg hne
theorem OwnR.below {w w' : World} {base : Nat} {v : Value} {rs : List R} (h : OwnR w base v rs) (hb : Below w.heap.size w w') : OwnR w' base v rs := h.kept (grown_of_below hb none) (by cases v.ownBlock <;> simp)
end Go.Proofs.YtlinmcgmkpkpaaaDoor.Rs
namespace Go.Proofs.YtlinmcgmkpkpaaaDoor.Rc
open Go.RowKit Go.Shelf Go.Proofs.YtlinmcgmkpkpaaaDoor Mem Help Go.Proofs.YtlinmcgmkpkpaaaDoor.Sum Po Ky Ct Go.Proofs.YtlinmcgmkpkpaaaDoor.Bit Held Go.Proofs.YtlinmcgmkpkpaaaDoor.Range
attribute [local go_sem] Oper.semAt_some
attribute [local irreducible] wpList wpListIn Calls
def fld (zs : List Int) (i : Nat) : Int := val ((zs.drop (8 * i)).take 8)
def noneC : Array Value := #[.bool false, .int .i64 0, .int .i64 0, .int .i64 0]
def flds (zs : List Int) : List Int := [fld zs 0, fld zs 1, fld zs 2, fld zs 3]
def TInv (w : World) (gr gn : Nat) (zs : List Int) (pre : List Nat) (W : World) : Prop :=
  Row W gn 142 .u64 (blend (flds zs) (List.replicate 4 0) pre.length) ∧ Blk W gr 51 noneC ∧ Below w.heap.size w W
theorem TInv.own (w : World) (gr gn : Nat) (zs : List Int) {B : Nat} (hB : w.heap.size ≤ B) : OwnFrom B (TInv w gr gn zs) := fun pre W W' row ⟨h1, h2, h4⟩ hg hr =>
  ⟨row_own h1 hg hr, blk_own h2 hg hr, h4.grown hg h4.size (fun r e => Nat.le_trans hB (hr r e).1)⟩
end Go.Proofs.YtlinmcgmkpkpaaaDoor.Rc
namespace Go.Proofs.YtlinmcgmkpkpaaaDoor.Rc
open Go.RowKit Go.Shelf Go.Proofs.YtlinmcgmkpkpaaaDoor Mem Help Go.Proofs.YtlinmcgmkpkpaaaDoor.Sum Po Ky Held
attribute [local irreducible] wpList wpListIn Calls
end Go.Proofs.YtlinmcgmkpkpaaaDoor.Rc
namespace Go.Proofs.YtlinmcgmkpkpaaaDoor.Mem
open Go.RowKit
def Flat (A : Option Addr) (cap : Nat) : Prop := cap = 0 ∨ A = none ∨ ∃ b off, A = some ⟨b, off, none⟩
theorem Flat.head (b off cap : Nat) : Flat (some ⟨b, off, none⟩) cap := .inr (.inr ⟨b, off, rfl⟩)
section
variable {P : Program} {t e : TypeId} {A : Option Addr} {n cap : Nat}
end
theorem Own.flat {w : World} {base : Nat} {t : TypeId} {k : IntKind} {A : Option Addr} {n c : Nat} {zs : List Int} (h : Own w base t k (.slice A n c) zs) : Flat A c := by
  rcases h.2.2 with ⟨hv, _⟩ | ⟨g, cap, cur, hv, _⟩
  · injection hv with e1; exact .inr (.inl e1)
  · injection hv with e1; exact .inr (.inr ⟨g, 0, e1⟩)
end Go.Proofs.YtlinmcgmkpkpaaaDoor.Mem
namespace Go.Proofs.YtlinmcgmkpkpaaaDoor.Rc
open Go.RowKit Go.Shelf Go.Proofs.YtlinmcgmkpkpaaaDoor Mem Help Go.Proofs.YtlinmcgmkpkpaaaDoor.Sum Po Ky Ct Go.Proofs.YtlinmcgmkpkpaaaDoor.Bit Held
attribute [local irreducible] wpList wpListIn Calls
end Go.Proofs.YtlinmcgmkpkpaaaDoor.Rc
namespace Go.Proofs.YtlinmcgmkpkpaaaDoor.Rs
open Go.RowKit Go.Shelf Go.Proofs.YtlinmcgmkpkpaaaDoor Mem Held Rc Po
attribute [local irreducible] wpList wpListIn Calls
def word (zs : List Int) (i : Nat) : List Int := (zs.drop (32 * i)).take 32
end Go.Proofs.YtlinmcgmkpkpaaaDoor.Rs
namespace Go.Proofs.YtlinmcgmkpkpaaaDoor.Rs
open Go.RowKit Go.Shelf Go.Proofs.YtlinmcgmkpkpaaaDoor Mem
attribute [local irreducible] wpList wpListIn Calls
end Go.Proofs.YtlinmcgmkpkpaaaDoor.Rs
namespace Go.Proofs.YtlinmcgmkpkpaaaDoor.Held
open Go.RowKit
section
variable {P : Program} {ops : Array Oper} {Q Q' : Exit → Act → World → Prop} {n : Nat} {r : Option Nat} {rest : List Oper} {o : Oper} {a : Act} {w : World}
theorem opIn_wide (ho : ∀ c, o.op ≠ .defer c) (hp : ∀ ch a w, ¬ Q' (.panic ch) a w) (hl : ¬ LetsOut Q') {K : Act → World → Prop} (h : o.wp P a w K Q') : o.wpIn (wideR r) n P a w K Q := by
  refine ⟨fun _ _ => trivial, ?_⟩
  rw [Oper.semAt_plain (wideR r) _ _ ho]
  unfold Oper.wp at h
  generalize (execOp a.eval o).run P w = x at h
  cases x with
  | ok y w' =>
    cases y with
    | value v => exact h
    | skip => exact h
    | «defer» d => exact h
    | enter f args =>
      refine ⟨fun hd => absurd (show false = true from hd) (by simp), (calls_wideR (r := r) h).mono fun e w'' he => ?_⟩
      cases e
      · exact he
      · exact (hp _ _ _ he).elim
      · exact (hl he).elim
    | row row args => exact ⟨fun hd => absurd (show false = true from hd) (by simp), rows_wideR h⟩
    | _ => exact h.elim
  | halt y w' =>
    cases y <;> first | exact h.elim | exact (hp _ _ _ h).elim
theorem wpListIn_one {F : Fence} (hF : F = wideR r) (ho : ∀ c, o.op ≠ .defer c) (h : wpList P ops (fun e a' w' => e = .normal ∧ wpListIn F n P ops Q rest a' w') [o] a w) : wpListIn F n P ops Q (o :: rest) a w := by
  subst hF
  unfold wpList at h
  unfold wpListIn
  split
  · rename_i hw
    simp only [hw, if_true] at h
    rcases h with h | ⟨_, a', w', hx⟩
    · refine Oper.wpIn_mono (fun a' w' h' => ?_) (opIn_wide ho (fun ch a w hx => by cases hx.1) (fun ⟨a, w, hx⟩ => by cases hx.1) h)
      exact h'.2
    · cases hx.1
  · rename_i hw
    simp only [hw] at h
    exact ⟨fun _ _ => trivial, h.2⟩
end
end Go.Proofs.YtlinmcgmkpkpaaaDoor.Held
namespace Go.Proofs.YtlinmcgmkpkpaaaDoor.Rs
open Go.RowKit Go.Shelf Go.Proofs.YtlinmcgmkpkpaaaDoor Mem Held Go.Proofs.YtlinmcgmkpkpaaaDoor.Range Rc
attribute [local go_sem] Oper.semAt_some
attribute [local irreducible] wpList wpListIn Calls
theorem Recs.only {S : Nat → Prop} {w w' : World} {B n : Nat} {A : Option Addr} {rs : List R} (h : Recs w B A n rs) (ho : Only S w w') (hS : ∀ b, b < B → ¬ S b) : Recs w' B A n rs :=
  ⟨h.1, h.2.1, fun hn => by
    obtain ⟨b, off, e, hb, hc⟩ := h.2.2 hn
    exact ⟨b, off, e, hb, fun j v hv => ho.cell (p := ⟨b, off + j, none⟩) (hS b hb) (hc j v hv)⟩⟩
theorem take_snoc (xs : List R) {k : Nat} (hk : k < xs.length) : xs.take k ++ [xs.getD k R0] = xs.take (k + 1) := by
  rw [List.take_succ_eq_append_getElem hk, List.getD_eq_getElem?_getD, List.getElem?_eq_getElem hk]
  rfl
end Go.Proofs.YtlinmcgmkpkpaaaDoor.Rs
namespace Go.Proofs.YtlinmcgmkpkpaaaDoor.Vm
open Go.RowKit Go.Shelf Go.Proofs.YtlinmcgmkpkpaaaDoor Mem Held Go.Proofs.YtlinmcgmkpkpaaaDoor.Range Rc Rs Sl
attribute [local go_sem] Oper.semAt_some
attribute [local irreducible] wpList wpListIn Calls
theorem zero_op : (Tryd.prog.info? 58).bind (·.zero) = some (.agg #[.int .i64 0, .int .i64 0, .int .i64 0, .int .i64 0, .int .i64 0, .int .i64 0]) := by kernel_rfl
theorem size_op : (Tryd.prog.info? 58).map (·.size) = some 6 := by kernel_rfl
theorem ops_any (A : Option Addr) (n c : Nat) (w : World) :
    Calls Tryd.prog 62 #[.slice A n c] w fun e w' => ∃ bx : Nat, e = .returned (.func (.func 81) #[] #[.pointer (some ⟨bx, 0, none⟩)]) ∧ Blk w' bx 24 #[.slice A n c] ∧ w.heap.size ≤ bx ∧ Below w.heap.size w w' := by
  go_enter Tryd.func62, Tryd.ntmps62
  go_wp2_with (refine Held.wpList_box_cell (w := w) rfl 24 _ rfl (.slice A n c) rfl rfl ?_; intro u1 q1 g1 z1)
  go_ret
  exact ⟨_, rfl, q1, Nat.le_refl _, (Below.refl _ w).grown g1 (Nat.le_refl _) (by simp)⟩
theorem Lst.only {α : Type} {k : St α} {S : Nat → Prop} {w w' : World} {B n : Nat} {A : Option Addr} {xs : List α} (h : Lst k w B A n xs) (ho : Only S w w') (hS : ∀ b, b < B → ¬ S b) : Lst k w' B A n xs :=
  ⟨h.1, h.2.1, fun hn => by
    obtain ⟨b, off, e, hb, hc⟩ := h.2.2 hn
    exact ⟨b, off, e, hb, fun j v hv => ho.cell (p := ⟨b, off + j, none⟩) (hS b hb) (hc j v hv)⟩⟩
def atO (l : List O) (k : Nat) : Option O := if k < l.length then some (l.getD k O0) else none
def encO (o : O) : Array Value := #[.agg #[.int .i64 o.code, .int .i64 o.d, .int .i64 o.a, .int .i64 o.b, .int .i64 o.c, .int .i64 o.n]]
theorem atO_some {l : List O} {k : Nat} {x : O} (h : atO l k = some x) : k < l.length ∧ x = l.getD k O0 := by
  unfold atO at h
  split at h
  · rename_i hk
    injection h with h
    exact ⟨hk, h.symm⟩
  · cases h
theorem atO_none {l : List O} {k : Nat} (h : atO l k = none) : ¬ k < l.length := by
  unfold atO at h
  split at h
  · cases h
  · assumption
set_option maxRecDepth 100000 in
set_option maxHeartbeats 4000000 in
theorem ops_stop (N bx : Nat) (S : Nat → Prop) (B : Nat) (A : Option Addr) (n c : Nat) (xs : List O) (w : World) (hn40 : n ≤ 40) (hbx : w.cell? ⟨bx, 0, none⟩ = some (.slice A n c)) (hSx : ¬ S bx) (h : Lst kO w B A n xs) (hB : B ≤ w.heap.size) (hSB : ∀ b, b < B → ¬ S b) :
    SeqStop Fence.wide N Tryd.prog 81 #[.pointer (some ⟨bx, 0, none⟩)] encO (Only S) (atO xs) w := by
  intro l J Jx Nb W hW hJ hJx hN hY h0
  have kbx := (hW.cell (p := ⟨bx, 0, none⟩) (World.block_lt_of_cell? w _ hbx)).trans hbx
  have kv := h.below (hW.mono hB)
  have hBW : B ≤ W.heap.size := Nat.le_trans hB hW.size
  have HL := Lib.hid h.1
  clear hbx h hW
  refine callsIn_of_wp Tryd.func81 rfl trivial ?_ rfl
  simp only [Tryd.ntmps81, List.size_toArray, List.length_cons, List.length_nil, Nat.reduceAdd, Nat.reduceSub, Array.replicate_succ, Array.replicate_zero, List.push_toArray, List.append_toArray, List.nil_append, List.cons_append]
  gi_wp2_with fail
  gi_loopw [7] (fun i wr => ∃ k : Nat, k ≤ n ∧ i = .int .i64 k ∧ J k wr ∧ Only S W wr) (fun i _ => n - (intOf i).toNat)
  case atStart => exact ⟨0, by omega, rfl, h0, Only.refl _ _⟩
  case round =>
    obtain ⟨k, hk, rfl, Jk, ok⟩ := hrel
    by_cases hlt : k < n
    · obtain ⟨b, off, rfl, hb, hx⟩ := (Vm.Lst.only kv ok hSB).at_ hlt
      have hbw : b < wr.heap.size := Nat.lt_of_lt_of_le hb (Nat.le_trans hBW ok.size)
      have hY := hY k (xs.getD k O0)
      rw [atO, if_pos (by rw [HL.out]; exact hlt)] at hY
      have hx : wr.rangeAt b (off + k * 6) (xs.getD k O0).cells := hx
      generalize xs.getD k O0 = x at hx hY
      have hlt' : (k : Int) < (n : Int) := by omega
      have hk0 : (0 : Int) ≤ (k : Int) := by omega
      gi_wp2_with (first
        | (refine Held.wpListIn_one (r := none) rfl (by intro c e; cases e) ?_; refine wpList_run (w := wr) rfl (v := .pointer (some ⟨b, off + k * 6, none⟩)) (Held.y_addr (S := fun _ => True) rfl rfl rfl (run_addr_of (P := Tryd.prog) 24 58 b off n c k 6 .i64 Tryd.underlying24 size_op hlt) _ trivial) ?_; refine wpList_nil ⟨rfl, ?_⟩)
        | (refine Held.wpListIn_one (r := none) rfl (by intro c e; cases e) ?_; refine wpList_run (w := wr) rfl (v := .agg #[.int .i64 x.code, .int .i64 x.d, .int .i64 x.a, .int .i64 x.b, .int .i64 x.c, .int .i64 x.n]) (y_load_range (S := fun W => W = wr) (n := 6) (cs := x.cells) rfl rfl Tryd.underlying58 rfl size_op rfl (fun W hW => by rw [hW]; exact hx) _ rfl) ?_; refine wpList_nil ⟨rfl, ?_⟩)
        | (refine Held.wpListIn_one (r := none) rfl (by intro c e; cases e) ?_; refine wpList_alloc_blk (w := wr) rfl 58 rfl _ zero_op ?_; intro w2 q2 g2 z2; refine wpList_nil ⟨rfl, ?_⟩)
        | (refine Held.wpListIn_one (r := none) rfl (by intro c e; cases e) ?_; refine wpList_store_blk (w := w2) rfl 58 _ _ rfl wr.heap.size 6 rfl 58 _ #[.int .i64 x.code, .int .i64 x.d, .int .i64 x.a, .int .i64 x.b, .int .i64 x.c, .int .i64 x.n] rfl q2 size_op rfl rfl (by kernel_rfl) ?_; intro w3 q3 g3 z3; refine wpList_nil ⟨rfl, ?_⟩; have b3 : Below wr.heap.size wr w3 := ((Below.refl _ wr).grown g2 (Nat.le_refl _) (by simp)).grown g3 g2.size (fun r e => by cases e; exact Nat.le_refl _); clear g2 g3 z2 z3 q2)
        | (refine Held.wpListIn_one (r := none) rfl (by intro c e; cases e) ?_; refine wpList_load_blk (w := w3) rfl 58 _ rfl wr.heap.size 6 rfl 58 _ q3 _ Tryd.underlying58 rfl size_op rfl ?_; refine wpList_nil ⟨rfl, ?_⟩; obtain ⟨fn, tmps, assign, body, hy, hR⟩ := hY w3 (hJ k wr w3 none Jk (grown_of_below b3 none) (fun r e => by cases e)) rfl; have hy : (Instr.yield l #[.agg #[.int .i64 x.code, .int .i64 x.d, .int .i64 x.a, .int .i64 x.b, .int .i64 x.c, .int .i64 x.n]]).run Tryd.prog w3 = .ok (.round l fn tmps assign body) w3 := hy))
      refine ⟨fun h => (by cases h), ?_⟩
      refine hR.mono ?_
      rintro e W4 (⟨rfl, J4, o4⟩ | ⟨rfl, Jx4⟩)
      · have o5 := (ok.trans (Only.of_below b3)).trans o4
        clear hR hy o4 b3 ok Jk q3 hx
        gi_wp2_with fail
        go_roundw
        case rel => exact ⟨k + 1, by omega, by go_num, J4, o5⟩
        case measure => simp [intOf]; omega
      · gi_wp2_with fail
        exact bodyPost_ret (results_none rfl _ _ _) rfl ⟨⟨_, rfl⟩, .inr ⟨_, Jx4⟩⟩
    · have hkn : k = n := by omega
      subst hkn
      gi_wp2_with fail
      go_end0
      exact ⟨⟨_, rfl⟩, .inl ⟨k, by rw [atO, if_neg (by rw [HL.out]; exact Nat.lt_irrefl _)], Jk⟩⟩
end Go.Proofs.YtlinmcgmkpkpaaaDoor.Vm
