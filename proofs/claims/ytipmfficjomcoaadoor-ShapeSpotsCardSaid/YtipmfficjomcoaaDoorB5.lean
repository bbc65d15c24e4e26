/-
  Records as plain things, lists of them in memory, cell by cell; a call of a function value within a region that draws its order: no program here but the type of a record.
  Programs of layer 11 as plain functions: which may be, what each operation makes of its numbers, what a part leaves in its registers and emits: no program here but the kinds of its lists.
  Package vm's same, pick, result and emitted, by their contracts.
  Package vm's mayStand, by its contract.
  The functions Same and Plain of package dominohelp on records, by their contracts.
  The functions Own and Kept of package dominohelp on records, by their contracts.
  Package record's Take, by its contract.
  A number's eight bytes, numbers' bytes, and a number of bytes, by the document's own, by their contracts: with no other layer.
  Slices cut: s[:h] and s[l:] by their run, and what they read as.
  The document's own Ahead, Before, Pack and Take of records, and the laws' first line, by their contracts.
  The document's own may, Size and Pack of blocks, by their contracts.
  The document's own Size of blocks (package dominoref10) by its contract.
  Package block: which sizes may be, how long blocks are, and the iterator over records with dead ones behind them, by their contracts.
  Package vm's iterator over a part's operations, by its contract: it hands out each of them, in order, till it is told to stop.
  Package vm's mayBe, by its contract.
  Package vm's Check, by its contract.
  More of lists of structs in memory: made (zeros), copied: no program here.
  slices.Repeat of one record, up to four times, by its contract.
  More steps of a region: a nil check passed, one cell or one struct stored into a block that is known whole, some numbers copied to its head: no program here.
  What a machine of package vm holds, as plain functions: its cells, one operation more, and that its numbers fit: no program here but the kinds.
  What a job is to tell, as plain functions: the records that are not dead, each key's values as one, the keys in order: no program here but the kinds of its lists.
  The method run of package vm's machine, by its contract: its registers and slots are what the operations leave, one by one.
  Package vm's Fold and Finish, by their contracts.
  Package spec's within, blocks and Right, by their contracts.
  Package pipe's Blocks and package shape's jobOf, mapped, rounds, roundsOf, size, by their contracts.
-/
import Derived.Test.YtipmfficjomcoaaDoorB4
import Derived.Deep.MidRow
import Derived.Test.YtipmfficjomcoaaDoorB3
import Derived.Test.YtipmfficjomcoaaDoorB2
import Derived.Laws.Bits128
import Derived.Test.YtipmfficjomcoaaDoorB1
import Derived.WalkMore
import Derived.OwnWalk
import Derived.Lib.BufferOwn
import Derived.Maps.AppendAt
import Derived.Great.BuildSlice
import Derived.Laws.Slices
import Derived.BigQuiet
import Derived.Laws.CopyOwn
set_option linter.unusedVariables false
namespace Go.Proofs.YtipmfficjomcoaaDoor.Rs
open Go.RowKit Go.Shelf Mem Held Rc
structure R where
  d : Bool
  k : Int
  v : Int
  s : Int
theorem R.eq {a b : R} (h1 : a.d = b.d) (h2 : a.k = b.k) (h3 : a.v = b.v) (h4 : a.s = b.s) : a = b := by
  cases a
  cases b
  simp_all
instance decR : DecidableEq R := fun a b =>
  if h : a.d = b.d ∧ a.k = b.k ∧ a.v = b.v ∧ a.s = b.s then .isTrue (R.eq h.1 h.2.1 h.2.2.1 h.2.2.2)
  else .isFalse fun e => h (by rw [e]; exact ⟨rfl, rfl, rfl, rfl⟩)
def R.wf (r : R) : Prop := (Lit.int .i64 r.k).wf = true ∧ (Lit.int .i64 r.v).wf = true ∧ (Lit.int .i64 r.s).wf = true
def R.cells (r : R) : List Value := [.bool r.d, .int .i64 r.k, .int .i64 r.v, .int .i64 r.s]
def R0 : R := ⟨false, 0, 0, 0⟩
def flat (rs : List R) : List Value := rs.flatMap R.cells
theorem flat_length : ∀ rs : List R, (flat rs).length = rs.length * 4
  | [] => rfl
  | r :: rs => by
    have := flat_length rs
    simp only [flat, List.flatMap_cons, List.length_append, List.length_cons, R.cells, List.length_nil] at this ⊢
    omega
theorem flat_append (rs qs : List R) : flat (rs ++ qs) = flat rs ++ flat qs := by simp [flat]
theorem flat_at : ∀ (rs : List R) (i j : Nat), j < 4 → i < rs.length → (flat rs)[i * 4 + j]? = (rs.getD i R0).cells[j]?
  | [], i, j, _, h => absurd h (by simp)
  | r :: rs, 0, j, hj, _ => by
    simp only [flat, List.flatMap_cons, Nat.zero_mul, Nat.zero_add, List.getD_cons_zero]
    rw [List.getElem?_append_left (by simp [R.cells]; omega)]
  | r :: rs, i + 1, j, hj, h => by
    have := flat_at rs i j hj (by simpa using h)
    simp only [flat, List.flatMap_cons, List.getD_cons_succ] at this ⊢
    rw [List.getElem?_append_right (by simp [R.cells]; omega), show (i + 1) * 4 + j - r.cells.length = i * 4 + j by simp [R.cells]; omega, this]
def Recs (w : World) (B : Nat) (A : Option Addr) (n : Nat) (rs : List R) : Prop :=
  rs.length = n ∧ (∀ r ∈ rs, r.wf) ∧ (0 < n → ∃ b off, A = some ⟨b, off, none⟩ ∧ b < B ∧ w.rangeAt b off (flat rs))
section
variable {w w' : World} {B B' n : Nat} {A : Option Addr} {rs : List R}
theorem Recs.nil (w : World) (B : Nat) (A : Option Addr) : Recs w B A 0 [] := ⟨rfl, by simp, fun h => absurd h (by omega)⟩
theorem Recs.keep (h : Recs w B A n rs) (hk : ∀ p : Addr, p.block < B → w'.cell? p = w.cell? p) : Recs w' B A n rs :=
  ⟨h.1, h.2.1, fun hn => by
    obtain ⟨b, off, e, hb, hc⟩ := h.2.2 hn
    exact ⟨b, off, e, hb, fun j v hv => (hk ⟨b, off + j, none⟩ hb).trans (hc j v hv)⟩⟩
theorem Recs.more (h : Recs w B A n rs) (hB : B ≤ B') : Recs w B' A n rs :=
  ⟨h.1, h.2.1, fun hn => by
    obtain ⟨b, off, e, hb, hc⟩ := h.2.2 hn
    exact ⟨b, off, e, by omega, hc⟩⟩
theorem Recs.below (h : Recs w B A n rs) (hb : Below B w w') : Recs w' B A n rs := h.keep fun _ hp => hb.cell hp
theorem Recs.at_ (h : Recs w B A n rs) {i : Nat} (hi : i < n) : ∃ b off, A = some ⟨b, off, none⟩ ∧ b < B ∧ w.rangeAt b (off + i * 4) (rs.getD i R0).cells := by
  obtain ⟨b, off, e, hb, hc⟩ := h.2.2 (by omega)
  refine ⟨b, off, e, hb, fun j v hv => ?_⟩
  have hj : j < 4 := by have := (List.getElem?_eq_some_iff.1 hv).1; simpa [R.cells] using this
  rw [Nat.add_assoc]
  exact hc (i * 4 + j) v (by rw [flat_at rs i j hj (by rw [h.1]; exact hi)]; exact hv)
end
section
variable {P : Program} {ops : Array Oper} {Q : Exit → Act → World → Prop}
theorem op_callv (i : Nat) (d : Option Tmp) {o : Oper} {a : Act} {w : World} {K : Act → World → Prop} (f : FuncId) (lb vals : Array Value) {y : Operand} {xs : Array Operand} {ts : Array TypeId} {R : Ending → World → Prop} (hi : ops[i]? = some o) (hd : o.dst = d) (hw : Region.wanted o (yielded ops a.tmps) = true)
    (ho : o.op = .call { callee := .value y, args := xs, argTypes := ts }) (hy : a.eval y = .func (.func f) #[] lb) (he : Enters P f) (hv : xs.map a.eval = vals)
    (hc : Calls P f (vals ++ lb) w R)
    (h : ∀ e w', R e w' → ∃ v, e = .returned v ∧ K (a.put d v) w') : wpOp P ops Q i K a w := by
  subst hd
  refine op_wp i hi hw ?_
  have hrun : (execOp a.eval o).run P w = .ok (.enter f (vals ++ lb)) w := by
    unfold execOp
    simp only [ho, resolve, hy, Deferred.ofValue, Sem.run_bind, Sem.run_pure, Result.andThen_ok, invoke, Array.empty_append, hv]
    exact he _ _
  unfold Oper.wp
  rw [hrun, Oper.upon_enter]
  refine hc.mono fun e w' hR => ?_
  obtain ⟨v, rfl, hW⟩ := h e w' hR
  exact hW
end
section
variable {P : Program} {S : World → Prop} {ρ : Operand → Value} {o : Oper}
theorem run_addr_of (t e : TypeId) (b off len cap i s : Nat) (k : IntKind) (ht : P.underlying t = some (.slice e)) (hs : (P.info? e).map (·.size) = some s) (hi : i < len) (w : World) :
    (Instr.indexAt t (.slice (some ⟨b, off, none⟩) len cap) (.int k (i : Int))).run P w = .ok (.pointer (some ⟨b, off + i * s, none⟩)) w := by
  have he : P.elem t = e := by simp [Program.elem, ht]
  have hz : (sizeOf e).run P w = .ok s w := by
    cases hq : P.info? e with
    | none => simp [hq] at hs
    | some q => simp [hq] at hs; simp [sizeOf, typeInfo, hq, hs]
  have ea : (Addr.mk b off none).add (i * s) = ⟨b, off + i * s, none⟩ := by unfold Addr.add; split <;> simp_all
  rw [run_indexAt_slice w t ⟨b, off, none⟩ len cap k (i : Int) (by rw [he]; exact ht), he, if_pos ⟨by omega, by omega⟩, hz]
  simp [Result.andThen, ea]
theorem y_load_range {ty : TypeId} {x : Operand} {b off n : Nat} {cs : List Value} {d : TypeDesc} (ho : o.op = .load ty x) (hx : ρ x = .pointer (some ⟨b, off, none⟩)) (hu : P.underlying ty = some d) (hd : d.isRow = true) (hi : (P.info? ty).map (·.size) = some n) (hn : cs.length = n)
    (hr : ∀ w, S w → w.rangeAt b off cs) : ∀ w, S w → (execOp ρ o).run P w = .ok (.value (.agg cs.toArray)) w := fun w hw => by
  have h := run_loadAt_mid (P := P) w b off ty cs d (hr w hw) hu hd (by rw [hi, hn])
  simp [execOp, ho, hx, h]
end
end Go.Proofs.YtipmfficjomcoaaDoor.Rs
namespace Go.Proofs.YtipmfficjomcoaaDoor.Vm
open Go.RowKit Go.Shelf Mem Held Rc Rs Sl
structure O where
  code : Int
  d : Int
  a : Int
  b : Int
  c : Int
  n : Int
def O.wf (o : O) : Prop := (Lit.int .i64 o.code).wf = true ∧ (Lit.int .i64 o.d).wf = true ∧ (Lit.int .i64 o.a).wf = true ∧ (Lit.int .i64 o.b).wf = true ∧ (Lit.int .i64 o.c).wf = true ∧ (Lit.int .i64 o.n).wf = true
def O.cells (o : O) : List Value := [.int .i64 o.code, .int .i64 o.d, .int .i64 o.a, .int .i64 o.b, .int .i64 o.c, .int .i64 o.n]
def O0 : O := ⟨0, 0, 0, 0, 0, 0⟩
theorem O.ext' {x y : O} (h1 : x.code = y.code) (h2 : x.d = y.d) (h3 : x.a = y.a) (h4 : x.b = y.b) (h5 : x.c = y.c) (h6 : x.n = y.n) : x = y := by
  cases x
  cases y
  simp_all
instance decO : DecidableEq O := fun x y =>
  if h : x.code = y.code ∧ x.d = y.d ∧ x.a = y.a ∧ x.b = y.b ∧ x.c = y.c ∧ x.n = y.n then .isTrue (O.ext' h.1 h.2.1 h.2.2.1 h.2.2.2.1 h.2.2.2.2.1 h.2.2.2.2.2)
  else .isFalse fun e => h (by rw [e]; exact ⟨rfl, rfl, rfl, rfl, rfl, rfl⟩)
def isReg (x : Int) : Bool := decide (0 ≤ x) && decide (x < 8)
def mayO (o : O) (k : Int) : Bool := decide (1 ≤ o.code) && decide (o.code ≤ 12) && isReg o.d && isReg o.a && isReg o.b && isReg o.c && (!decide (o.code = 12) || (decide (0 ≤ o.n) && decide (o.n < k)))
def mayP (l : List O) (k : Int) : Bool := decide (l.length ≤ 40) && l.all (mayO · k)
def reg (r : List Int) (i : Int) : Int := r.getD i.toNat 0
def opV (o : O) (a b c : Int) : Int :=
  if o.code = 1 then o.n else if o.code = 2 then wrap64 (a + b) else if o.code = 3 then wrap64 (a - b) else if o.code = 4 then wrap64 (a * b)
  else if o.code = 5 then bits .and .i64 a b else if o.code = 6 then bits .or .i64 a b else if o.code = 7 then bits .xor .i64 a b
  else if o.code = 8 then (if a < b then 1 else 0) else if o.code = 9 then (if a = b then 1 else 0) else if o.code = 10 then (if a = 0 then c else b)
  else a / 2 ^ (b % 64).toNat
def stepR (o : O) (r : List Int) : List Int := if o.code = 12 then r else r.set o.d.toNat (opV o (reg r o.a) (reg r o.b) (reg r o.c))
def runR : List O → List Int → List Int
  | [], r => r
  | o :: l, r => runR l (stepR o r)
end Go.Proofs.YtipmfficjomcoaaDoor.Vm
namespace Go.Proofs.YtipmfficjomcoaaDoor.Vm
open Go.RowKit Go.Shelf Go.Proofs.YtipmfficjomcoaaDoor Mem Ct Go.Proofs.YtipmfficjomcoaaDoor.Bit Held Rc Rs Sl
attribute [local irreducible] wpList wpListIn Calls
def pk (c : Bool) (x y : Int) : Int := if c = true then x else y
end Go.Proofs.YtipmfficjomcoaaDoor.Vm
namespace Go.Proofs.YtipmfficjomcoaaDoor.Vm
open Go.RowKit Go.Shelf Go.Proofs.YtipmfficjomcoaaDoor Mem Ct Go.Proofs.YtipmfficjomcoaaDoor.Bit Held Rc Rs Sl
attribute [local irreducible] wpList wpListIn Calls
end Go.Proofs.YtipmfficjomcoaaDoor.Vm
namespace Go.Proofs.YtipmfficjomcoaaDoor.Rs
open Go.RowKit Go.Shelf Go.Proofs.YtipmfficjomcoaaDoor Mem Held Rc
attribute [local irreducible] wpList wpListIn Calls
end Go.Proofs.YtipmfficjomcoaaDoor.Rs
namespace Go.Proofs.YtipmfficjomcoaaDoor.Rs
open Go.RowKit Go.Shelf Go.Proofs.YtipmfficjomcoaaDoor Mem Held Rc
set_option maxRecDepth 100000
attribute [local irreducible] wpList wpListIn Calls
theorem wpList_append_ran {P : Program} {ops : Array Oper} {rest : List Oper} {o : Oper} {a : Act} {w : World} {Q : Exit → Act → World → Prop} (hgd : o.guard = none) (s x : Operand) (ts tx : TypeId) (ho : o.op = .call { callee := .builtin .append, args := #[s, x], argTypes := #[ts, tx] }) (u v r : Value) (w' : World) (hs : a.eval s = u) (hx : a.eval x = v)
    (hr : (Builtin.append_ #[ts, tx] o.type #[u, v]).run P w = .ok r w') (h : wpList P ops Q rest (a.put o.dst r) w') : wpList P ops Q (o :: rest) a w := by
  refine wpList_plain hgd fun K hK => ?_
  unfold Oper.wp execOp
  simp only [ho, resolve, invoke, builtin, Sem.run_bind, Sem.run_pure, Result.andThen_ok, List.map_toArray, List.map_cons, List.map_nil, hs, hx, hr]
  exact hK _ _ h
end Go.Proofs.YtipmfficjomcoaaDoor.Rs
namespace Go.Proofs.YtipmfficjomcoaaDoor.Rc
open Go.RowKit Go.Shelf Go.Proofs.YtipmfficjomcoaaDoor Mem Help Go.Proofs.YtipmfficjomcoaaDoor.Sum Po Ky Ct Go.Proofs.YtipmfficjomcoaaDoor.Bit Held Go.Proofs.YtipmfficjomcoaaDoor.Range
attribute [local go_sem] Oper.semAt_some
attribute [local irreducible] wpList wpListIn Calls
end Go.Proofs.YtipmfficjomcoaaDoor.Rc
namespace Go.Proofs.YtipmfficjomcoaaDoor.Rc
open Go.RowKit Go.Shelf Go.Proofs.YtipmfficjomcoaaDoor Mem Help Go.Proofs.YtipmfficjomcoaaDoor.Sum Po Ky Held
attribute [local irreducible] wpList wpListIn Calls
end Go.Proofs.YtipmfficjomcoaaDoor.Rc
namespace Go.Proofs.YtipmfficjomcoaaDoor.Mem
open Go.RowKit
def Flat (A : Option Addr) (cap : Nat) : Prop := cap = 0 ∨ A = none ∨ ∃ b off, A = some ⟨b, off, none⟩
theorem Flat.head (b off cap : Nat) : Flat (some ⟨b, off, none⟩) cap := .inr (.inr ⟨b, off, rfl⟩)
section
variable {P : Program} {t e : TypeId} {A : Option Addr} {n cap : Nat}
end
theorem Own.flat {w : World} {base : Nat} {t : TypeId} {k : IntKind} {A : Option Addr} {n c : Nat} {zs : List Int} (h : Own w base t k (.slice A n c) zs) : Flat A c := by
  rcases h.2.2 with ⟨hv, _⟩ | ⟨g, cap, cur, hv, _⟩
  · injection hv with e1; exact .inr (.inl e1)
  · injection hv with e1; exact .inr (.inr ⟨g, 0, e1⟩)
end Go.Proofs.YtipmfficjomcoaaDoor.Mem
namespace Go.Proofs.YtipmfficjomcoaaDoor.Rc
open Go.RowKit Go.Shelf Go.Proofs.YtipmfficjomcoaaDoor Mem Help Go.Proofs.YtipmfficjomcoaaDoor.Sum Po Ky Ct Go.Proofs.YtipmfficjomcoaaDoor.Bit Held
attribute [local irreducible] wpList wpListIn Calls
end Go.Proofs.YtipmfficjomcoaaDoor.Rc
namespace Go.Proofs.YtipmfficjomcoaaDoor.Rs
open Go.RowKit Go.Shelf Go.Proofs.YtipmfficjomcoaaDoor Mem Held Rc Po
attribute [local irreducible] wpList wpListIn Calls
def word (zs : List Int) (i : Nat) : List Int := (zs.drop (32 * i)).take 32
end Go.Proofs.YtipmfficjomcoaaDoor.Rs
namespace Go.Proofs.YtipmfficjomcoaaDoor.Rs
open Go.RowKit Go.Shelf Go.Proofs.YtipmfficjomcoaaDoor Mem
attribute [local irreducible] wpList wpListIn Calls
end Go.Proofs.YtipmfficjomcoaaDoor.Rs
namespace Go.Proofs.YtipmfficjomcoaaDoor.Rs
open Go.RowKit Go.Shelf Go.Proofs.YtipmfficjomcoaaDoor Mem Held Go.Proofs.YtipmfficjomcoaaDoor.Range Rc
attribute [local go_sem] Oper.semAt_some
attribute [local irreducible] wpList wpListIn Calls
theorem Recs.only {S : Nat → Prop} {w w' : World} {B n : Nat} {A : Option Addr} {rs : List R} (h : Recs w B A n rs) (ho : Only S w w') (hS : ∀ b, b < B → ¬ S b) : Recs w' B A n rs :=
  ⟨h.1, h.2.1, fun hn => by
    obtain ⟨b, off, e, hb, hc⟩ := h.2.2 hn
    exact ⟨b, off, e, hb, fun j v hv => ho.cell (p := ⟨b, off + j, none⟩) (hS b hb) (hc j v hv)⟩⟩
end Go.Proofs.YtipmfficjomcoaaDoor.Rs
namespace Go.Proofs.YtipmfficjomcoaaDoor.Vm
open Go.RowKit Go.Shelf Go.Proofs.YtipmfficjomcoaaDoor Mem Held Go.Proofs.YtipmfficjomcoaaDoor.Range Rc Rs Sl
attribute [local go_sem] Oper.semAt_some
attribute [local irreducible] wpList wpListIn Calls
theorem Lst.only {α : Type} {k : St α} {S : Nat → Prop} {w w' : World} {B n : Nat} {A : Option Addr} {xs : List α} (h : Lst k w B A n xs) (ho : Only S w w') (hS : ∀ b, b < B → ¬ S b) : Lst k w' B A n xs :=
  ⟨h.1, h.2.1, fun hn => by
    obtain ⟨b, off, e, hb, hc⟩ := h.2.2 hn
    exact ⟨b, off, e, hb, fun j v hv => ho.cell (p := ⟨b, off + j, none⟩) (hS b hb) (hc j v hv)⟩⟩
end Go.Proofs.YtipmfficjomcoaaDoor.Vm
namespace Go.Proofs.YtipmfficjomcoaaDoor.Vm
open Go.RowKit Go.Shelf Go.Proofs.YtipmfficjomcoaaDoor Mem Held Go.Proofs.YtipmfficjomcoaaDoor.Range Rc Rs Sl
attribute [local go_sem] Oper.semAt_some
attribute [local irreducible] wpList wpListIn Calls
def MbI (w : World) (r3 r4 : Nat) (l : List O) (kk : Int) (k : Nat) (W : World) : Prop :=
  k ≤ l.length ∧ W.heap[r3]? = some (.cells #[.int .i64 kk] 3 (0, 0)) ∧ W.heap[r4]? = some (.cells #[.bool false] 4 (0, 0)) ∧ (∀ i, i < k → mayO (l.getD i O0) kk = true) ∧ Below w.heap.size w W
def MbX (w : World) (r4 : Nat) (l : List O) (kk : Int) (c : Code) (k : Nat) (W : World) : Prop :=
  c = .ret ∧ W.heap[r4]? = some (.cells #[.bool false] 4 (0, 0)) ∧ mayP l kk = false ∧ Below w.heap.size w W
theorem MbI.far (w : World) (r3 r4 : Nat) (l : List O) (kk : Int) {B : Nat} (hw : w.heap.size < B) (h3 : r3 < B) (h4 : r4 < B) : Far B (MbI w r3 r4 l kk) := by
  intro k W W' row ⟨h0, h1, h2, ha, hb⟩ hgr hr
  have hne : ∀ i, i < B → some i ≠ row := fun i hi e => by have := hr i e.symm; omega
  exact ⟨h0, Held.keep_cells h1 hgr (hne _ h3), Held.keep_cells h2 hgr (hne _ h4), ha, hb.grown hgr hb.size (fun r e => by have := hr r e; omega)⟩
theorem MbX.far (w : World) (r4 : Nat) (l : List O) (kk : Int) (c : Code) {B : Nat} (hw : w.heap.size < B) (h4 : r4 < B) : Far B (MbX w r4 l kk c) := by
  intro k W W' row ⟨h0, h2, ha, hb⟩ hgr hr
  have hne : ∀ i, i < B → some i ≠ row := fun i hi e => by have := hr i e.symm; omega
  exact ⟨h0, Held.keep_cells h2 hgr (hne _ h4), ha, hb.grown hgr hb.size (fun r e => by have := hr r e; omega)⟩
end Go.Proofs.YtipmfficjomcoaaDoor.Vm
namespace Go.Proofs.YtipmfficjomcoaaDoor.Vm
open Go.RowKit Go.Shelf Go.Proofs.YtipmfficjomcoaaDoor Mem Held Go.Proofs.YtipmfficjomcoaaDoor.Range Rc Rs Sl
attribute [local irreducible] wpList wpListIn Calls
end Go.Proofs.YtipmfficjomcoaaDoor.Vm
namespace Go.Proofs.YtipmfficjomcoaaDoor.Sl
open Go.RowKit Go.Shelf Mem Held
section
variable {α : Type} {k : St α}
end
section
variable {α : Type} {k : St α} {P : Program} {ops : Array Oper} {rest : List Oper} {o : Oper} {a : Act} {w : World} {Q : Exit → Act → World → Prop}
end
end Go.Proofs.YtipmfficjomcoaaDoor.Sl
namespace Go.Proofs.YtipmfficjomcoaaDoor.Vm
open Go.RowKit Go.Shelf Go.Proofs.YtipmfficjomcoaaDoor Mem Held Go.Proofs.YtipmfficjomcoaaDoor.Range Rc Rs Sl
attribute [local irreducible] wpList wpListIn Calls
end Go.Proofs.YtipmfficjomcoaaDoor.Vm
namespace Go.Proofs.YtipmfficjomcoaaDoor.Sl
open Go.RowKit Go.Shelf Mem Held
section
variable {P : Program} {S : World → Prop} {ρ : Operand → Value} {o : Oper}
end
section
variable {α : Type} {k : St α} {P : Program} {ops : Array Oper} {rest : List Oper} {o : Oper} {a : Act} {w : World} {Q : Exit → Act → World → Prop}
end
end Go.Proofs.YtipmfficjomcoaaDoor.Sl
namespace Go.Proofs.YtipmfficjomcoaaDoor.Vm
open Go.RowKit Go.Shelf Go.Proofs.YtipmfficjomcoaaDoor Mem Held Go.Proofs.YtipmfficjomcoaaDoor.Range Rc Rs Sl
def Fit (r : List Int) : Prop := ∀ z ∈ r, (Lit.int .i64 z).wf = true
theorem Fit.at_ {r : List Int} (h : Fit r) (i : Nat) : (Lit.int .i64 (r.getD i 0)).wf = true := by
  rw [List.getD_eq_getElem?_getD]
  cases hq : r[i]? with
  | none => rfl
  | some z => exact h z (List.mem_of_getElem? hq)
theorem bits_wf' (op : BinOp) (h : op = .and ∨ op = .or ∨ op = .xor) (a b : Int) : (Lit.int .i64 (bits op .i64 a b)).wf = true := by
  rcases h with rfl | rfl | rfl <;> exact i64_wf _
theorem opV_wf (o : O) {a b c : Int} (hn : (Lit.int .i64 o.n).wf = true) (ha : (Lit.int .i64 a).wf = true) (hb : (Lit.int .i64 b).wf = true) (hc : (Lit.int .i64 c).wf = true) : (Lit.int .i64 (opV o a b c)).wf = true := by
  unfold opV
  by_cases h1 : o.code = 1
  · rw [if_pos h1]; exact hn
  rw [if_neg h1]
  by_cases h2 : o.code = 2
  · rw [if_pos h2]; exact wrap64_wf _
  rw [if_neg h2]
  by_cases h3 : o.code = 3
  · rw [if_pos h3]; exact wrap64_wf _
  rw [if_neg h3]
  by_cases h4 : o.code = 4
  · rw [if_pos h4]; exact wrap64_wf _
  rw [if_neg h4]
  by_cases h5 : o.code = 5
  · rw [if_pos h5]; exact bits_wf' _ (.inl rfl) _ _
  rw [if_neg h5]
  by_cases h6 : o.code = 6
  · rw [if_pos h6]; exact bits_wf' _ (.inr (.inl rfl)) _ _
  rw [if_neg h6]
  by_cases h7 : o.code = 7
  · rw [if_pos h7]; exact bits_wf' _ (.inr (.inr rfl)) _ _
  rw [if_neg h7]
  by_cases h8 : o.code = 8
  · rw [if_pos h8]; split <;> rfl
  rw [if_neg h8]
  by_cases h9 : o.code = 9
  · rw [if_pos h9]; split <;> rfl
  rw [if_neg h9]
  by_cases h10 : o.code = 10
  · rw [if_pos h10]; split <;> assumption
  rw [if_neg h10]
  have h := wf_i64 ha
  have hp : (0 : Int) < 2 ^ (b % 64).toNat := Int.pow_pos (by omega)
  have e : a / 2 ^ (b % 64).toNat ≤ 9223372036854775807 := by
    by_cases h0 : 0 ≤ a
    · exact Int.le_trans (Int.ediv_le_self _ h0) h.2
    · exact Int.le_trans (Int.le_of_lt (Int.ediv_neg_of_neg_of_pos (by omega) hp)) (by omega)
  have e' : -9223372036854775808 ≤ a / 2 ^ (b % 64).toNat := by
    have := Int.le_ediv_of_mul_le hp (a := -9223372036854775808) (b := a) (by
      have hq : (1 : Int) ≤ 2 ^ (b % 64).toNat := by omega
      have : (-9223372036854775808 : Int) * 2 ^ (b % 64).toNat ≤ -9223372036854775808 := by omega
      omega)
    exact this
  generalize a / 2 ^ (b % 64).toNat = z at e e' ⊢
  simp [Lit.wf, IntKind.min, IntKind.max, IntKind.signed, IntKind.bits]
  omega
theorem Fit.step {r : List Int} (h : Fit r) (o : O) (hn : (Lit.int .i64 o.n).wf = true) : Fit (stepR o r) := by
  unfold stepR
  split
  · exact h
  · intro z hz
    rcases List.mem_or_eq_of_mem_set hz with hz | rfl
    · exact h z hz
    · exact opV_wf o hn (h.at_ _) (h.at_ _) (h.at_ _)
theorem Fit.run : ∀ {l : List O} {r : List Int}, Fit r → (∀ o ∈ l, o.wf) → Fit (runR l r)
  | [], _, h, _ => h
  | o :: l, r, h, hl => by
    have h2 := h.step o (hl o (by simp)).2.2.2.2.2
    exact Fit.run (l := l) (r := stepR o r) h2 (fun x hx => hl x (by simp [hx]))
end Go.Proofs.YtipmfficjomcoaaDoor.Vm
namespace Go.Proofs.YtipmfficjomcoaaDoor.Sp
open Go.RowKit Go.Shelf Mem Held Rc Rs Sl Vm
def rightB (r k b wk : Int) : Bool := decide (1 ≤ r) && decide (r ≤ 64) && (decide (1 ≤ k) && decide (k ≤ 4)) && (decide (1 ≤ b) && decide (b ≤ 8)) && (decide (1 ≤ wk) && decide (wk ≤ 4)) && decide (k * ((r + b - 1) / b) < 32)
def rightE (r k b wk : Int) : Int := if rightB r k b wk = true then 0 else 1
end Go.Proofs.YtipmfficjomcoaaDoor.Sp
namespace Go.Proofs.YtipmfficjomcoaaDoor.Vm
open Go.RowKit Go.Shelf Go.Proofs.YtipmfficjomcoaaDoor Mem Held Go.Proofs.YtipmfficjomcoaaDoor.Range Rc Rs Sl
attribute [local go_sem] Oper.semAt_some
attribute [local irreducible] wpList wpListIn Calls
end Go.Proofs.YtipmfficjomcoaaDoor.Vm
namespace Go.Proofs.YtipmfficjomcoaaDoor.Vm
open Go.RowKit Go.Shelf Go.Proofs.YtipmfficjomcoaaDoor Mem Held Go.Proofs.YtipmfficjomcoaaDoor.Range Rc Rs Sl
attribute [local irreducible] wpList wpListIn Calls
end Go.Proofs.YtipmfficjomcoaaDoor.Vm
namespace Go.Proofs.YtipmfficjomcoaaDoor.Sp
open Go.RowKit Go.Shelf Go.Proofs.YtipmfficjomcoaaDoor Mem Held Rc Rs Sl Vm
attribute [local irreducible] wpList wpListIn Calls
section
variable {P : Program} {S : World → Prop} {ρ : Operand → Value} {o : Oper}
theorem y_geq {t ty : TypeId} {x y : Operand} {k : IntKind} {a b : Int} {r : Bool} (ho : o.op = .binOp .geq t x y ty) (hx : ρ x = .int k a) (hy : ρ y = .int k b) (hr : decide (b ≤ a) = r) : ∀ w, S w → (execOp ρ o).run P w = .ok (.value (.bool r)) w :=
  Held.y_bin ho hx hy (fun w => by simp [eqGuard]) (fun w => by subst hr; simp [binOp, Op.intCmp])
end
def inB (n most : Int) : Bool := decide (1 ≤ n) && decide (n ≤ most)
set_option maxHeartbeats 1000000 in
theorem within_any (n most : Int) (b : Bool) (hb : inB n most = b) (w : World) :
    Calls Tryd.prog 73 #[.int .i64 n, .int .i64 most] w fun e w' => e = .returned (.bool b) ∧ w = w' := by
  subst hb
  go_enter Tryd.func73, Tryd.ntmps73
  by_cases h1 : n ≥ 1
  · by_cases h2 : n ≤ most
    · go_wp2_with fail
      go_ret
      exact ⟨Mem.ret_bool (by simp [inB, h2]; omega), rfl⟩
    · go_wp2_with fail
      go_ret
      exact ⟨Mem.ret_bool (by simp [inB, h2]), rfl⟩
  · go_wp2_with fail
    go_ret
    exact ⟨Mem.ret_bool (by simp [inB]; omega), rfl⟩
set_option maxHeartbeats 2000000 in
theorem blocks_any (r k b wk : Int) (hr1 : 1 ≤ r) (hr : r ≤ 64) (hb1 : 1 ≤ b) (hb : b ≤ 8) (w : World) :
    Calls Tryd.prog 74 #[.agg #[.int .i64 r, .int .i64 k, .int .i64 b, .int .i64 wk]] w fun e w' => e = .returned (.int .i64 ((r + b - 1) / b)) ∧ Below w.heap.size w w' := by
  have e1 : IntKind.i64.wrap (r + b) = r + b := by rw [IntKind.wrap_i64]; omega
  have e2 : IntKind.i64.wrap (r + b - 1) = r + b - 1 := by rw [IntKind.wrap_i64]; omega
  have hb0 : ¬ b = 0 := by omega
  have hb0' : b ≠ 0 := by omega
  have e3 : Int.tdiv (r + b - 1) b = (r + b - 1) / b := Int.tdiv_eq_ediv_of_nonneg (by omega)
  have e4 : IntKind.i64.wrap ((r + b - 1) / b) = (r + b - 1) / b := by
    have h1 : 0 ≤ (r + b - 1) / b := Int.ediv_nonneg (by omega) (by omega)
    have h2 : (r + b - 1) / b ≤ r + b - 1 := Int.ediv_le_self _ (by omega)
    rw [IntKind.wrap_i64]
    omega
  go_enter Tryd.func74, Tryd.ntmps74
  go_wp2_with (first
    | (refine wpList_box_blk (w := w) rfl 23 _ rfl #[.int .i64 r, .int .i64 k, .int .i64 b, .int .i64 wk] rfl ?_; intro w1 q1 g1 z1; have hc0 := q1.cell (i := 0) rfl; have hc2 := q1.cell (i := 2) rfl; have b1 : Below w.heap.size w w1 := (Below.refl _ w).grown g1 (Nat.le_refl _) (by simp); clear g1 z1 q1)
    | (refine wpList_run (w := w1) rfl (v := .pointer (some ⟨w.heap.size, 0, none⟩)) (Held.y_field (S := fun _ => True) (k := 0) (s := 0) rfl rfl Tryd.underlying23 rfl (by kernel_rfl) rfl _ trivial) ?_)
    | (refine wpList_run (w := w1) rfl (v := .pointer (some ⟨w.heap.size, 2, none⟩)) (Held.y_field (S := fun _ => True) (k := 2) (s := 0) rfl rfl Tryd.underlying23 rfl (by kernel_rfl) rfl _ trivial) ?_))
  go_ret
  exact ⟨rfl, b1⟩
theorem rightB_of (r k b wk : Int) : rightB r k b wk = (inB r 64 && inB k 4 && inB b 8 && inB wk 4 && decide (k * ((r + b - 1) / b) < 32)) := by
  simp [rightB, inB]
theorem inB_says {n most : Int} (h : inB n most = true) : 1 ≤ n ∧ n ≤ most := by simpa [inB] using h
set_option maxRecDepth 100000 in
set_option maxHeartbeats 8000000 in
theorem right_any (r k b wk : Int) (w : World) :
    Calls Tryd.prog 64 #[.agg #[.int .i64 r, .int .i64 k, .int .i64 b, .int .i64 wk]] w fun e w' => e = .returned (.int .i64 (rightE r k b wk)) ∧ Below w.heap.size w w' := by
  go_enter Tryd.func64, Tryd.ntmps64
  have HE := Lib.hid (show rightE r k b wk = if (inB r 64 && inB k 4 && inB b 8 && inB wk 4 && decide (k * ((r + b - 1) / b) < 32)) = true then 0 else 1 by rw [← rightB_of]; rfl)
  rw [HE.out]
  clear HE
  obtain ⟨B1, h1⟩ : ∃ B, inB r 64 = B := ⟨_, rfl⟩
  obtain ⟨B2, h2⟩ : ∃ B, inB k 4 = B := ⟨_, rfl⟩
  obtain ⟨B3, h3⟩ : ∃ B, inB b 8 = B := ⟨_, rfl⟩
  obtain ⟨B4, h4⟩ : ∃ B, inB wk 4 = B := ⟨_, rfl⟩
  rw [h1, h2, h3, h4]
  have H1 := Lib.hid h1
  have H2 := Lib.hid h2
  have H3 := Lib.hid h3
  have H4 := Lib.hid h4
  clear h1 h2 h3 h4
  cases B1 <;> cases B2 <;> cases B3 <;> cases B4
  case true.true.true.true =>
    obtain ⟨hr1, hr2⟩ := inB_says H1.out
    obtain ⟨hk1, hk2⟩ := inB_says H2.out
    obtain ⟨hb1, hb2⟩ := inB_says H3.out
    obtain ⟨BL, hBL⟩ : ∃ BL, (r + b - 1) / b = BL := ⟨_, rfl⟩
    have hBL0 : 0 ≤ BL := by rw [← hBL]; exact Int.ediv_nonneg (by omega) (by omega)
    have hBL1 : BL ≤ 71 := by
      have h2 : (r + b - 1) / b ≤ r + b - 1 := Int.ediv_le_self _ (by omega)
      omega
    have HM := Lib.hid (show IntKind.i64.wrap (k * ((r + b - 1) / b)) = k * ((r + b - 1) / b) by
      rw [hBL, IntKind.wrap_i64]
      have h1 : 0 ≤ k * BL := Int.mul_nonneg (by omega) hBL0
      have h2 : k * BL ≤ 4 * 71 := Int.mul_le_mul hk2 hBL1 hBL0 (by omega)
      omega)
    obtain ⟨GB, hGB⟩ : ∃ GB, decide (32 ≤ k * ((r + b - 1) / b)) = GB := ⟨_, rfl⟩
    have HG := Lib.hid hGB
    have HD := Lib.hid (show decide (k * ((r + b - 1) / b) < 32) = !GB by rw [← hGB, ← decide_not]; exact decide_eq_decide.2 (by omega))
    rw [HD.out]
    clear hBL hBL0 hBL1 hGB HD hk1 hk2
    go_wp2_with (first
      | (refine wpList_box_blk (w := w) rfl 23 _ rfl #[.int .i64 r, .int .i64 k, .int .i64 b, .int .i64 wk] rfl ?_; intro u1 q1 g1 z1; have hc0 := q1.cell (i := 0) rfl; have hc1 := q1.cell (i := 1) rfl; have hc2 := q1.cell (i := 2) rfl; have hc3 := q1.cell (i := 3) rfl; have bb : Below w.heap.size w u1 := (Below.refl _ w).grown g1 (Nat.le_refl _) (by simp); clear g1 z1)
      | (refine wpList_run (w := u1) rfl (v := .pointer (some ⟨w.heap.size, 0, none⟩)) (Held.y_field (S := fun _ => True) (k := 0) (s := 0) rfl rfl Tryd.underlying23 rfl (by kernel_rfl) rfl _ trivial) ?_)
      | (refine wpList_run (w := u1) rfl (v := .pointer (some ⟨w.heap.size, 1, none⟩)) (Held.y_field (S := fun _ => True) (k := 1) (s := 0) rfl rfl Tryd.underlying23 rfl (by kernel_rfl) rfl _ trivial) ?_)
      | (refine wpList_run (w := u1) rfl (v := .pointer (some ⟨w.heap.size, 2, none⟩)) (Held.y_field (S := fun _ => True) (k := 2) (s := 0) rfl rfl Tryd.underlying23 rfl (by kernel_rfl) rfl _ trivial) ?_)
      | (refine wpList_run (w := u1) rfl (v := .pointer (some ⟨w.heap.size, 3, none⟩)) (Held.y_field (S := fun _ => True) (k := 3) (s := 0) rfl rfl Tryd.underlying23 rfl (by kernel_rfl) rfl _ trivial) ?_)
      | (go_at_call 73; (first | refine (within_any r 64 _ H1.out u1).mono ?_ | refine (within_any k 4 _ H2.out u1).mono ?_ | refine (within_any b 8 _ H3.out u1).mono ?_ | refine (within_any wk 4 _ H4.out u1).mono ?_); rintro e w' ⟨rfl, rfl⟩))
    refine wp_region_held (S := fun W => Below u1.heap.size u1 W) (by kernel_rfl) ?_
    change wpAnyH _ _ _ _ _ _ _ _ u1.drew
    have c0_0 := (Below.refl u1.heap.size u1).drew
    refine Held.tk (v := .pointer (some ⟨w.heap.size, 1, none⟩)) 0 (some 25) rfl (Held.y_field (k := 1) (s := 0) rfl rfl Tryd.underlying23 rfl (by kernel_rfl) rfl) c0_0 ?_
    simp only [Act.put, Z1, Z2, Z3]
    refine Held.tk (v := .int .i64 k) 1 (some 26) rfl (Held.y_load rfl rfl (by kernel_rfl) (fun W hW => (q1.below hW q1.lt).cell rfl)) c0_0 ?_
    simp only [Act.put, Z1, Z2, Z3]
    refine Held.tk (v := .agg #[.int .i64 r, .int .i64 k, .int .i64 b, .int .i64 wk]) 2 (some 27) rfl (Held.y_load_blk (n := 4) rfl rfl Tryd.underlying23 rfl (by kernel_rfl) rfl (fun W hW => q1.below hW q1.lt)) c0_0 ?_
    simp only [Act.put, Z1, Z2, Z3]
    refine Held.one 3 (by kernel_rfl) ?_
    refine Held.op_call 3 (some 28) 74 #[.agg #[.int .i64 r, .int .i64 k, .int .i64 b, .int .i64 wk]] rfl rfl rfl rfl (enters_of Tryd.func74 (by kernel_rfl) rfl) (by simp [Act.eval])
      (blocks_any r k b wk hr1 hr2 hb1 hb2 _) ?_
    rintro e w1 ⟨rfl, b1⟩
    have c0_1 := c0_0.trans (b1.mono c0_0.size)
    refine ⟨_, rfl, c0_1, ?_⟩
    simp only [Act.put, Z1, Z2, Z3]
    refine Held.tk (v := .int .i64 (k * ((r + b - 1) / b))) 4 (some 29) rfl (Held.y_int rfl rfl rfl (Held.run_mul 3 .i64 HM.out)) c0_1 ?_
    simp only [Act.put, Z1, Z2, Z3]
    refine Held.tk (v := .bool GB) 5 (some 30) rfl (y_geq rfl rfl rfl HG.out) c0_1 ?_
    simp only [Act.put, Z1, Z2, Z3]
    refine wpAnyH_done (by kernel_rfl) ?_ _
    have bz := bb.trans (c0_1.mono bb.size)
    cases GB
    all_goals
      go_wp2_with fail
      go_ret
      exact ⟨rfl, bz⟩
  all_goals go_wp2_with (first
    | (refine wpList_box_blk (w := w) rfl 23 _ rfl #[.int .i64 r, .int .i64 k, .int .i64 b, .int .i64 wk] rfl ?_; intro u1 q1 g1 z1; have hc0 := q1.cell (i := 0) rfl; have hc1 := q1.cell (i := 1) rfl; have hc2 := q1.cell (i := 2) rfl; have hc3 := q1.cell (i := 3) rfl; have bb : Below w.heap.size w u1 := (Below.refl _ w).grown g1 (Nat.le_refl _) (by simp); clear g1 z1)
    | (refine wpList_run (w := u1) rfl (v := .pointer (some ⟨w.heap.size, 0, none⟩)) (Held.y_field (S := fun _ => True) (k := 0) (s := 0) rfl rfl Tryd.underlying23 rfl (by kernel_rfl) rfl _ trivial) ?_)
    | (refine wpList_run (w := u1) rfl (v := .pointer (some ⟨w.heap.size, 1, none⟩)) (Held.y_field (S := fun _ => True) (k := 1) (s := 0) rfl rfl Tryd.underlying23 rfl (by kernel_rfl) rfl _ trivial) ?_)
    | (refine wpList_run (w := u1) rfl (v := .pointer (some ⟨w.heap.size, 2, none⟩)) (Held.y_field (S := fun _ => True) (k := 2) (s := 0) rfl rfl Tryd.underlying23 rfl (by kernel_rfl) rfl _ trivial) ?_)
    | (refine wpList_run (w := u1) rfl (v := .pointer (some ⟨w.heap.size, 3, none⟩)) (Held.y_field (S := fun _ => True) (k := 3) (s := 0) rfl rfl Tryd.underlying23 rfl (by kernel_rfl) rfl _ trivial) ?_)
    | (go_at_call 73; (first | refine (within_any r 64 _ H1.out u1).mono ?_ | refine (within_any k 4 _ H2.out u1).mono ?_ | refine (within_any b 8 _ H3.out u1).mono ?_ | refine (within_any wk 4 _ H4.out u1).mono ?_); rintro e w' ⟨rfl, rfl⟩))
  all_goals (go_ret; exact ⟨rfl, bb⟩)
end Go.Proofs.YtipmfficjomcoaaDoor.Sp
namespace Go.Proofs.YtipmfficjomcoaaDoor.Sh
open Go.RowKit Go.Shelf Mem Held Go.Proofs.YtipmfficjomcoaaDoor.Range Sl
attribute [local go_sem] Oper.semAt_some
attribute [local irreducible] wpList wpListIn Calls
section
variable {P : Program} {ops : Array Oper} {rest : List Oper} {o : Oper} {a : Act} {w : World} {Q : Exit → Act → World → Prop}
theorem wpList_fld0 (hw : Region.wanted o (yielded ops a.tmps) = true) {t : TypeId} {x : Operand} {b j k s : Nat} {fs : Array Field} (ho : o.op = .fieldAddr t x j) (hx : a.eval x = .pointer (some ⟨b, 0, none⟩)) (hu : P.underlying t = some (.struct fs)) (hk : (fs[j]?).map (·.offset) = some k) (hz : (fs[j]?).bind (fun f => (P.info? f.type).map (·.size)) = some (s + 1))
    (h : wpList P ops Q rest (a.put o.dst (.pointer (some ⟨b, k, none⟩))) w) : wpList P ops Q (o :: rest) a w :=
  Held.wpList_run hw (v := .pointer (some ⟨b, k, none⟩)) (by
    have := Held.y_field (P := P) (S := fun _ => True) (ρ := a.eval) (o := o) (b := b) (off := 0) (j := j) (k := k) (m := k) (s := s) ho hx hu hk hz (by omega) w trivial
    exact this) h
end
def inN (r k b wk : Int) : Nat := if Sp.rightB r k b wk = true then ((r + b - 1) / b).toNat else 0
def mpN (r k b wk : Int) : Nat := if Sp.rightB r k b wk = true then (k * ((r + b - 1) / b)).toNat else 0
def mN (r k b wk : Int) : Nat := if Sp.rightB r k b wk = true then (Bi.padV (k * ((r + b - 1) / b) + 1)).toNat else 0
def tN (r k b wk : Int) : Nat := Bi.tri (Bi.stg (mN r k b wk))
theorem right_says {r k b wk : Int} (h : Sp.rightB r k b wk = true) : (1 ≤ r ∧ r ≤ 64) ∧ (1 ≤ k ∧ k ≤ 4) ∧ (1 ≤ b ∧ b ≤ 8) ∧ (1 ≤ wk ∧ wk ≤ 4) ∧ (1 ≤ (r + b - 1) / b ∧ (r + b - 1) / b ≤ 64) ∧ (1 ≤ k * ((r + b - 1) / b) ∧ k * ((r + b - 1) / b) < 32) := by
  rw [Sp.rightB_of] at h
  simp only [Bool.and_eq_true, decide_eq_true_eq] at h
  obtain ⟨⟨⟨⟨h1, h2⟩, h3⟩, h4⟩, h5⟩ := h
  have h1 := Sp.inB_says h1
  have h2 := Sp.inB_says h2
  have h3 := Sp.inB_says h3
  have h4 := Sp.inB_says h4
  have e1 : 1 ≤ (r + b - 1) / b := by
    rw [Int.le_ediv_iff_mul_le (by omega)]
    omega
  have e2 : (r + b - 1) / b ≤ 64 := by
    have : (r + b - 1) / b < 65 := by
      rw [Int.ediv_lt_iff_lt_mul (by omega)]
      omega
    omega
  refine ⟨h1, h2, h3, h4, ⟨e1, e2⟩, ?_, h5⟩
  have := Int.mul_le_mul h2.1 e1 (by omega) (by omega)
  omega
theorem pad_says : ∀ p : Fin 32, 1 ≤ p.val → ∃ S, 1 ≤ S ∧ S ≤ 5 ∧ Bi.padV ((p.val : Int) + 1) = ((2 ^ S : Nat) : Int) ∧ p.val < 2 ^ S := by
  have : ∀ p : Fin 32, 1 ≤ p.val → 1 ≤ Bi.padS ((p.val : Int) + 1) ∧ Bi.padS ((p.val : Int) + 1) ≤ 5 ∧ (p.val : Int) < 2 ^ Bi.padS ((p.val : Int) + 1) := by decide +kernel
  intro p hp
  obtain ⟨k1, k2, k3⟩ := this p hp
  refine ⟨_, k1, k2, by unfold Bi.padV; exact Bi.two_nat _, ?_⟩
  rw [Bi.two_nat] at k3
  exact_mod_cast k3
theorem job_of {r k b wk : Int} (h0 : -9223372036854775808 ≤ k) (h1 : k ≤ 9223372036854775807) : JobP k (inN r k b wk) (mpN r k b wk) (mN r k b wk) (tN r k b wk) := by
  by_cases hR : Sp.rightB r k b wk = true
  · obtain ⟨_, ⟨hk1, hk4⟩, _, _, ⟨hi1, hi⟩, hq1, hq⟩ := right_says hR
    unfold tN inN mpN mN
    rw [if_pos hR, if_pos hR, if_pos hR]
    generalize (r + b - 1) / b = q at *
    obtain ⟨I, rfl⟩ : ∃ I : Nat, q = (I : Int) := ⟨q.toNat, by omega⟩
    obtain ⟨p, hp⟩ : ∃ p : Nat, k * (I : Int) = (p : Int) := ⟨(k * (I : Int)).toNat, by omega⟩
    have hIp : (I : Int) ≤ k * (I : Int) := by
      have := Int.mul_le_mul_of_nonneg_right hk1 (show (0 : Int) ≤ I by omega)
      omega
    rw [hp] at hq1 hq hIp ⊢
    obtain ⟨S, s1, s5, e, hlt⟩ := pad_says ⟨p, by omega⟩ (by show 1 ≤ p; omega)
    have e : Bi.padV ((p : Int) + 1) = ((2 ^ S : Nat) : Int) := e
    have hlt : p < 2 ^ S := hlt
    have h32 : 2 ^ S ≤ 32 := Nat.pow_le_pow_right (n := 2) (i := S) (by omega) s5
    rw [e]
    simp only [Int.toNat_natCast]
    exact ⟨by omega, by omega, hp, by omega, h32, by omega, rfl, .inr ⟨S, s1, s5, rfl⟩⟩
  · unfold tN inN mpN mN
    rw [if_neg hR, if_neg hR, if_neg hR]
    exact ⟨h0, h1, by simp, Nat.le_refl _, by omega, Nat.le_refl _, rfl, .inl rfl⟩
set_option maxRecDepth 100000 in
set_option maxHeartbeats 4000000 in
theorem blocks_any (r k b wk : Int) (w : World) :
    Calls Tryd.prog 53 #[.agg #[.int .i64 r, .int .i64 k, .int .i64 b, .int .i64 wk]] w fun e w' => e = .returned (.tuple #[.int .i64 (inN r k b wk : Int), .int .i64 (mN r k b wk : Int)]) ∧ Below w.heap.size w w' := by
  by_cases hR : Sp.rightB r k b wk = true
  · have HI := Lib.hid (show (inN r k b wk : Int) = (r + b - 1) / b by
      obtain ⟨_, _, _, _, h, _⟩ := right_says hR
      rw [inN, if_pos hR]; omega)
    have HM := Lib.hid (show (mN r k b wk : Int) = Bi.padV (k * ((r + b - 1) / b) + 1) by
      rw [mN, if_pos hR]; unfold Bi.padV; have := Bi.two_pos (Bi.padS (k * ((r + b - 1) / b) + 1)); omega)
    obtain ⟨⟨hr1, hr⟩, ⟨hk1, hk⟩, ⟨hb1, hb⟩, ⟨hw1, hw4⟩, ⟨hi1, hi⟩, hq1, hq⟩ := right_says hR
    have HR := Lib.hid (show Sp.rightE r k b wk = 0 by rw [Sp.rightE, if_pos hR])
    have e1 : IntKind.i64.wrap (r + b) = r + b := by rw [IntKind.wrap_i64]; omega
    have e2 : IntKind.i64.wrap (r + b - 1) = r + b - 1 := by rw [IntKind.wrap_i64]; omega
    have hb0 : ¬ b = 0 := by omega
    have hb0' : b ≠ 0 := by omega
    have e3 : Int.tdiv (r + b - 1) b = (r + b - 1) / b := Int.tdiv_eq_ediv_of_nonneg (by omega)
    have e4 : IntKind.i64.wrap ((r + b - 1) / b) = (r + b - 1) / b := by rw [IntKind.wrap_i64]; omega
    have e5 : IntKind.i64.wrap (k * ((r + b - 1) / b)) = k * ((r + b - 1) / b) := by rw [IntKind.wrap_i64]; omega
    have e6 : IntKind.i64.wrap (k * ((r + b - 1) / b) + 1) = k * ((r + b - 1) / b) + 1 := by rw [IntKind.wrap_i64]; omega
    have HP := fun W => Bi.padded_any (k * ((r + b - 1) / b) + 1) W (by omega) (by omega)
    rw [HI.out, HM.out]
    clear HI HM
    generalize Bi.padV (k * ((r + b - 1) / b) + 1) = M at *
    generalize (r + b - 1) / b = q at *
    clear hR hq1 hq hi1 hi hw1 hw4
    go_enter Tryd.func53, Tryd.ntmps53
    go_wp2_with (first
      | (refine wpList_box_blk (w := w) rfl 23 _ rfl _ rfl ?_; intro u1 qu1 gu1 zu1; have b1 : Below w.heap.size w u1 := (Below.refl _ w).grown gu1 (Nat.le_refl _) (by simp); clear gu1 zu1)
      | (refine wpList_load_blk (w := u1) rfl 23 _ rfl (w.heap.size) 4 rfl 23 _ qu1 _ Tryd.underlying23 rfl (by kernel_rfl) rfl ?_))
    refine (Sp.right_any r k b wk u1).mono ?_
    rintro e w2 ⟨rfl, b2⟩
    rw [HR.out]
    have q1 := qu1.after b2
    have b2 := b1.trans (b2.mono b1.size)
    have hc0 := q1.cell (i := 0) rfl
    have hc1 := q1.cell (i := 1) rfl
    have hc2 := q1.cell (i := 2) rfl
    clear b1 q1 qu1
    go_wp2_with (first
      | (refine wpList_fld0 (w := w2) rfl rfl rfl Tryd.underlying23 rfl (by kernel_rfl) ?_))
    refine (HP w2).mono ?_
    rintro e w3 ⟨rfl, rfl⟩
    go_wp2_with fail
    go_ret2
    exact ⟨rfl, b2⟩
  · have HR := Lib.hid (show Sp.rightE r k b wk = 1 by rw [Sp.rightE, if_neg hR])
    have HI := Lib.hid (show inN r k b wk = 0 by rw [inN, if_neg hR])
    have HM := Lib.hid (show mN r k b wk = 0 by rw [mN, if_neg hR])
    rw [HI.out, HM.out]
    clear HI HM hR
    go_enter Tryd.func53, Tryd.ntmps53
    go_wp2_with (first
      | (refine wpList_box_blk (w := w) rfl 23 _ rfl _ rfl ?_; intro u1 qu1 gu1 zu1; have b1 : Below w.heap.size w u1 := (Below.refl _ w).grown gu1 (Nat.le_refl _) (by simp); clear gu1 zu1)
      | (refine wpList_load_blk (w := u1) rfl 23 _ rfl (w.heap.size) 4 rfl 23 _ qu1 _ Tryd.underlying23 rfl (by kernel_rfl) rfl ?_))
    refine (Sp.right_any r k b wk u1).mono ?_
    rintro e w2 ⟨rfl, b2⟩
    rw [HR.out]
    have b2 := b1.trans (b2.mono b1.size)
    clear b1 qu1
    go_wp2_with fail
    go_ret2
    exact ⟨rfl, b2⟩
set_option maxRecDepth 100000 in
set_option maxHeartbeats 4000000 in
theorem jobOf_any (r k b wk : Int) (w : World) :
    Calls Tryd.prog 33 #[.agg #[.int .i64 r, .int .i64 k, .int .i64 b, .int .i64 wk]] w fun e w' => e = .returned (.agg #[.int .i64 k, .int .i64 (inN r k b wk : Int), .int .i64 (mN r k b wk : Int)]) ∧ Below w.heap.size w w' := by
  have HB := fun W => blocks_any r k b wk W
  generalize inN r k b wk = I at *
  generalize mN r k b wk = M at *
  go_enter Tryd.func33, Tryd.ntmps33
  go_wp2_with (first
    | (refine wpList_box_blk (w := w) rfl 23 _ rfl _ rfl ?_; intro u1 qu1 gu1 zu1)
    | (refine wpList_alloc_blk (w := u1) rfl 62 rfl #[.int .i64 0, .int .i64 0, .int .i64 0] (by kernel_rfl) ?_; intro u2 qu2 gu2 zu2; have q1 := qu1.grown gu2 (by simp); have b2 : Below w.heap.size w u2 := ((Below.refl _ w).grown gu1 (Nat.le_refl _) (by simp)).grown gu2 gu1.size (by simp); have l1 : w.heap.size < u1.heap.size := qu1.lt)
    | (refine wpList_load_blk (w := u2) rfl 23 _ rfl (w.heap.size) 4 rfl 23 _ q1 _ Tryd.underlying23 rfl (by kernel_rfl) rfl ?_))
  refine (HB u2).mono ?_
  rintro e w3 ⟨rfl, b3⟩
  have q1 := q1.after b3
  have q2 := qu2.after b3
  have b3 := b2.trans (b3.mono b2.size)
  have hc1 := q1.cell (i := 1) rfl
  generalize u1.heap.size = gj at *
  clear gu1 gu2 zu1 zu2 qu1 qu2 b2 HB
  go_wp2_with (first
    | (refine wpList_fld0 (w := w3) rfl rfl rfl Tryd.underlying23 rfl (by kernel_rfl) ?_)
    | (refine wpList_build_blk rfl 62 #[_, _, _] rfl #[.int .i64 k, .int .i64 (I : Int), .int .i64 (M : Int)] (by kernel_rfl) ?_)
    | (refine wpList_store_blk (w := w3) rfl 62 _ _ rfl (gj) 3 rfl 62 _ #[.int .i64 k, .int .i64 (I : Int), .int .i64 (M : Int)] rfl q2 (by kernel_rfl) rfl rfl (by kernel_rfl) ?_; intro u4 qu4 gu4 zu4))
  exact bodyPost_ret (results_blk rfl _ _ gj 3 _ _ rfl qu4 _ Tryd.underlying62 rfl (by kernel_rfl) rfl) rfl ⟨rfl, b3.grown gu4 b3.size (fun r e => by cases e; omega)⟩
theorem mul_i64 {K : Int} {I mp M T : Nat} (h : JobP K I mp M T) : IntKind.i64.wrap (K * (I : Int)) = (mp : Int) := by
  rw [h.e, IntKind.wrap_i64]
  have := h.le
  have := h.m32
  omega
set_option maxRecDepth 100000 in
set_option maxHeartbeats 4000000 in
theorem mapped_any (K : Int) (I mp M T : Nat) (h : JobP K I mp M T) (w : World) :
    Calls Tryd.prog 66 #[.agg #[.int .i64 K, .int .i64 (I : Int), .int .i64 (M : Int)]] w fun e w' => e = .returned (.int .i64 (mp : Int)) ∧ Below w.heap.size w w' := by
  have HW := mul_i64 h
  clear h
  go_enter Tryd.func66, Tryd.ntmps66
  go_wp2_with (first
    | (refine wpList_box_blk (w := w) rfl 62 _ rfl _ rfl ?_; intro u1 qu1 gu1 zu1; have b1 : Below w.heap.size w u1 := (Below.refl _ w).grown gu1 (Nat.le_refl _) (by simp); have hc0 := qu1.cell (i := 0) rfl; have hc1 := qu1.cell (i := 1) rfl; clear gu1 zu1)
    | (refine wpList_fld0 (w := u1) rfl rfl rfl Tryd.underlying62 rfl (by kernel_rfl) ?_)
    | (refine Held.wpList_run (w := u1) rfl (v := .int .i64 (mp : Int)) (Held.y_int (S := fun _ => True) rfl rfl rfl (Held.run_mul 3 .i64 HW) _ trivial) ?_))
  go_ret
  exact ⟨rfl, b1⟩
set_option maxRecDepth 100000 in
set_option maxHeartbeats 4000000 in
theorem nrounds_any (K : Int) (I mp M T : Nat) (h : JobP K I mp M T) (w : World) (hT : Bi.TzT w) :
    Calls Tryd.prog 50 #[.agg #[.int .i64 K, .int .i64 (I : Int), .int .i64 (M : Int)]] w fun e w' => e = .returned (.int .i64 (T : Int)) ∧ Below w.heap.size w w' := by
  have HR := fun W hT => Bi.rounds_any (M : Int) W (by omega) (by have := h.m32; omega) hT
  rw [h.T] at HR
  clear h
  go_enter Tryd.func50, Tryd.ntmps50
  go_wp2_with (first
    | (refine wpList_box_blk (w := w) rfl 62 _ rfl _ rfl ?_; intro u1 qu1 gu1 zu1; have b1 : Below w.heap.size w u1 := (Below.refl _ w).grown gu1 (Nat.le_refl _) (by simp); have hc2 := qu1.cell (i := 2) rfl; clear gu1 zu1)
    | (refine wpList_fld0 (w := u1) rfl rfl rfl Tryd.underlying62 rfl (by kernel_rfl) ?_))
  refine (HR u1 (hT.below b1 hT.lt)).mono ?_
  rintro e w2 ⟨rfl, rfl⟩
  go_wp2_with fail
  go_ret
  exact ⟨rfl, b1⟩
set_option maxRecDepth 100000 in
set_option maxHeartbeats 4000000 in
theorem roundsOf_any (K : Int) (I mp M T c : Nat) (h : JobP K I mp M T) (h1 : 1 ≤ c) (h5 : c ≤ 5) (w : World) (hT : Bi.TzT w) :
    Calls Tryd.prog 55 #[.agg #[.int .i64 K, .int .i64 (I : Int), .int .i64 (M : Int)], .int .i64 (c : Int)] w fun e w' => e = .returned (.tuple #[.int .i64 (frK c : Int), .int .i64 ((if c = 3 ∨ c = 5 then T else 0 : Nat) : Int)]) ∧ Below w.heap.size w w' := by
  have HR := fun W hT => nrounds_any K I mp M T h W hT
  clear h
  have hc : c = 1 ∨ c = 2 ∨ c = 3 ∨ c = 4 ∨ c = 5 := by omega
  go_enter Tryd.func55, Tryd.ntmps55
  rcases hc with rfl | rfl | rfl | rfl | rfl
  case inl | inr.inl | inr.inr.inr.inl =>
    go_wp2_with (first
      | (refine wpList_box_blk (w := w) rfl 62 _ rfl _ rfl ?_; intro u1 qu1 gu1 zu1; have b1 : Below w.heap.size w u1 := (Below.refl _ w).grown gu1 (Nat.le_refl _) (by simp); clear gu1 zu1))
    go_ret2
    exact ⟨rfl, b1⟩
  all_goals
    go_wp2_with (first
      | (refine wpList_box_blk (w := w) rfl 62 _ rfl _ rfl ?_; intro u1 qu1 gu1 zu1; have b1 : Below w.heap.size w u1 := (Below.refl _ w).grown gu1 (Nat.le_refl _) (by simp); clear gu1 zu1)
      | (refine wpList_load_blk (w := u1) rfl 62 _ rfl (w.heap.size) 3 rfl 62 _ qu1 _ Tryd.underlying62 rfl (by kernel_rfl) rfl ?_))
    refine (HR u1 (hT.below b1 hT.lt)).mono ?_
    rintro e w2 ⟨rfl, b2⟩
    have b2 := b1.trans (b2.mono b1.size)
    go_wp2_with fail
    go_ret2
    exact ⟨rfl, b2⟩
end Go.Proofs.YtipmfficjomcoaaDoor.Sh
