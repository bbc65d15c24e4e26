/-
  What the frame of a proof says of a record that came in by value; two records, two arrays of numbers held against each other.
  Package record's mayBe, and its iterator over words, by their contracts.
  Package record's Pack and Take, by their contracts.
  Records as plain things, lists of them in memory, cell by cell; a call of a function value within a region that draws its order: no program here but the type of a record.
  Programs of layer 11 as plain functions: which may be, what each operation makes of its numbers, what a part leaves in its registers and emits: no program here but the kinds of its lists.
  Package vm's same, pick, result and emitted, by their contracts.
  Package vm's mayStand, by its contract.
  The functions Same and Plain of package dominohelp on records, by their contracts.
  The functions Own and Kept of package dominohelp on records, by their contracts.
  Package record's Take, by its contract.
  A number's eight bytes, numbers' bytes, and a number of bytes, by the document's own, by their contracts: with no other layer.
  Slices cut: s[:h] and s[l:] by their run, and what they read as.
  The document's own Ahead, Before, Pack and Take of records, and the laws' first line, by their contracts.
  The document's own may, Size and Pack of blocks, by their contracts.
  The document's own Size of blocks (package dominoref10) by its contract.
  Package block: which sizes may be, how long blocks are, and the iterator over records with dead ones behind them, by their contracts.
  Package vm's iterator over a part's operations, by its contract: it hands out each of them, in order, till it is told to stop.
  Package vm's mayBe, by its contract.
  Package vm's Check, by its contract.
  More of lists of structs in memory: made (zeros), copied: no program here.
  slices.Repeat of one record, up to four times, by its contract.
  More steps of a region: a nil check passed, one cell or one struct stored into a block that is known whole, some numbers copied to its head: no program here.
  What a machine of package vm holds, as plain functions: its cells, one operation more, and that its numbers fit: no program here but the kinds.
  What a job is to tell, as plain functions: the records that are not dead, each key's values as one, the keys in order: no program here but the kinds of its lists.
  The method run of package vm's machine, by its contract: its registers and slots are what the operations leave, one by one.
  Package vm's Fold and Finish, by their contracts.
  Package spec's within, blocks and Right, by their contracts.
  dominohelp.Stops of package bitonic's iterator: told to stop behind so many pairs it hands out no more.
  A region that draws its order and in the end stores into what it has loaded: what is loaded ahead of a store that waits for it may be taken first, as long as a condition holds till that store.
  dominohelp.Seq2 of package bitonic's iterator: the first places of a round's pairs, and the second ones, as two lists of the call's own.
  dominohelp.Seq2 of package bitonic's iterator, by its contract.
-/
import Derived.Test.YtipmfficjomcoaaDoorB3
import Derived.Test.YtipmfficjomcoaaDoorB1
import Derived.WideShapes
import Derived.ChangeArms
import Derived.Laws.StructEq
import Derived.Deep.MidRow
import Derived.Test.YtipmfficjomcoaaDoorB2
import Derived.Laws.Bits128
import Derived.WalkMore
import Derived.OwnWalk
import Derived.Lib.BufferOwn
import Derived.Maps.AppendAt
import Derived.Great.BuildSlice
import Derived.Laws.Slices
import Derived.BigQuiet
import Derived.Laws.CopyOwn
set_option linter.unusedVariables false
namespace Go.Proofs.YtipmfficjomcoaaDoor.Rc
open Go.RowKit Go.ChangeShapes Go.WideShapes Mem
section
variable {H : Type} {enc : TypeId × Value → H} {w : World} {base : Nat} {spare : Nat → Bool} {held : Bool}
theorem field_int {cs : List Value} {j n : Nat} {t : TypeId} {k : IntKind} {x : Option (DataW H × List MemPlace)} (hj : j < cs.length) (ht : Tryd.prog.underlying t = some (.int k)) (h : DataW.trod enc Tryd.prog w base spare held n t ((cs.drop j).take 1) = x) (hx : x.isSome = true) : ∃ z, cs[j]? = some (.int k z) ∧ (Lit.int k z).wf = true := by
  obtain ⟨y, rfl⟩ := Option.isSome_iff_exists.1 hx
  obtain ⟨z, h2, _, h3⟩ := DataW.trod_int ht h
  rw [List.drop_eq_getElem_cons hj] at h2
  simp only [List.take_succ_cons, List.take_zero] at h2
  exact ⟨z, by rw [List.getElem?_eq_getElem hj, (List.cons.inj h2).1], h3⟩
end
section
variable {S : World → Prop} {ρ : Operand → Value} {o : Oper}
end
end Go.Proofs.YtipmfficjomcoaaDoor.Rc
namespace Go.Proofs.YtipmfficjomcoaaDoor.Rc
open Go.RowKit Go.Shelf Go.Proofs.YtipmfficjomcoaaDoor Mem Help Go.Proofs.YtipmfficjomcoaaDoor.Sum Po Ky Ct Go.Proofs.YtipmfficjomcoaaDoor.Bit Held Go.Proofs.YtipmfficjomcoaaDoor.Range
attribute [local go_sem] Oper.semAt_some
attribute [local irreducible] wpList wpListIn Calls
def may (n0 n1 n2 n3 : Int) : Bool := decide (n0 = 0) || (decide (n0 = 1) && decide (n1 = 0 ∧ n2 = 0 ∧ n3 = 0))
end Go.Proofs.YtipmfficjomcoaaDoor.Rc
namespace Go.Proofs.YtipmfficjomcoaaDoor.Rc
open Go.RowKit Go.Shelf Go.Proofs.YtipmfficjomcoaaDoor Mem Help Go.Proofs.YtipmfficjomcoaaDoor.Sum Po Ky Ct Go.Proofs.YtipmfficjomcoaaDoor.Bit Held Go.Proofs.YtipmfficjomcoaaDoor.Range
attribute [local go_sem] Oper.semAt_some
attribute [local irreducible] wpList wpListIn Calls
end Go.Proofs.YtipmfficjomcoaaDoor.Rc
namespace Go.Proofs.YtipmfficjomcoaaDoor.Rs
open Go.RowKit Go.Shelf Mem Held Rc
structure R where
  d : Bool
  k : Int
  v : Int
  s : Int
theorem R.eq {a b : R} (h1 : a.d = b.d) (h2 : a.k = b.k) (h3 : a.v = b.v) (h4 : a.s = b.s) : a = b := by
  cases a
  cases b
  simp_all
instance decR : DecidableEq R := fun a b =>
  if h : a.d = b.d ∧ a.k = b.k ∧ a.v = b.v ∧ a.s = b.s then .isTrue (R.eq h.1 h.2.1 h.2.2.1 h.2.2.2)
  else .isFalse fun e => h (by rw [e]; exact ⟨rfl, rfl, rfl, rfl⟩)
def R.wf (r : R) : Prop := (Lit.int .i64 r.k).wf = true ∧ (Lit.int .i64 r.v).wf = true ∧ (Lit.int .i64 r.s).wf = true
def R.cells (r : R) : List Value := [.bool r.d, .int .i64 r.k, .int .i64 r.v, .int .i64 r.s]
def R0 : R := ⟨false, 0, 0, 0⟩
def flat (rs : List R) : List Value := rs.flatMap R.cells
theorem flat_length : ∀ rs : List R, (flat rs).length = rs.length * 4
  | [] => rfl
  | r :: rs => by
    have := flat_length rs
    simp only [flat, List.flatMap_cons, List.length_append, List.length_cons, R.cells, List.length_nil] at this ⊢
    omega
theorem flat_append (rs qs : List R) : flat (rs ++ qs) = flat rs ++ flat qs := by simp [flat]
theorem flat_at : ∀ (rs : List R) (i j : Nat), j < 4 → i < rs.length → (flat rs)[i * 4 + j]? = (rs.getD i R0).cells[j]?
  | [], i, j, _, h => absurd h (by simp)
  | r :: rs, 0, j, hj, _ => by
    simp only [flat, List.flatMap_cons, Nat.zero_mul, Nat.zero_add, List.getD_cons_zero]
    rw [List.getElem?_append_left (by simp [R.cells]; omega)]
  | r :: rs, i + 1, j, hj, h => by
    have := flat_at rs i j hj (by simpa using h)
    simp only [flat, List.flatMap_cons, List.getD_cons_succ] at this ⊢
    rw [List.getElem?_append_right (by simp [R.cells]; omega), show (i + 1) * 4 + j - r.cells.length = i * 4 + j by simp [R.cells]; omega, this]
def Recs (w : World) (B : Nat) (A : Option Addr) (n : Nat) (rs : List R) : Prop :=
  rs.length = n ∧ (∀ r ∈ rs, r.wf) ∧ (0 < n → ∃ b off, A = some ⟨b, off, none⟩ ∧ b < B ∧ w.rangeAt b off (flat rs))
section
variable {w w' : World} {B B' n : Nat} {A : Option Addr} {rs : List R}
theorem Recs.nil (w : World) (B : Nat) (A : Option Addr) : Recs w B A 0 [] := ⟨rfl, by simp, fun h => absurd h (by omega)⟩
theorem Recs.keep (h : Recs w B A n rs) (hk : ∀ p : Addr, p.block < B → w'.cell? p = w.cell? p) : Recs w' B A n rs :=
  ⟨h.1, h.2.1, fun hn => by
    obtain ⟨b, off, e, hb, hc⟩ := h.2.2 hn
    exact ⟨b, off, e, hb, fun j v hv => (hk ⟨b, off + j, none⟩ hb).trans (hc j v hv)⟩⟩
theorem Recs.more (h : Recs w B A n rs) (hB : B ≤ B') : Recs w B' A n rs :=
  ⟨h.1, h.2.1, fun hn => by
    obtain ⟨b, off, e, hb, hc⟩ := h.2.2 hn
    exact ⟨b, off, e, by omega, hc⟩⟩
theorem Recs.below (h : Recs w B A n rs) (hb : Below B w w') : Recs w' B A n rs := h.keep fun _ hp => hb.cell hp
theorem Recs.at_ (h : Recs w B A n rs) {i : Nat} (hi : i < n) : ∃ b off, A = some ⟨b, off, none⟩ ∧ b < B ∧ w.rangeAt b (off + i * 4) (rs.getD i R0).cells := by
  obtain ⟨b, off, e, hb, hc⟩ := h.2.2 (by omega)
  refine ⟨b, off, e, hb, fun j v hv => ?_⟩
  have hj : j < 4 := by have := (List.getElem?_eq_some_iff.1 hv).1; simpa [R.cells] using this
  rw [Nat.add_assoc]
  exact hc (i * 4 + j) v (by rw [flat_at rs i j hj (by rw [h.1]; exact hi)]; exact hv)
end
section
variable {P : Program} {ops : Array Oper} {Q : Exit → Act → World → Prop}
theorem op_callv (i : Nat) (d : Option Tmp) {o : Oper} {a : Act} {w : World} {K : Act → World → Prop} (f : FuncId) (lb vals : Array Value) {y : Operand} {xs : Array Operand} {ts : Array TypeId} {R : Ending → World → Prop} (hi : ops[i]? = some o) (hd : o.dst = d) (hw : Region.wanted o (yielded ops a.tmps) = true)
    (ho : o.op = .call { callee := .value y, args := xs, argTypes := ts }) (hy : a.eval y = .func (.func f) #[] lb) (he : Enters P f) (hv : xs.map a.eval = vals)
    (hc : Calls P f (vals ++ lb) w R)
    (h : ∀ e w', R e w' → ∃ v, e = .returned v ∧ K (a.put d v) w') : wpOp P ops Q i K a w := by
  subst hd
  refine op_wp i hi hw ?_
  have hrun : (execOp a.eval o).run P w = .ok (.enter f (vals ++ lb)) w := by
    unfold execOp
    simp only [ho, resolve, hy, Deferred.ofValue, Sem.run_bind, Sem.run_pure, Result.andThen_ok, invoke, Array.empty_append, hv]
    exact he _ _
  unfold Oper.wp
  rw [hrun, Oper.upon_enter]
  refine hc.mono fun e w' hR => ?_
  obtain ⟨v, rfl, hW⟩ := h e w' hR
  exact hW
end
section
variable {P : Program} {S : World → Prop} {ρ : Operand → Value} {o : Oper}
theorem run_addr_of (t e : TypeId) (b off len cap i s : Nat) (k : IntKind) (ht : P.underlying t = some (.slice e)) (hs : (P.info? e).map (·.size) = some s) (hi : i < len) (w : World) :
    (Instr.indexAt t (.slice (some ⟨b, off, none⟩) len cap) (.int k (i : Int))).run P w = .ok (.pointer (some ⟨b, off + i * s, none⟩)) w := by
  have he : P.elem t = e := by simp [Program.elem, ht]
  have hz : (sizeOf e).run P w = .ok s w := by
    cases hq : P.info? e with
    | none => simp [hq] at hs
    | some q => simp [hq] at hs; simp [sizeOf, typeInfo, hq, hs]
  have ea : (Addr.mk b off none).add (i * s) = ⟨b, off + i * s, none⟩ := by unfold Addr.add; split <;> simp_all
  rw [run_indexAt_slice w t ⟨b, off, none⟩ len cap k (i : Int) (by rw [he]; exact ht), he, if_pos ⟨by omega, by omega⟩, hz]
  simp [Result.andThen, ea]
theorem y_load_range {ty : TypeId} {x : Operand} {b off n : Nat} {cs : List Value} {d : TypeDesc} (ho : o.op = .load ty x) (hx : ρ x = .pointer (some ⟨b, off, none⟩)) (hu : P.underlying ty = some d) (hd : d.isRow = true) (hi : (P.info? ty).map (·.size) = some n) (hn : cs.length = n)
    (hr : ∀ w, S w → w.rangeAt b off cs) : ∀ w, S w → (execOp ρ o).run P w = .ok (.value (.agg cs.toArray)) w := fun w hw => by
  have h := run_loadAt_mid (P := P) w b off ty cs d (hr w hw) hu hd (by rw [hi, hn])
  simp [execOp, ho, hx, h]
end
end Go.Proofs.YtipmfficjomcoaaDoor.Rs
namespace Go.Proofs.YtipmfficjomcoaaDoor.Vm
open Go.RowKit Go.Shelf Mem Held Rc Rs Sl
structure O where
  code : Int
  d : Int
  a : Int
  b : Int
  c : Int
  n : Int
def O.wf (o : O) : Prop := (Lit.int .i64 o.code).wf = true ∧ (Lit.int .i64 o.d).wf = true ∧ (Lit.int .i64 o.a).wf = true ∧ (Lit.int .i64 o.b).wf = true ∧ (Lit.int .i64 o.c).wf = true ∧ (Lit.int .i64 o.n).wf = true
def O.cells (o : O) : List Value := [.int .i64 o.code, .int .i64 o.d, .int .i64 o.a, .int .i64 o.b, .int .i64 o.c, .int .i64 o.n]
def O0 : O := ⟨0, 0, 0, 0, 0, 0⟩
theorem O.ext' {x y : O} (h1 : x.code = y.code) (h2 : x.d = y.d) (h3 : x.a = y.a) (h4 : x.b = y.b) (h5 : x.c = y.c) (h6 : x.n = y.n) : x = y := by
  cases x
  cases y
  simp_all
instance decO : DecidableEq O := fun x y =>
  if h : x.code = y.code ∧ x.d = y.d ∧ x.a = y.a ∧ x.b = y.b ∧ x.c = y.c ∧ x.n = y.n then .isTrue (O.ext' h.1 h.2.1 h.2.2.1 h.2.2.2.1 h.2.2.2.2.1 h.2.2.2.2.2)
  else .isFalse fun e => h (by rw [e]; exact ⟨rfl, rfl, rfl, rfl, rfl, rfl⟩)
def isReg (x : Int) : Bool := decide (0 ≤ x) && decide (x < 8)
def mayO (o : O) (k : Int) : Bool := decide (1 ≤ o.code) && decide (o.code ≤ 12) && isReg o.d && isReg o.a && isReg o.b && isReg o.c && (!decide (o.code = 12) || (decide (0 ≤ o.n) && decide (o.n < k)))
def mayP (l : List O) (k : Int) : Bool := decide (l.length ≤ 40) && l.all (mayO · k)
def reg (r : List Int) (i : Int) : Int := r.getD i.toNat 0
def opV (o : O) (a b c : Int) : Int :=
  if o.code = 1 then o.n else if o.code = 2 then wrap64 (a + b) else if o.code = 3 then wrap64 (a - b) else if o.code = 4 then wrap64 (a * b)
  else if o.code = 5 then bits .and .i64 a b else if o.code = 6 then bits .or .i64 a b else if o.code = 7 then bits .xor .i64 a b
  else if o.code = 8 then (if a < b then 1 else 0) else if o.code = 9 then (if a = b then 1 else 0) else if o.code = 10 then (if a = 0 then c else b)
  else a / 2 ^ (b % 64).toNat
def stepR (o : O) (r : List Int) : List Int := if o.code = 12 then r else r.set o.d.toNat (opV o (reg r o.a) (reg r o.b) (reg r o.c))
def runR : List O → List Int → List Int
  | [], r => r
  | o :: l, r => runR l (stepR o r)
end Go.Proofs.YtipmfficjomcoaaDoor.Vm
namespace Go.Proofs.YtipmfficjomcoaaDoor.Vm
open Go.RowKit Go.Shelf Go.Proofs.YtipmfficjomcoaaDoor Mem Ct Go.Proofs.YtipmfficjomcoaaDoor.Bit Held Rc Rs Sl
attribute [local irreducible] wpList wpListIn Calls
def pk (c : Bool) (x y : Int) : Int := if c = true then x else y
end Go.Proofs.YtipmfficjomcoaaDoor.Vm
namespace Go.Proofs.YtipmfficjomcoaaDoor.Vm
open Go.RowKit Go.Shelf Go.Proofs.YtipmfficjomcoaaDoor Mem Ct Go.Proofs.YtipmfficjomcoaaDoor.Bit Held Rc Rs Sl
attribute [local irreducible] wpList wpListIn Calls
end Go.Proofs.YtipmfficjomcoaaDoor.Vm
namespace Go.Proofs.YtipmfficjomcoaaDoor.Rs
open Go.RowKit Go.Shelf Go.Proofs.YtipmfficjomcoaaDoor Mem Held Rc
attribute [local irreducible] wpList wpListIn Calls
end Go.Proofs.YtipmfficjomcoaaDoor.Rs
namespace Go.Proofs.YtipmfficjomcoaaDoor.Rs
open Go.RowKit Go.Shelf Go.Proofs.YtipmfficjomcoaaDoor Mem Held Rc
set_option maxRecDepth 100000
attribute [local irreducible] wpList wpListIn Calls
theorem wpList_append_ran {P : Program} {ops : Array Oper} {rest : List Oper} {o : Oper} {a : Act} {w : World} {Q : Exit → Act → World → Prop} (hgd : o.guard = none) (s x : Operand) (ts tx : TypeId) (ho : o.op = .call { callee := .builtin .append, args := #[s, x], argTypes := #[ts, tx] }) (u v r : Value) (w' : World) (hs : a.eval s = u) (hx : a.eval x = v)
    (hr : (Builtin.append_ #[ts, tx] o.type #[u, v]).run P w = .ok r w') (h : wpList P ops Q rest (a.put o.dst r) w') : wpList P ops Q (o :: rest) a w := by
  refine wpList_plain hgd fun K hK => ?_
  unfold Oper.wp execOp
  simp only [ho, resolve, invoke, builtin, Sem.run_bind, Sem.run_pure, Result.andThen_ok, List.map_toArray, List.map_cons, List.map_nil, hs, hx, hr]
  exact hK _ _ h
end Go.Proofs.YtipmfficjomcoaaDoor.Rs
namespace Go.Proofs.YtipmfficjomcoaaDoor.Rc
open Go.RowKit Go.Shelf Go.Proofs.YtipmfficjomcoaaDoor Mem Help Go.Proofs.YtipmfficjomcoaaDoor.Sum Po Ky Ct Go.Proofs.YtipmfficjomcoaaDoor.Bit Held Go.Proofs.YtipmfficjomcoaaDoor.Range
attribute [local go_sem] Oper.semAt_some
attribute [local irreducible] wpList wpListIn Calls
end Go.Proofs.YtipmfficjomcoaaDoor.Rc
namespace Go.Proofs.YtipmfficjomcoaaDoor.Rc
open Go.RowKit Go.Shelf Go.Proofs.YtipmfficjomcoaaDoor Mem Help Go.Proofs.YtipmfficjomcoaaDoor.Sum Po Ky Held
attribute [local irreducible] wpList wpListIn Calls
end Go.Proofs.YtipmfficjomcoaaDoor.Rc
namespace Go.Proofs.YtipmfficjomcoaaDoor.Mem
open Go.RowKit
def Flat (A : Option Addr) (cap : Nat) : Prop := cap = 0 ∨ A = none ∨ ∃ b off, A = some ⟨b, off, none⟩
theorem Flat.head (b off cap : Nat) : Flat (some ⟨b, off, none⟩) cap := .inr (.inr ⟨b, off, rfl⟩)
section
variable {P : Program} {t e : TypeId} {A : Option Addr} {n cap : Nat}
end
theorem Own.flat {w : World} {base : Nat} {t : TypeId} {k : IntKind} {A : Option Addr} {n c : Nat} {zs : List Int} (h : Own w base t k (.slice A n c) zs) : Flat A c := by
  rcases h.2.2 with ⟨hv, _⟩ | ⟨g, cap, cur, hv, _⟩
  · injection hv with e1; exact .inr (.inl e1)
  · injection hv with e1; exact .inr (.inr ⟨g, 0, e1⟩)
end Go.Proofs.YtipmfficjomcoaaDoor.Mem
namespace Go.Proofs.YtipmfficjomcoaaDoor.Rc
open Go.RowKit Go.Shelf Go.Proofs.YtipmfficjomcoaaDoor Mem Help Go.Proofs.YtipmfficjomcoaaDoor.Sum Po Ky Ct Go.Proofs.YtipmfficjomcoaaDoor.Bit Held
attribute [local irreducible] wpList wpListIn Calls
end Go.Proofs.YtipmfficjomcoaaDoor.Rc
namespace Go.Proofs.YtipmfficjomcoaaDoor.Rs
open Go.RowKit Go.Shelf Go.Proofs.YtipmfficjomcoaaDoor Mem Held Rc Po
attribute [local irreducible] wpList wpListIn Calls
def word (zs : List Int) (i : Nat) : List Int := (zs.drop (32 * i)).take 32
end Go.Proofs.YtipmfficjomcoaaDoor.Rs
namespace Go.Proofs.YtipmfficjomcoaaDoor.Rs
open Go.RowKit Go.Shelf Go.Proofs.YtipmfficjomcoaaDoor Mem
attribute [local irreducible] wpList wpListIn Calls
end Go.Proofs.YtipmfficjomcoaaDoor.Rs
namespace Go.Proofs.YtipmfficjomcoaaDoor.Rs
open Go.RowKit Go.Shelf Go.Proofs.YtipmfficjomcoaaDoor Mem Held Go.Proofs.YtipmfficjomcoaaDoor.Range Rc
attribute [local go_sem] Oper.semAt_some
attribute [local irreducible] wpList wpListIn Calls
theorem Recs.only {S : Nat → Prop} {w w' : World} {B n : Nat} {A : Option Addr} {rs : List R} (h : Recs w B A n rs) (ho : Only S w w') (hS : ∀ b, b < B → ¬ S b) : Recs w' B A n rs :=
  ⟨h.1, h.2.1, fun hn => by
    obtain ⟨b, off, e, hb, hc⟩ := h.2.2 hn
    exact ⟨b, off, e, hb, fun j v hv => ho.cell (p := ⟨b, off + j, none⟩) (hS b hb) (hc j v hv)⟩⟩
end Go.Proofs.YtipmfficjomcoaaDoor.Rs
namespace Go.Proofs.YtipmfficjomcoaaDoor.Vm
open Go.RowKit Go.Shelf Go.Proofs.YtipmfficjomcoaaDoor Mem Held Go.Proofs.YtipmfficjomcoaaDoor.Range Rc Rs Sl
attribute [local go_sem] Oper.semAt_some
attribute [local irreducible] wpList wpListIn Calls
theorem Lst.only {α : Type} {k : St α} {S : Nat → Prop} {w w' : World} {B n : Nat} {A : Option Addr} {xs : List α} (h : Lst k w B A n xs) (ho : Only S w w') (hS : ∀ b, b < B → ¬ S b) : Lst k w' B A n xs :=
  ⟨h.1, h.2.1, fun hn => by
    obtain ⟨b, off, e, hb, hc⟩ := h.2.2 hn
    exact ⟨b, off, e, hb, fun j v hv => ho.cell (p := ⟨b, off + j, none⟩) (hS b hb) (hc j v hv)⟩⟩
end Go.Proofs.YtipmfficjomcoaaDoor.Vm
namespace Go.Proofs.YtipmfficjomcoaaDoor.Vm
open Go.RowKit Go.Shelf Go.Proofs.YtipmfficjomcoaaDoor Mem Held Go.Proofs.YtipmfficjomcoaaDoor.Range Rc Rs Sl
attribute [local go_sem] Oper.semAt_some
attribute [local irreducible] wpList wpListIn Calls
def MbI (w : World) (r3 r4 : Nat) (l : List O) (kk : Int) (k : Nat) (W : World) : Prop :=
  k ≤ l.length ∧ W.heap[r3]? = some (.cells #[.int .i64 kk] 3 (0, 0)) ∧ W.heap[r4]? = some (.cells #[.bool false] 4 (0, 0)) ∧ (∀ i, i < k → mayO (l.getD i O0) kk = true) ∧ Below w.heap.size w W
def MbX (w : World) (r4 : Nat) (l : List O) (kk : Int) (c : Code) (k : Nat) (W : World) : Prop :=
  c = .ret ∧ W.heap[r4]? = some (.cells #[.bool false] 4 (0, 0)) ∧ mayP l kk = false ∧ Below w.heap.size w W
theorem MbI.far (w : World) (r3 r4 : Nat) (l : List O) (kk : Int) {B : Nat} (hw : w.heap.size < B) (h3 : r3 < B) (h4 : r4 < B) : Far B (MbI w r3 r4 l kk) := by
  intro k W W' row ⟨h0, h1, h2, ha, hb⟩ hgr hr
  have hne : ∀ i, i < B → some i ≠ row := fun i hi e => by have := hr i e.symm; omega
  exact ⟨h0, Held.keep_cells h1 hgr (hne _ h3), Held.keep_cells h2 hgr (hne _ h4), ha, hb.grown hgr hb.size (fun r e => by have := hr r e; omega)⟩
theorem MbX.far (w : World) (r4 : Nat) (l : List O) (kk : Int) (c : Code) {B : Nat} (hw : w.heap.size < B) (h4 : r4 < B) : Far B (MbX w r4 l kk c) := by
  intro k W W' row ⟨h0, h2, ha, hb⟩ hgr hr
  have hne : ∀ i, i < B → some i ≠ row := fun i hi e => by have := hr i e.symm; omega
  exact ⟨h0, Held.keep_cells h2 hgr (hne _ h4), ha, hb.grown hgr hb.size (fun r e => by have := hr r e; omega)⟩
end Go.Proofs.YtipmfficjomcoaaDoor.Vm
namespace Go.Proofs.YtipmfficjomcoaaDoor.Vm
open Go.RowKit Go.Shelf Go.Proofs.YtipmfficjomcoaaDoor Mem Held Go.Proofs.YtipmfficjomcoaaDoor.Range Rc Rs Sl
attribute [local irreducible] wpList wpListIn Calls
end Go.Proofs.YtipmfficjomcoaaDoor.Vm
namespace Go.Proofs.YtipmfficjomcoaaDoor.Sl
open Go.RowKit Go.Shelf Mem Held
section
variable {α : Type} {k : St α}
end
section
variable {α : Type} {k : St α} {P : Program} {ops : Array Oper} {rest : List Oper} {o : Oper} {a : Act} {w : World} {Q : Exit → Act → World → Prop}
end
end Go.Proofs.YtipmfficjomcoaaDoor.Sl
namespace Go.Proofs.YtipmfficjomcoaaDoor.Vm
open Go.RowKit Go.Shelf Go.Proofs.YtipmfficjomcoaaDoor Mem Held Go.Proofs.YtipmfficjomcoaaDoor.Range Rc Rs Sl
attribute [local irreducible] wpList wpListIn Calls
end Go.Proofs.YtipmfficjomcoaaDoor.Vm
namespace Go.Proofs.YtipmfficjomcoaaDoor.Sl
open Go.RowKit Go.Shelf Mem Held
section
variable {P : Program} {S : World → Prop} {ρ : Operand → Value} {o : Oper}
end
section
variable {α : Type} {k : St α} {P : Program} {ops : Array Oper} {rest : List Oper} {o : Oper} {a : Act} {w : World} {Q : Exit → Act → World → Prop}
end
end Go.Proofs.YtipmfficjomcoaaDoor.Sl
namespace Go.Proofs.YtipmfficjomcoaaDoor.Vm
open Go.RowKit Go.Shelf Go.Proofs.YtipmfficjomcoaaDoor Mem Held Go.Proofs.YtipmfficjomcoaaDoor.Range Rc Rs Sl
def Fit (r : List Int) : Prop := ∀ z ∈ r, (Lit.int .i64 z).wf = true
theorem Fit.at_ {r : List Int} (h : Fit r) (i : Nat) : (Lit.int .i64 (r.getD i 0)).wf = true := by
  rw [List.getD_eq_getElem?_getD]
  cases hq : r[i]? with
  | none => rfl
  | some z => exact h z (List.mem_of_getElem? hq)
theorem bits_wf' (op : BinOp) (h : op = .and ∨ op = .or ∨ op = .xor) (a b : Int) : (Lit.int .i64 (bits op .i64 a b)).wf = true := by
  rcases h with rfl | rfl | rfl <;> exact i64_wf _
theorem opV_wf (o : O) {a b c : Int} (hn : (Lit.int .i64 o.n).wf = true) (ha : (Lit.int .i64 a).wf = true) (hb : (Lit.int .i64 b).wf = true) (hc : (Lit.int .i64 c).wf = true) : (Lit.int .i64 (opV o a b c)).wf = true := by
  unfold opV
  by_cases h1 : o.code = 1
  · rw [if_pos h1]; exact hn
  rw [if_neg h1]
  by_cases h2 : o.code = 2
  · rw [if_pos h2]; exact wrap64_wf _
  rw [if_neg h2]
  by_cases h3 : o.code = 3
  · rw [if_pos h3]; exact wrap64_wf _
  rw [if_neg h3]
  by_cases h4 : o.code = 4
  · rw [if_pos h4]; exact wrap64_wf _
  rw [if_neg h4]
  by_cases h5 : o.code = 5
  · rw [if_pos h5]; exact bits_wf' _ (.inl rfl) _ _
  rw [if_neg h5]
  by_cases h6 : o.code = 6
  · rw [if_pos h6]; exact bits_wf' _ (.inr (.inl rfl)) _ _
  rw [if_neg h6]
  by_cases h7 : o.code = 7
  · rw [if_pos h7]; exact bits_wf' _ (.inr (.inr rfl)) _ _
  rw [if_neg h7]
  by_cases h8 : o.code = 8
  · rw [if_pos h8]; split <;> rfl
  rw [if_neg h8]
  by_cases h9 : o.code = 9
  · rw [if_pos h9]; split <;> rfl
  rw [if_neg h9]
  by_cases h10 : o.code = 10
  · rw [if_pos h10]; split <;> assumption
  rw [if_neg h10]
  have h := wf_i64 ha
  have hp : (0 : Int) < 2 ^ (b % 64).toNat := Int.pow_pos (by omega)
  have e : a / 2 ^ (b % 64).toNat ≤ 9223372036854775807 := by
    by_cases h0 : 0 ≤ a
    · exact Int.le_trans (Int.ediv_le_self _ h0) h.2
    · exact Int.le_trans (Int.le_of_lt (Int.ediv_neg_of_neg_of_pos (by omega) hp)) (by omega)
  have e' : -9223372036854775808 ≤ a / 2 ^ (b % 64).toNat := by
    have := Int.le_ediv_of_mul_le hp (a := -9223372036854775808) (b := a) (by
      have hq : (1 : Int) ≤ 2 ^ (b % 64).toNat := by omega
      have : (-9223372036854775808 : Int) * 2 ^ (b % 64).toNat ≤ -9223372036854775808 := by omega
      omega)
    exact this
  generalize a / 2 ^ (b % 64).toNat = z at e e' ⊢
  simp [Lit.wf, IntKind.min, IntKind.max, IntKind.signed, IntKind.bits]
  omega
theorem Fit.step {r : List Int} (h : Fit r) (o : O) (hn : (Lit.int .i64 o.n).wf = true) : Fit (stepR o r) := by
  unfold stepR
  split
  · exact h
  · intro z hz
    rcases List.mem_or_eq_of_mem_set hz with hz | rfl
    · exact h z hz
    · exact opV_wf o hn (h.at_ _) (h.at_ _) (h.at_ _)
theorem Fit.run : ∀ {l : List O} {r : List Int}, Fit r → (∀ o ∈ l, o.wf) → Fit (runR l r)
  | [], _, h, _ => h
  | o :: l, r, h, hl => by
    have h2 := h.step o (hl o (by simp)).2.2.2.2.2
    exact Fit.run (l := l) (r := stepR o r) h2 (fun x hx => hl x (by simp [hx]))
end Go.Proofs.YtipmfficjomcoaaDoor.Vm
namespace Go.Proofs.YtipmfficjomcoaaDoor.Sp
open Go.RowKit Go.Shelf Mem Held Rc Rs Sl Vm
def rightB (r k b wk : Int) : Bool := decide (1 ≤ r) && decide (r ≤ 64) && (decide (1 ≤ k) && decide (k ≤ 4)) && (decide (1 ≤ b) && decide (b ≤ 8)) && (decide (1 ≤ wk) && decide (wk ≤ 4)) && decide (k * ((r + b - 1) / b) < 32)
def rightE (r k b wk : Int) : Int := if rightB r k b wk = true then 0 else 1
end Go.Proofs.YtipmfficjomcoaaDoor.Sp
namespace Go.Proofs.YtipmfficjomcoaaDoor.Vm
open Go.RowKit Go.Shelf Go.Proofs.YtipmfficjomcoaaDoor Mem Held Go.Proofs.YtipmfficjomcoaaDoor.Range Rc Rs Sl
attribute [local go_sem] Oper.semAt_some
attribute [local irreducible] wpList wpListIn Calls
end Go.Proofs.YtipmfficjomcoaaDoor.Vm
namespace Go.Proofs.YtipmfficjomcoaaDoor.Vm
open Go.RowKit Go.Shelf Go.Proofs.YtipmfficjomcoaaDoor Mem Held Go.Proofs.YtipmfficjomcoaaDoor.Range Rc Rs Sl
attribute [local irreducible] wpList wpListIn Calls
end Go.Proofs.YtipmfficjomcoaaDoor.Vm
namespace Go.Proofs.YtipmfficjomcoaaDoor.Sp
open Go.RowKit Go.Shelf Go.Proofs.YtipmfficjomcoaaDoor Mem Held Rc Rs Sl Vm
attribute [local irreducible] wpList wpListIn Calls
section
variable {P : Program} {S : World → Prop} {ρ : Operand → Value} {o : Oper}
theorem y_geq {t ty : TypeId} {x y : Operand} {k : IntKind} {a b : Int} {r : Bool} (ho : o.op = .binOp .geq t x y ty) (hx : ρ x = .int k a) (hy : ρ y = .int k b) (hr : decide (b ≤ a) = r) : ∀ w, S w → (execOp ρ o).run P w = .ok (.value (.bool r)) w :=
  Held.y_bin ho hx hy (fun w => by simp [eqGuard]) (fun w => by subst hr; simp [binOp, Op.intCmp])
end
def inB (n most : Int) : Bool := decide (1 ≤ n) && decide (n ≤ most)
set_option maxHeartbeats 1000000 in
theorem within_any (n most : Int) (b : Bool) (hb : inB n most = b) (w : World) :
    Calls Tryd.prog 73 #[.int .i64 n, .int .i64 most] w fun e w' => e = .returned (.bool b) ∧ w = w' := by
  subst hb
  go_enter Tryd.func73, Tryd.ntmps73
  by_cases h1 : n ≥ 1
  · by_cases h2 : n ≤ most
    · go_wp2_with fail
      go_ret
      exact ⟨Mem.ret_bool (by simp [inB, h2]; omega), rfl⟩
    · go_wp2_with fail
      go_ret
      exact ⟨Mem.ret_bool (by simp [inB, h2]), rfl⟩
  · go_wp2_with fail
    go_ret
    exact ⟨Mem.ret_bool (by simp [inB]; omega), rfl⟩
set_option maxHeartbeats 2000000 in
theorem blocks_any (r k b wk : Int) (hr1 : 1 ≤ r) (hr : r ≤ 64) (hb1 : 1 ≤ b) (hb : b ≤ 8) (w : World) :
    Calls Tryd.prog 74 #[.agg #[.int .i64 r, .int .i64 k, .int .i64 b, .int .i64 wk]] w fun e w' => e = .returned (.int .i64 ((r + b - 1) / b)) ∧ Below w.heap.size w w' := by
  have e1 : IntKind.i64.wrap (r + b) = r + b := by rw [IntKind.wrap_i64]; omega
  have e2 : IntKind.i64.wrap (r + b - 1) = r + b - 1 := by rw [IntKind.wrap_i64]; omega
  have hb0 : ¬ b = 0 := by omega
  have hb0' : b ≠ 0 := by omega
  have e3 : Int.tdiv (r + b - 1) b = (r + b - 1) / b := Int.tdiv_eq_ediv_of_nonneg (by omega)
  have e4 : IntKind.i64.wrap ((r + b - 1) / b) = (r + b - 1) / b := by
    have h1 : 0 ≤ (r + b - 1) / b := Int.ediv_nonneg (by omega) (by omega)
    have h2 : (r + b - 1) / b ≤ r + b - 1 := Int.ediv_le_self _ (by omega)
    rw [IntKind.wrap_i64]
    omega
  go_enter Tryd.func74, Tryd.ntmps74
  go_wp2_with (first
    | (refine wpList_box_blk (w := w) rfl 23 _ rfl #[.int .i64 r, .int .i64 k, .int .i64 b, .int .i64 wk] rfl ?_; intro w1 q1 g1 z1; have hc0 := q1.cell (i := 0) rfl; have hc2 := q1.cell (i := 2) rfl; have b1 : Below w.heap.size w w1 := (Below.refl _ w).grown g1 (Nat.le_refl _) (by simp); clear g1 z1 q1)
    | (refine wpList_run (w := w1) rfl (v := .pointer (some ⟨w.heap.size, 0, none⟩)) (Held.y_field (S := fun _ => True) (k := 0) (s := 0) rfl rfl Tryd.underlying23 rfl (by kernel_rfl) rfl _ trivial) ?_)
    | (refine wpList_run (w := w1) rfl (v := .pointer (some ⟨w.heap.size, 2, none⟩)) (Held.y_field (S := fun _ => True) (k := 2) (s := 0) rfl rfl Tryd.underlying23 rfl (by kernel_rfl) rfl _ trivial) ?_))
  go_ret
  exact ⟨rfl, b1⟩
theorem rightB_of (r k b wk : Int) : rightB r k b wk = (inB r 64 && inB k 4 && inB b 8 && inB wk 4 && decide (k * ((r + b - 1) / b) < 32)) := by
  simp [rightB, inB]
theorem inB_says {n most : Int} (h : inB n most = true) : 1 ≤ n ∧ n ≤ most := by simpa [inB] using h
set_option maxRecDepth 100000 in
set_option maxHeartbeats 8000000 in
theorem right_any (r k b wk : Int) (w : World) :
    Calls Tryd.prog 64 #[.agg #[.int .i64 r, .int .i64 k, .int .i64 b, .int .i64 wk]] w fun e w' => e = .returned (.int .i64 (rightE r k b wk)) ∧ Below w.heap.size w w' := by
  go_enter Tryd.func64, Tryd.ntmps64
  have HE := Lib.hid (show rightE r k b wk = if (inB r 64 && inB k 4 && inB b 8 && inB wk 4 && decide (k * ((r + b - 1) / b) < 32)) = true then 0 else 1 by rw [← rightB_of]; rfl)
  rw [HE.out]
  clear HE
  obtain ⟨B1, h1⟩ : ∃ B, inB r 64 = B := ⟨_, rfl⟩
  obtain ⟨B2, h2⟩ : ∃ B, inB k 4 = B := ⟨_, rfl⟩
  obtain ⟨B3, h3⟩ : ∃ B, inB b 8 = B := ⟨_, rfl⟩
  obtain ⟨B4, h4⟩ : ∃ B, inB wk 4 = B := ⟨_, rfl⟩
  rw [h1, h2, h3, h4]
  have H1 := Lib.hid h1
  have H2 := Lib.hid h2
  have H3 := Lib.hid h3
  have H4 := Lib.hid h4
  clear h1 h2 h3 h4
  cases B1 <;> cases B2 <;> cases B3 <;> cases B4
  case true.true.true.true =>
    obtain ⟨hr1, hr2⟩ := inB_says H1.out
    obtain ⟨hk1, hk2⟩ := inB_says H2.out
    obtain ⟨hb1, hb2⟩ := inB_says H3.out
    obtain ⟨BL, hBL⟩ : ∃ BL, (r + b - 1) / b = BL := ⟨_, rfl⟩
    have hBL0 : 0 ≤ BL := by rw [← hBL]; exact Int.ediv_nonneg (by omega) (by omega)
    have hBL1 : BL ≤ 71 := by
      have h2 : (r + b - 1) / b ≤ r + b - 1 := Int.ediv_le_self _ (by omega)
      omega
    have HM := Lib.hid (show IntKind.i64.wrap (k * ((r + b - 1) / b)) = k * ((r + b - 1) / b) by
      rw [hBL, IntKind.wrap_i64]
      have h1 : 0 ≤ k * BL := Int.mul_nonneg (by omega) hBL0
      have h2 : k * BL ≤ 4 * 71 := Int.mul_le_mul hk2 hBL1 hBL0 (by omega)
      omega)
    obtain ⟨GB, hGB⟩ : ∃ GB, decide (32 ≤ k * ((r + b - 1) / b)) = GB := ⟨_, rfl⟩
    have HG := Lib.hid hGB
    have HD := Lib.hid (show decide (k * ((r + b - 1) / b) < 32) = !GB by rw [← hGB, ← decide_not]; exact decide_eq_decide.2 (by omega))
    rw [HD.out]
    clear hBL hBL0 hBL1 hGB HD hk1 hk2
    go_wp2_with (first
      | (refine wpList_box_blk (w := w) rfl 23 _ rfl #[.int .i64 r, .int .i64 k, .int .i64 b, .int .i64 wk] rfl ?_; intro u1 q1 g1 z1; have hc0 := q1.cell (i := 0) rfl; have hc1 := q1.cell (i := 1) rfl; have hc2 := q1.cell (i := 2) rfl; have hc3 := q1.cell (i := 3) rfl; have bb : Below w.heap.size w u1 := (Below.refl _ w).grown g1 (Nat.le_refl _) (by simp); clear g1 z1)
      | (refine wpList_run (w := u1) rfl (v := .pointer (some ⟨w.heap.size, 0, none⟩)) (Held.y_field (S := fun _ => True) (k := 0) (s := 0) rfl rfl Tryd.underlying23 rfl (by kernel_rfl) rfl _ trivial) ?_)
      | (refine wpList_run (w := u1) rfl (v := .pointer (some ⟨w.heap.size, 1, none⟩)) (Held.y_field (S := fun _ => True) (k := 1) (s := 0) rfl rfl Tryd.underlying23 rfl (by kernel_rfl) rfl _ trivial) ?_)
      | (refine wpList_run (w := u1) rfl (v := .pointer (some ⟨w.heap.size, 2, none⟩)) (Held.y_field (S := fun _ => True) (k := 2) (s := 0) rfl rfl Tryd.underlying23 rfl (by kernel_rfl) rfl _ trivial) ?_)
      | (refine wpList_run (w := u1) rfl (v := .pointer (some ⟨w.heap.size, 3, none⟩)) (Held.y_field (S := fun _ => True) (k := 3) (s := 0) rfl rfl Tryd.underlying23 rfl (by kernel_rfl) rfl _ trivial) ?_)
      | (go_at_call 73; (first | refine (within_any r 64 _ H1.out u1).mono ?_ | refine (within_any k 4 _ H2.out u1).mono ?_ | refine (within_any b 8 _ H3.out u1).mono ?_ | refine (within_any wk 4 _ H4.out u1).mono ?_); rintro e w' ⟨rfl, rfl⟩))
    refine wp_region_held (S := fun W => Below u1.heap.size u1 W) (by kernel_rfl) ?_
    change wpAnyH _ _ _ _ _ _ _ _ u1.drew
    have c0_0 := (Below.refl u1.heap.size u1).drew
    refine Held.tk (v := .pointer (some ⟨w.heap.size, 1, none⟩)) 0 (some 25) rfl (Held.y_field (k := 1) (s := 0) rfl rfl Tryd.underlying23 rfl (by kernel_rfl) rfl) c0_0 ?_
    simp only [Act.put, Z1, Z2, Z3]
    refine Held.tk (v := .int .i64 k) 1 (some 26) rfl (Held.y_load rfl rfl (by kernel_rfl) (fun W hW => (q1.below hW q1.lt).cell rfl)) c0_0 ?_
    simp only [Act.put, Z1, Z2, Z3]
    refine Held.tk (v := .agg #[.int .i64 r, .int .i64 k, .int .i64 b, .int .i64 wk]) 2 (some 27) rfl (Held.y_load_blk (n := 4) rfl rfl Tryd.underlying23 rfl (by kernel_rfl) rfl (fun W hW => q1.below hW q1.lt)) c0_0 ?_
    simp only [Act.put, Z1, Z2, Z3]
    refine Held.one 3 (by kernel_rfl) ?_
    refine Held.op_call 3 (some 28) 74 #[.agg #[.int .i64 r, .int .i64 k, .int .i64 b, .int .i64 wk]] rfl rfl rfl rfl (enters_of Tryd.func74 (by kernel_rfl) rfl) (by simp [Act.eval])
      (blocks_any r k b wk hr1 hr2 hb1 hb2 _) ?_
    rintro e w1 ⟨rfl, b1⟩
    have c0_1 := c0_0.trans (b1.mono c0_0.size)
    refine ⟨_, rfl, c0_1, ?_⟩
    simp only [Act.put, Z1, Z2, Z3]
    refine Held.tk (v := .int .i64 (k * ((r + b - 1) / b))) 4 (some 29) rfl (Held.y_int rfl rfl rfl (Held.run_mul 3 .i64 HM.out)) c0_1 ?_
    simp only [Act.put, Z1, Z2, Z3]
    refine Held.tk (v := .bool GB) 5 (some 30) rfl (y_geq rfl rfl rfl HG.out) c0_1 ?_
    simp only [Act.put, Z1, Z2, Z3]
    refine wpAnyH_done (by kernel_rfl) ?_ _
    have bz := bb.trans (c0_1.mono bb.size)
    cases GB
    all_goals
      go_wp2_with fail
      go_ret
      exact ⟨rfl, bz⟩
  all_goals go_wp2_with (first
    | (refine wpList_box_blk (w := w) rfl 23 _ rfl #[.int .i64 r, .int .i64 k, .int .i64 b, .int .i64 wk] rfl ?_; intro u1 q1 g1 z1; have hc0 := q1.cell (i := 0) rfl; have hc1 := q1.cell (i := 1) rfl; have hc2 := q1.cell (i := 2) rfl; have hc3 := q1.cell (i := 3) rfl; have bb : Below w.heap.size w u1 := (Below.refl _ w).grown g1 (Nat.le_refl _) (by simp); clear g1 z1)
    | (refine wpList_run (w := u1) rfl (v := .pointer (some ⟨w.heap.size, 0, none⟩)) (Held.y_field (S := fun _ => True) (k := 0) (s := 0) rfl rfl Tryd.underlying23 rfl (by kernel_rfl) rfl _ trivial) ?_)
    | (refine wpList_run (w := u1) rfl (v := .pointer (some ⟨w.heap.size, 1, none⟩)) (Held.y_field (S := fun _ => True) (k := 1) (s := 0) rfl rfl Tryd.underlying23 rfl (by kernel_rfl) rfl _ trivial) ?_)
    | (refine wpList_run (w := u1) rfl (v := .pointer (some ⟨w.heap.size, 2, none⟩)) (Held.y_field (S := fun _ => True) (k := 2) (s := 0) rfl rfl Tryd.underlying23 rfl (by kernel_rfl) rfl _ trivial) ?_)
    | (refine wpList_run (w := u1) rfl (v := .pointer (some ⟨w.heap.size, 3, none⟩)) (Held.y_field (S := fun _ => True) (k := 3) (s := 0) rfl rfl Tryd.underlying23 rfl (by kernel_rfl) rfl _ trivial) ?_)
    | (go_at_call 73; (first | refine (within_any r 64 _ H1.out u1).mono ?_ | refine (within_any k 4 _ H2.out u1).mono ?_ | refine (within_any b 8 _ H3.out u1).mono ?_ | refine (within_any wk 4 _ H4.out u1).mono ?_); rintro e w' ⟨rfl, rfl⟩))
  all_goals (go_ret; exact ⟨rfl, bb⟩)
end Go.Proofs.YtipmfficjomcoaaDoor.Sp
namespace Go.Proofs.YtipmfficjomcoaaDoor.Bi
open Go.RowKit Go.Shelf Go.Proofs.YtipmfficjomcoaaDoor Mem Held Go.Proofs.YtipmfficjomcoaaDoor.Range
attribute [local go_sem] Oper.semAt_some
attribute [local irreducible] wpList wpListIn Calls
end Go.Proofs.YtipmfficjomcoaaDoor.Bi
namespace Go.Proofs.YtipmfficjomcoaaDoor.Held
open Go.RowKit
def wpAnyB (P : Program) (md : Region.Mode) (ops : Array Oper) (Q : Exit → Act → World → Prop) (T : World → Prop) (s : Nat) : Nat → Array Bool → Act → World → Prop
  | 0, listed, a, w => Region.ready md ops listed = [] ∧ Q .normal a w
  | fuel + 1, listed, a, w =>
    (Region.ready md ops listed = [] → Q .normal a w) ∧
    ∀ i ∈ Region.ready md ops listed, wpOp P ops Q i (fun a' w' => ((listed.setIfInBounds i true).getD s true = false → T w') ∧ wpAnyB P md ops Q T s fuel (listed.setIfInBounds i true) a' w') a w
section
variable {P : Program} {ops : Array Oper} {Q : Exit → Act → World → Prop} {md : Region.Mode} {T : World → Prop} {s : Nat}
theorem wpAny_of_bar : ∀ (fuel : Nat) (listed : Array Bool) (a : Act) (w : World), wpAnyB P md ops Q T s fuel listed a w → wpAny P md ops Q fuel listed a w
  | 0, _, _, _, h => h
  | fuel + 1, _, _, _, h => ⟨h.1, fun i hi => wpOp_mono (fun a' w' h' => wpAny_of_bar fuel _ a' w' h'.2) (h.2 i hi)⟩
theorem not_yet {listed : Array Bool} {j : Nat} {oj : Oper} (hj : j ∈ Region.ready md ops listed) (ho : ops[j]? = some oj) {e : Edge} (he : e ∈ oj.after) (hb : Region.binds md e = true) : listed.getD e.on true ≠ false := fun hx => by
  obtain ⟨_, o, h1, h2⟩ := mem_ready.1 hj
  obtain rfl : o = oj := by rw [h1] at ho; exact Option.some.inj ho
  have := h2 e he hb
  by_cases c : e.on < listed.size
  · simp [c] at hx this; exact absurd (this.symm.trans hx) (by simp)
  · simp [Array.getElem?_eq_none (Nat.le_of_not_lt c)] at this
structure Early (md : Region.Mode) (ops : Array Oper) (B : List Nat) (i : Nat) (oi : Oper) (listed : Array Bool) : Prop where
  ready : i ∈ Region.ready md ops listed
  free : ∀ j oj, ops[j]? = some oj → j ≠ i → listed.getD j true = false → (∀ e ∈ oj.after, Region.binds md e = true → e.on ≠ i) → oi.apart ops oj = true
  late : ∀ b ∈ B, listed.getD b true = false
def Waits (md : Region.Mode) (ops : Array Oper) (B : List Nat) (i : Nat) : Prop := i ∉ B ∧ ∀ b ∈ B, ∀ o, ops[b]? = some o → ∃ e ∈ o.after, Region.binds md e = true ∧ (e.on = i ∨ e.on ∈ B)
section
variable {B : List Nat} {i : Nat} {oi : Oper} {listed : Array Bool}
theorem Early.un (h : Early md ops B i oi listed) : listed.getD i true = false := (mem_ready.1 h.ready).1
theorem Early.waits (h : Early md ops B i oi listed) {j : Nat} {oj : Oper} (hj : j ∈ Region.ready md ops listed) (ho : ops[j]? = some oj) : ∀ e ∈ oj.after, Region.binds md e = true → e.on ≠ i :=
  fun e he hb heq => not_yet hj ho he hb (by rw [heq]; exact h.un)
theorem Early.out (h : Early md ops B i oi listed) (hw : Waits md ops B i) {j : Nat} (hj : j ∈ Region.ready md ops listed) : j ∉ B := fun hjB => by
  obtain ⟨_, oj, ho, _⟩ := mem_ready.1 hj
  obtain ⟨e, he, hb, hor⟩ := hw.2 j hjB oj ho
  rcases hor with h1 | h1
  · exact h.waits hj ho e he hb h1
  · exact not_yet hj ho he hb (h.late _ h1)
theorem Early.next (h : Early md ops B i oi listed) (hw : Waits md ops B i) {j : Nat} (hj : j ∈ Region.ready md ops listed) (hji : j ≠ i) : Early md ops B i oi (listed.setIfInBounds j true) where
  ready := ready_mono h.ready (Ne.symm hji)
  free k ok hk hki hun hno := h.free k ok hk hki (by
    by_cases e : j = k
    · exact e ▸ (mem_ready.1 hj).1
    · rwa [getD_set_ne true e] at hun) hno
  late b hb := by rw [getD_set_ne true (show ¬ j = b from fun e => h.out hw hj (by rw [e]; exact hb))]; exact h.late b hb
end
theorem wpAnyB_early {i : Nat} {oi : Oper} {v : Value} (hi : ops[i]? = some oi) (hsel : ∀ (j : Nat) (o : Oper) cs b, ops[j]? = some o → o.op ≠ .select cs b)
    (hQ : ∀ c a w, Q (.panic c) (a.put oi.dst v) w → Q (.panic c) a w) {B : List Nat} (hs : s ∈ B) (hw : Waits md ops B i) :
    ∀ (fuel : Nat) {listed : Array Bool} {a : Act} {w : World}, Early md ops B i oi listed → YieldsIf P ops T oi v a → T w →
      wpAnyB P md ops Q T s fuel (listed.setIfInBounds i true) (a.put oi.dst v) w → wpAnyB P md ops Q T s (fuel + 1) listed a w
  | fuel, listed, a, w, h, hy, hT, H => by
    refine ⟨fun h0 => absurd (h0 ▸ h.ready) (by simp), fun j hj => ?_⟩
    by_cases hji : j = i
    · exact hji ▸ hy.wpOp hi hT ⟨fun _ => hT, H⟩
    · match fuel, H with
      | 0, H => exact absurd (H.1 ▸ ready_mono hj hji) (by simp)
      | fuel + 1, H =>
        obtain ⟨hun, oj, ho, _⟩ := mem_ready.1 hj
        have step := wpOp_putIf ho (h.free j oj ho hji hun (h.waits hj ho)) (fun cs b => hsel i oi cs b hi) (fun cs b => hsel j oj cs b ho) hQ hy (H.2 j (ready_mono hj hji))
        have n := h.next hw hj hji
        refine wpOp_mono (fun a' w' k => ?_) step
        obtain ⟨k1, k2, k3⟩ := k
        rw [Array.setIfInBounds_comm _ _ (Ne.symm hji)] at k2 k3
        have hT' : T w' := k2 (by rw [getD_set_ne true (show ¬ i = s from fun e => hw.1 (by rw [e]; exact hs))]; exact n.late s hs)
        exact ⟨fun _ => hT', wpAnyB_early hi hsel hQ hs hw fuel n k1 hT' k3⟩
def waitsB (md : Region.Mode) (ops : Array Oper) (listed : Array Bool) (B : List Nat) (s i : Nat) : Bool :=
  B.contains s && !B.contains i && B.all fun b => !listed.getD b true && match ops[b]? with
    | some o => o.after.any fun e => Region.binds md e && (e.on == i || B.contains e.on)
    | none => false
theorem takeB (i : Nat) (d : Option Tmp) (B : List Nat) {oi : Oper} {v : Value} {fuel : Nat} {listed : Array Bool} {a : Act} {w : World} (hi : ops[i]? = some oi) (hd : oi.dst = d)
    (hs : Region.noSelect ops = true) (hf : Region.free md ops listed i = true) (hr : (Region.ready md ops listed).contains i = true) (hB : waitsB md ops listed B s i = true)
    (hQ : ∀ c a w, Q (.panic c) (a.put d v) w → Q (.panic c) a w) (hw : Region.wanted oi (yielded ops a.tmps) = true) (hy : ∀ w, T w → (execOp a.eval oi).run P w = .ok (.value v) w) (hT : T w)
    (h : wpAnyB P md ops Q T s fuel (listed.setIfInBounds i true) (a.put d v) w) : wpAnyB P md ops Q T s (fuel + 1) listed a w := by
  subst hd
  unfold waitsB at hB
  simp only [Bool.and_eq_true, List.contains_iff_mem, Bool.not_eq_true', List.all_eq_true] at hB
  obtain ⟨⟨h1, h2⟩, h3⟩ := hB
  have h2' : i ∉ B := fun hm => by rw [List.contains_iff_mem.2 hm] at h2; cases h2
  refine wpAnyB_early hi (Region.noSelect_spec hs) hQ h1 ⟨h2', fun b hb o ho => ?_⟩ fuel ⟨by simpa using hr, Region.free_spec hi hf, fun b hb => (h3 b hb).1⟩ (.inl ⟨hw, hy⟩) hT h
  have := (h3 b hb).2
  rw [ho] at this
  obtain ⟨k, hk, he⟩ := Array.any_eq_true.1 this
  simp only [Bool.and_eq_true, Bool.or_eq_true, beq_iff_eq, List.contains_iff_mem] at he
  exact ⟨o.after[k], Array.getElem_mem hk, he.1, he.2⟩
theorem oneB (i : Nat) {fuel : Nat} {listed : Array Bool} {a : Act} {w : World} (hr : Region.ready md ops listed = [i])
    (h : wpOp P ops Q i (fun a' w' => ((listed.setIfInBounds i true).getD s true = false → T w') ∧ wpAnyB P md ops Q T s fuel (listed.setIfInBounds i true) a' w') a w) : wpAnyB P md ops Q T s (fuel + 1) listed a w :=
  ⟨fun h0 => absurd (hr ▸ h0) (by simp), fun j hj => by rw [hr] at hj; obtain rfl := List.mem_singleton.1 hj; exact h⟩
theorem twoB (i j : Nat) {fuel : Nat} {listed : Array Bool} {a : Act} {w : World} (hr : Region.ready md ops listed = [i, j])
    (h1 : wpOp P ops Q i (fun a' w' => ((listed.setIfInBounds i true).getD s true = false → T w') ∧ wpAnyB P md ops Q T s fuel (listed.setIfInBounds i true) a' w') a w)
    (h2 : wpOp P ops Q j (fun a' w' => ((listed.setIfInBounds j true).getD s true = false → T w') ∧ wpAnyB P md ops Q T s fuel (listed.setIfInBounds j true) a' w') a w) : wpAnyB P md ops Q T s (fuel + 1) listed a w :=
  ⟨fun h0 => absurd (hr ▸ h0) (by simp), fun k hk => by
    rw [hr] at hk
    rcases List.mem_cons.1 hk with rfl | hk
    · exact h1
    · obtain rfl := List.mem_singleton.1 hk
      exact h2⟩
theorem doneB {listed : Array Bool} {a : Act} {w : World} (hr : Region.ready md ops listed = []) (h : Q .normal a w) : ∀ fuel, wpAnyB P md ops Q T s fuel listed a w
  | 0 => ⟨hr, h⟩
  | _ + 1 => ⟨fun _ => h, by rw [hr]; simp⟩
theorem wp_region_bar {id : Nat} {a : Act} {w : World} (hm : P.follows .mixedOrders = true)
    (h : wpAnyB P .any ops Q T s ops.size (Array.replicate ops.size false) a { w with drawn := w.drawn + 1 }) : (Code.region id ops true).wp P Q a w :=
  wp_region_any hm (wpAny_of_bar _ _ _ _ h)
theorem wpIn_region_barR {n : Nat} {r : Option Nat} {F : Fence} (hF : F = wideR r) {id : Nat} {a : Act} {w : World} (hm : P.follows .mixedOrders = true) (hd : noDefer ops = true) (hq : ∀ a w, ¬ Q .outgrown a w)
    (h : wpAnyB P .any ops Q T s ops.size (Array.replicate ops.size false) a { w with drawn := w.drawn + 1 }) : (Code.region id ops true).wpIn F n P Q a w := by
  subst hF
  exact wpIn_region_any hm (anyIn_of_any hd hq _ _ _ _ (wpAny_of_bar _ _ _ _ h))
end
end Go.Proofs.YtipmfficjomcoaaDoor.Held
namespace Go.Proofs.YtipmfficjomcoaaDoor.Bi
open Go.RowKit Go.Shelf Go.Proofs.YtipmfficjomcoaaDoor Mem Held Go.Proofs.YtipmfficjomcoaaDoor.Range
attribute [local go_sem] Oper.semAt_some
attribute [local irreducible] wpList wpListIn Calls
theorem own_obj {w : World} {base : Nat} {t : TypeId} {k : IntKind} {v : Value} {zs : List Int} (h : Mem.Own w base t k v zs) {b : Nat} (e : v.ownBlock = some b) : ∃ cs fz, w.heap[b]? = some (.cells cs t fz) := by
  rcases h.2.2 with ⟨rfl, _⟩ | ⟨g, cap, cur, rfl, hb, hg, _⟩
  · simp [Value.ownBlock] at e
  · simp [Value.ownBlock] at e
    subst e
    exact ⟨_, _, hg⟩
theorem own_ne {w : World} {base : Nat} {t : TypeId} {k : IntKind} {v : Value} {zs : List Int} (h : Mem.Own w base t k v zs) {row : Option Nat} (hr : ∀ r, row = some r → ∃ o : Obj, w.heap[r]? = some o ∧ o.isCells = false) : v.ownBlock = none ∨ v.ownBlock ≠ row := by
  cases hq : v.ownBlock with
  | none => exact .inl rfl
  | some b =>
    refine .inr fun e => ?_
    obtain ⟨o, ho, hc⟩ := hr b e.symm
    obtain ⟨cs, fz, h2⟩ := own_obj h hq
    rw [h2] at ho
    cases ho
    cases hc
structure Two (w V : World) (B gx gy : Nat) (ux uy vx vy : Value) (xs ys : List Int) (W : World) : Prop where
  lx : gx < B
  ly : gy < B
  ne : gx ≠ gy
  hx : w.heap.size ≤ gx
  hy : w.heap.size ≤ gy
  cx : W.heap[gx]? = some (.cells #[ux] 30 (0, 0))
  cy : W.heap[gy]? = some (.cells #[uy] 30 (0, 0))
  ox : Mem.Own W B 3 .i64 vx xs
  oy : Mem.Own W B 3 .i64 vy ys
  ap : ∀ b, vx.ownBlock = some b → vy.ownBlock ≠ some b
  low : ∀ b, b < B → b ≠ gx → b ≠ gy → W.heap[b]? = V.heap[b]?
  bel : Below w.heap.size w W
  sz : B ≤ W.heap.size
section
variable {w V W W' : World} {B gx gy : Nat} {ux uy vx vy : Value} {xs ys : List Int}
theorem Two.keep (h : Two w V B gx gy ux uy vx vy xs ys W) {row : Option Nat} (hg : W.grownBy W' row) (hr : ∀ r, row = some r → B ≤ r ∧ ∃ o : Obj, W.heap[r]? = some o ∧ o.isCells = false) : Two w V B gx gy ux uy vx vy xs ys W' := by
  have hne : ∀ i, i < B → some i ≠ row := fun i hi e => by have := (hr i e.symm).1; omega
  have hr2 := fun r e => (hr r e).2
  refine ⟨h.lx, h.ly, h.ne, h.hx, h.hy, Held.keep_cells h.cx hg (hne _ h.lx), Held.keep_cells h.cy hg (hne _ h.ly), h.ox.kept hg (own_ne h.ox hr2), h.oy.kept hg (own_ne h.oy hr2), h.ap, fun b hb h1 h2 => ?_, h.bel.grown hg (by have := h.sz; have := h.hx; have := h.lx; omega) (fun r e => by have := (hr r e).1; have := h.hx; have := h.lx; omega), Nat.le_trans h.sz hg.size⟩
  exact (hg.block b (Nat.lt_of_lt_of_le hb h.sz) (hne b hb)).trans (h.low b hb h1 h2)
theorem Two.after (h : Two w V B gx gy ux uy vx vy xs ys W) (hb : Below W.heap.size W W') : Two w V B gx gy ux uy vx vy xs ys W' := h.keep (grown_of_below hb none) (fun r e => by cases e)
theorem Two.appX (h : Two w V B gx gy ux uy vx vy xs ys W) {v2 : Value} {xs2 : List Int} (o : Mem.Own W' B 3 .i64 v2 xs2) (hg : W.grownBy W' vx.ownBlock) (h3 : v2.ownBlock = vx.ownBlock ∨ v2.ownBlock = some W.heap.size) : Two w V B gx gy ux uy v2 vy xs2 ys W' := by
  have hlt : ∀ r, vx.ownBlock = some r → B ≤ r := fun r e => (h.ox.2.lt r e).1
  have hne : ∀ i, i < B → some i ≠ vx.ownBlock := fun i hi e => by have := hlt i e.symm; omega
  refine ⟨h.lx, h.ly, h.ne, h.hx, h.hy, Held.keep_cells h.cx hg (hne _ h.lx), Held.keep_cells h.cy hg (hne _ h.ly), o, h.oy.kept hg ?_, fun b hb => ?_, fun b hb h1 h2 => (hg.block b (Nat.lt_of_lt_of_le hb h.sz) (hne b hb)).trans (h.low b hb h1 h2), h.bel.grown hg (by have := h.sz; have := h.hx; have := h.lx; omega) (fun r e => by have := hlt r e; have := h.hx; have := h.lx; omega), Nat.le_trans h.sz hg.size⟩
  · cases hq : vy.ownBlock with
    | none => exact .inl rfl
    | some b => exact .inr fun e => h.ap b e.symm hq
  · rcases h3 with h3 | h3
    · rw [h3] at hb; exact h.ap b hb
    · rw [h3] at hb
      injection hb with hb
      intro e
      have := (h.oy.2.lt b e).2
      omega
theorem Two.appY (h : Two w V B gx gy ux uy vx vy xs ys W) {v2 : Value} {ys2 : List Int} (o : Mem.Own W' B 3 .i64 v2 ys2) (hg : W.grownBy W' vy.ownBlock) (h3 : v2.ownBlock = vy.ownBlock ∨ v2.ownBlock = some W.heap.size) : Two w V B gx gy ux uy vx v2 xs ys2 W' := by
  have hlt : ∀ r, vy.ownBlock = some r → B ≤ r := fun r e => (h.oy.2.lt r e).1
  have hne : ∀ i, i < B → some i ≠ vy.ownBlock := fun i hi e => by have := hlt i e.symm; omega
  refine ⟨h.lx, h.ly, h.ne, h.hx, h.hy, Held.keep_cells h.cx hg (hne _ h.lx), Held.keep_cells h.cy hg (hne _ h.ly), h.ox.kept hg ?_, o, fun b hb => ?_, fun b hb h1 h2 => (hg.block b (Nat.lt_of_lt_of_le hb h.sz) (hne b hb)).trans (h.low b hb h1 h2), h.bel.grown hg (by have := h.sz; have := h.hx; have := h.lx; omega) (fun r e => by have := hlt r e; have := h.hx; have := h.lx; omega), Nat.le_trans h.sz hg.size⟩
  · cases hq : vx.ownBlock with
    | none => exact .inl rfl
    | some b => exact .inr fun e => h.ap b hq e.symm
  · rcases h3 with h3 | h3
    · rw [h3]; exact h.ap b hb
    · rw [h3]
      intro e
      injection e with e
      have := (h.ox.2.lt b hb).2
      omega
theorem Two.putX (h : Two w V B gx gy ux uy vx vy xs ys W) {u : Value} (hc : W'.heap[gx]? = some (.cells #[u] 30 (0, 0))) (hg : W.grownBy W' (some gx)) : Two w V B gx gy u uy vx vy xs ys W' := by
  have hnx : vx.ownBlock = none ∨ vx.ownBlock ≠ some gx := .inr fun e => by have := (h.ox.2.lt gx e).1; have := h.lx; omega
  have hny : vy.ownBlock = none ∨ vy.ownBlock ≠ some gx := .inr fun e => by have := (h.oy.2.lt gx e).1; have := h.lx; omega
  exact ⟨h.lx, h.ly, h.ne, h.hx, h.hy, hc, Held.keep_cells h.cy hg (fun e => by injection e with e; exact h.ne e.symm), h.ox.kept hg hnx, h.oy.kept hg hny, h.ap, fun b hb h1 h2 => (hg.block b (Nat.lt_of_lt_of_le hb h.sz) (fun e => by injection e with e; exact h1 e)).trans (h.low b hb h1 h2), h.bel.grown hg (by have := h.sz; have := h.hx; have := h.lx; omega) (fun r e => by cases e; exact h.hx), Nat.le_trans h.sz hg.size⟩
theorem Two.putY (h : Two w V B gx gy ux uy vx vy xs ys W) {u : Value} (hc : W'.heap[gy]? = some (.cells #[u] 30 (0, 0))) (hg : W.grownBy W' (some gy)) : Two w V B gx gy ux u vx vy xs ys W' := by
  have hnx : vx.ownBlock = none ∨ vx.ownBlock ≠ some gy := .inr fun e => by have := (h.ox.2.lt gy e).1; have := h.ly; omega
  have hny : vy.ownBlock = none ∨ vy.ownBlock ≠ some gy := .inr fun e => by have := (h.oy.2.lt gy e).1; have := h.ly; omega
  exact ⟨h.lx, h.ly, h.ne, h.hx, h.hy, Held.keep_cells h.cx hg (fun e => by injection e with e; exact h.ne e), hc, h.ox.kept hg hnx, h.oy.kept hg hny, h.ap, fun b hb h1 h2 => (hg.block b (Nat.lt_of_lt_of_le hb h.sz) (fun e => by injection e with e; exact h2 e)).trans (h.low b hb h1 h2), h.bel.grown hg (by have := h.sz; have := h.hx; have := h.lx; omega) (fun r e => by cases e; exact h.hy), Nat.le_trans h.sz hg.size⟩
end
section
variable {P : Program} {ops : Array Oper} {Q : Exit → Act → World → Prop}
theorem op_append_three (i : Nat) (d : Option Tmp) {o : Oper} {a : Act} {w : World} {K : Act → World → Prop} {s x : Operand} (ts : TypeId) (hi : ops[i]? = some o) (hd : o.dst = d) (hw : Region.wanted o (yielded ops a.tmps) = true)
    (ho : o.op = .call { callee := .builtin .append, args := #[s, x], argTypes := #[ts, ts] }) (base : Nat) (e : TypeId) (k : IntKind) (bytes : Nat) (ht : P.underlying ts = some (.slice e))
    (hinfo : (P.info? e).map (fun i => (i.zero, i.size, i.bytes)) = some (some (.int k 0), 1, bytes)) (v : Value) (zs : List Int) (hs : a.eval s = v) (hown : Mem.Own w base e k v zs)
    (B : Nat) (A : Option Addr) (m c : Nat) (xs : List Int) (hx : a.eval x = .slice A m c) (hr : Ints w k B A m xs) (hlen : zs.length + m ≤ 17592186044416) (hby : bytes ≤ 8) (hbase : base ≤ w.heap.size)
    (h : ∀ A' n' c' w', Mem.Own w' base e k (.slice A' n' c') (zs ++ xs) → w.grownBy w' v.ownBlock → ((Value.slice A' n' c').ownBlock = v.ownBlock ∨ (Value.slice A' n' c').ownBlock = some w.heap.size) → Hid ((zs ++ xs).length = n') → K (a.put d (.slice A' n' c')) w') : wpOp P ops Q i K a w := by
  subst hd
  refine Held.op_wp i hi hw ?_
  obtain ⟨v', w', hrun, h2, h3, h3'⟩ := run_append_ints (P := P) w base ts o.type e k bytes ht hinfo v zs hown B A m c xs hr hlen hby hbase
  obtain ⟨A', c', rfl, h4, h5, h6⟩ := h2.form
  exact Lib.wp_append_run w s x ts ts ho _ _ hs hx _ w' hrun (h _ _ _ w' h2 h3 h3' (Lib.hid rfl))
end
theorem info_int : (Tryd.prog.info? 3).map (fun i => (i.zero, i.size, i.bytes)) = some (some (.int .i64 0), 1, 8) := by kernel_rfl
theorem wf_i64 {z : Int} (h : -9223372036854775808 ≤ z) (h' : z ≤ 9223372036854775807) : (Lit.int .i64 z).wf = true := by simp [Lit.wf, IntKind.min, IntKind.max, IntKind.signed, IntKind.bits]; omega
end Go.Proofs.YtipmfficjomcoaaDoor.Bi
namespace Go.Proofs.YtipmfficjomcoaaDoor.Bi
open Go.RowKit Go.Shelf Go.Proofs.YtipmfficjomcoaaDoor Mem Held Go.Proofs.YtipmfficjomcoaaDoor.Range
attribute [local go_sem] Oper.semAt_some
attribute [local irreducible] wpList wpListIn Calls
def xsOf (l : List Nat) : List Int := l.map fun (a : Nat) => (a : Int)
def ysOf (t : Nat) (l : List Nat) : List Int := l.map fun (a : Nat) => (a : Int) + 2 ^ (t - 1)
def I2 (w V : World) (B gx gy t : Nat) (pre : List Nat) (W : World) : Prop := ∃ vx vy, Two w V B gx gy vx vy vx vy (xsOf pre) (ysOf t pre) W
theorem I2.from (w V : World) (B gx gy t : Nat) : OwnFrom B (I2 w V B gx gy t) := fun pre W W' row h hg hr => by
  obtain ⟨vx, vy, h⟩ := h
  exact ⟨vx, vy, h.keep hg hr⟩
theorem results_three {P : Program} {fn : Func} {p q r : Tmp} {t u v : TypeId} (h : fn.results = #[.cell p t, .cell q u, .cell r v]) (tmps : Array Value) (w : World) (g g' g'' : Nat) (x y z : Value) (hp : tmps.getD p undef = .pointer (some ⟨g, 0, none⟩)) (hq : tmps.getD q undef = .pointer (some ⟨g', 0, none⟩)) (hr : tmps.getD r undef = .pointer (some ⟨g'', 0, none⟩))
    (ht : plainT P t = true) (hu : plainT P u = true) (hv : plainT P v = true) (hc : w.cell? ⟨g, 0, none⟩ = some x) (hc' : w.cell? ⟨g', 0, none⟩ = some y) (hc'' : w.cell? ⟨g'', 0, none⟩ = some z) : (results fn tmps).run P w = .ok (.tuple #[x, y, z]) w := by
  have a1 : (asAddr (.pointer (some ⟨g, 0, none⟩))).run P w = .ok ⟨g, 0, none⟩ w := by simp [asAddr]
  have a2 : (asAddr (.pointer (some ⟨g', 0, none⟩))).run P w = .ok ⟨g', 0, none⟩ w := by simp [asAddr]
  have a3 : (asAddr (.pointer (some ⟨g'', 0, none⟩))).run P w = .ok ⟨g'', 0, none⟩ w := by simp [asAddr]
  have hp2 : tmps[p]?.getD undef = .pointer (some ⟨g, 0, none⟩) := by simpa using hp
  have hq2 : tmps[q]?.getD undef = .pointer (some ⟨g', 0, none⟩) := by simpa using hq
  have hr2 : tmps[r]?.getD undef = .pointer (some ⟨g'', 0, none⟩) := by simpa using hr
  simp only [results, h]
  simp [Sem.run_bind, Result.andThen, hp2, hq2, hr2, a1, a2, a3, Held.run_loadVar_cell t _ w x ht hc, Held.run_loadVar_cell u _ w y hu hc', Held.run_loadVar_cell v _ w z hv hc'']
end Go.Proofs.YtipmfficjomcoaaDoor.Bi
