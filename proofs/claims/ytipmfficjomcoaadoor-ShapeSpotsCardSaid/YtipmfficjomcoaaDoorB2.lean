/-
  A region that draws its order, gone through by hand, operation by operation: what hangs on no world is taken first, what comes up alone is carried out.
  A range over a function whose iterator keeps cells of its own, and whose body never leaves early: what the iterator is told of the rounds, and what the loop owes: no program here.
  A range over a function whose iterator keeps cells of its own, and whose body may leave early (or whose iterator never ends by itself): what the iterator is told of the rounds, counted, and what the loop owes: no program here.
  Arrays in boxes, read, stored and copied into, within a fence; what an iterator's round keeps: no program here.
  copy into a block that is known whole: no program here.
  Where every activation may run, what is shown of a region without a fence holds within a round, and within an iterator, too: no program here.
  Operations of a drawn region, one by one: min, len, s[:h] of an array, append within the room, a store into a box; what a row is to a step that touches no cells: no program here.
  copy within a region that draws its order: no program here.
  A store of one number into a block that is known whole, the new world a letter: no program here.
  More operations of a region that draws its order: the address of an element, products, shifts, bits: no program here.
  Variables of one cell, the new world a letter; a function value held against nil; what is unlike, elements of several cells, within a region that draws its order: no program here.
  A table of numbers of 32 bits, at a package-level variable's block, and what a row's condition on it gives: no program here.
  A table stays where only other blocks change: no program here.
  SHA-256 as plain functions on lists of numbers, and what is true of them: no program here.
  Numbers as bytes, and Poly1305, as plain functions: no program here.
  Numbers in limbs of 26 bits, and how they are multiplied modulo 2^130 - 5: no program here.
  Pieces, the tag's bytes, and what loops leave behind them: no program here.
  A table of numbers of any kind at a package-level variable's block; an array out of a slice, and out of the middle of a block: no program here.
  Within a fence: a store of one number into a block that is known whole, a built array, a copy, a whole array's address out of a slice, the new world a letter: no program here.
  Structs and arrays as wholes, within a region that draws its order and outside it: the address of a field, a whole value read, built, boxed, stored: no program here.
  Texts within a drawn region, and small lists of numbers as rows of their own: no program here.
  The functions of package dominohelp on bytes, each by its contract.
  More operations of a drawn region, one by one: make, append with new room, texts that are not alike; dominohelp.Bytes of like texts.
-/
import Derived.Test.YtipmfficjomcoaaDoorB1
import Derived.Deep.RegionHeld
import Derived.Great.BuildSlice
import Derived.Great.FillDense
import Derived.Shelf.Abstract
import Derived.RangeFuncNested
import Derived.RangeFuncBound
import Derived.RangeFuncCalls
import Derived.RangeFuncLeaves
import Derived.Shelf.RegionOpen
import Derived.WalkKit
import Derived.OwnWalkIn
import Derived.TacticsInMore
import Derived.LoopNIn
import Derived.LoopIn
import Derived.Laws.CopyOwn
import Derived.OrdersIn
import Derived.OneCell
import Derived.Laws.Small
import Derived.Deep.MidRow
import Derived.Test.YtipmfficjomcoaaDoorRows
import Derived.Lib.LaidTab
import Derived.LaidMore
import Derived.Stop.Joined
import Derived.Stop.LaidErr
import Derived.OpenShut
import Derived.Laws.BitsAllLaws
import Derived.Lib.EndianBits
import Derived.Laws.StructEq
import Derived.Laws.ResultCell
import Derived.Deep.OwnRows
set_option linter.unusedVariables false
namespace Go.Proofs.YtipmfficjomcoaaDoor
theorem Z1 {α : Type} (xs : List α) (i : Nat) (a : α) : xs.toArray.setIfInBounds i a = (xs.set i a).toArray := List.setIfInBounds_toArray ..
theorem Z2 {α : Type} (x a : α) (xs : List α) : (x :: xs).set 0 a = a :: xs := rfl
theorem Z3 {α : Type} (x a : α) (xs : List α) (n : Nat) : (x :: xs).set (n + 1) a = x :: xs.set n a := rfl
end Go.Proofs.YtipmfficjomcoaaDoor
namespace Go.Proofs.YtipmfficjomcoaaDoor.Held
open Go.RowKit Go.Shelf Mem
section
variable {P : Program} {ops : Array Oper} {Q : Exit → Act → World → Prop} {md : Region.Mode} {S : World → Prop}
theorem take (i : Nat) (d : Option Tmp) {oi : Oper} {v : Value} {fuel : Nat} {listed : Array Bool} {a : Act} {w : World} (hi : ops[i]? = some oi) (hd : oi.dst = d)
    (hs : Region.noSelect ops = true) (hf : Region.free md ops listed i = true) (hr : (Region.ready md ops listed).contains i = true)
    (hQ : ∀ c a w, Q (.panic c) (a.put d v) w → Q (.panic c) a w) (hw : Region.wanted oi (yielded ops a.tmps) = true) (hy : ∀ w, S w → (execOp a.eval oi).run P w = .ok (.value v) w) (hS : S w)
    (h : wpAnyH P md ops Q S fuel (listed.setIfInBounds i true) (a.put d v) w) : wpAnyH P md ops Q S (fuel + 1) listed a w := by
  subst hd
  exact wpAnyH_take hi hs hf hr hQ (.inl ⟨hw, hy⟩) hS h
theorem tk (i : Nat) (d : Option Tmp) {oi : Oper} {v : Value} {fuel : Nat} {listed : Array Bool} {a : Act} {w : World} (hi : ops[i]? = some oi) (hy : ∀ w, S w → (execOp a.eval oi).run P w = .ok (.value v) w) (hS : S w)
    (h : wpAnyH P md ops Q S fuel (listed.setIfInBounds i true) (a.put d v) w) (hd : oi.dst = d := by rfl) (hs : Region.noSelect ops = true := by kernel_rfl) (hf : Region.free md ops listed i = true := by kernel_rfl)
    (hr : (Region.ready md ops listed).contains i = true := by kernel_rfl) (hQ : ∀ c a w, Q (.panic c) (a.put d v) w → Q (.panic c) a w := by intro c a w h; exact h) (hw : Region.wanted oi (yielded ops a.tmps) = true := by rfl) : wpAnyH P md ops Q S (fuel + 1) listed a w :=
  take i d hi hd hs hf hr hQ hw hy hS h
theorem one (i : Nat) {fuel : Nat} {listed : Array Bool} {a : Act} {w : World} (hr : Region.ready md ops listed = [i])
    (h : wpOp P ops Q i (fun a' w' => S w' ∧ wpAnyH P md ops Q S fuel (listed.setIfInBounds i true) a' w') a w) : wpAnyH P md ops Q S (fuel + 1) listed a w := by
  refine wpAnyH_all hr (by simp) fun j hj => ?_
  obtain rfl := List.mem_singleton.1 hj
  exact h
theorem two (i j : Nat) {fuel : Nat} {listed : Array Bool} {a : Act} {w : World} (hr : Region.ready md ops listed = [i, j])
    (h1 : wpOp P ops Q i (fun a' w' => S w' ∧ wpAnyH P md ops Q S fuel (listed.setIfInBounds i true) a' w') a w) (h2 : wpOp P ops Q j (fun a' w' => S w' ∧ wpAnyH P md ops Q S fuel (listed.setIfInBounds j true) a' w') a w) : wpAnyH P md ops Q S (fuel + 1) listed a w := by
  refine wpAnyH_all hr (by simp) fun k hk => ?_
  rcases List.mem_cons.1 hk with rfl | hk
  · exact h1
  · obtain rfl := List.mem_singleton.1 hk
    exact h2
theorem op_wp (i : Nat) {o : Oper} {a : Act} {w : World} {K : Act → World → Prop} (hi : ops[i]? = some o) (hw : Region.wanted o (yielded ops a.tmps) = true) (h : Oper.wp P o a w K Q) : wpOp P ops Q i K a w := by
  unfold wpOp
  simp only [hi, hw, if_true]
  exact .inl h
theorem op_call (i : Nat) (d : Option Tmp) {o : Oper} {a : Act} {w : World} {K : Act → World → Prop} (f : FuncId) (vals : Array Value) {xs : Array Operand} {ts : Array TypeId} {R : Ending → World → Prop} (hi : ops[i]? = some o) (hd : o.dst = d) (hw : Region.wanted o (yielded ops a.tmps) = true)
    (ho : o.op = .call { callee := .value (.func f), args := xs, argTypes := ts }) (he : Enters P f) (hv : xs.map a.eval = vals)
    (hc : Calls P f vals w R)
    (h : ∀ e w', R e w' → ∃ v, e = .returned v ∧ K (a.put d v) w') : wpOp P ops Q i K a w := by
  subst hd
  refine op_wp i hi hw ?_
  have hrun : (execOp a.eval o).run P w = .ok (.enter f vals) w := by
    unfold execOp
    simp only [ho, resolve, Act.eval, Deferred.ofValue, Sem.run_bind, Sem.run_pure, Result.andThen_ok, invoke, Array.empty_append, Array.append_empty, hv]
    exact he _ _
  unfold Oper.wp
  rw [hrun, Oper.upon_enter]
  refine hc.mono fun e w' hR => ?_
  obtain ⟨v, rfl, hW⟩ := h e w' hR
  exact hW
variable {ρ : Operand → Value} {o : Oper}
theorem y_move {x : Operand} {v : Value} (ho : o.op = .move x) (hv : ρ x = v) : ∀ w, S w → (execOp ρ o).run P w = .ok (.value v) w := fun w _ => by simp [execOp, ho, hv]
theorem y_assign {x : Operand} {v : Value} (ho : o.op = .assign x) (hv : ρ x = v) : ∀ w, S w → (execOp ρ o).run P w = .ok (.value v) w := fun w _ => by simp [execOp, ho, hv]
theorem y_pick {c x y : Operand} {v : Value} (ho : o.op = .pick c x y) (hc : ρ c = .bool true) (hv : ρ x = v) : ∀ w, S w → (execOp ρ o).run P w = .ok (.value v) w := fun w _ => by simp [execOp, ho, hv, hc, asBool]
theorem y_bin {op : BinOp} {t ty : TypeId} {x y : Operand} {u v r : Value} (ho : o.op = .binOp op t x y ty) (hx : ρ x = u) (hy : ρ y = v) (hg : ∀ w, (eqGuard op t x y u v).run P w = .ok () w) (hr : ∀ w, (binOp op t u v).run P w = .ok r w) : ∀ w, S w → (execOp ρ o).run P w = .ok (.value r) w :=
  fun w _ => by simp [execOp, ho, hx, hy, hg w, hr w]
end
section
variable {P : Program} {S : World → Prop} {ρ : Operand → Value} {o : Oper}
theorem y_int {op : BinOp} {t ty : TypeId} {x y : Operand} {k : IntKind} {a b r : Int} (ho : o.op = .binOp op t x y ty) (hx : ρ x = .int k a) (hy : ρ y = .int k b) (hr : ∀ w : World, (binOp op t (.int k a) (.int k b)).run P w = .ok (.int k r) w) :
    ∀ w, S w → (execOp ρ o).run P w = .ok (.value (.int k r)) w := y_bin ho hx hy (fun w => by cases op <;> simp [eqGuard]) hr
theorem run_quo (t : TypeId) (k : IntKind) {a b r : Int} (hb : b ≠ 0) (hr : k.wrap (a.tdiv b) = r) (w : World) : (binOp .quo t (.int k a) (.int k b)).run P w = .ok (.int k r) w := by simp [binOp, Op.intDiv, hb, hr]
theorem run_rem (t : TypeId) (k : IntKind) {a b r : Int} (hb : b ≠ 0) (hr : a.tmod b = r) (w : World) : (binOp .rem t (.int k a) (.int k b)).run P w = .ok (.int k r) w := by simp [binOp, Op.intDiv, hb, hr]
theorem run_sub (t : TypeId) (k : IntKind) {a b r : Int} (hr : k.wrap (a - b) = r) (w : World) : (binOp .sub t (.int k a) (.int k b)).run P w = .ok (.int k r) w := by simp [binOp, Op.intArith, hr]
theorem run_add (t : TypeId) (k : IntKind) {a b r : Int} (hr : k.wrap (a + b) = r) (w : World) : (binOp .add t (.int k a) (.int k b)).run P w = .ok (.int k r) w := by simp [binOp, Op.intArith, hr]
theorem y_convert {src dst : TypeId} {x : Operand} {k k' : IntKind} {a r : Int} (ho : o.op = .convert src dst x) (hx : ρ x = .int k a) (hs : (P.underlying src).isSome = true) (hd : P.underlying dst = some (.int k')) (hr : k'.wrap a = r) :
    ∀ w, S w → (execOp ρ o).run P w = .ok (.value (.int k' r)) w := fun w _ => by
  have h := run_convert_int (P := P) w src dst k a hs
  have e : P.intKind dst = k' := by simp [Program.intKind, hd]
  simp [execOp, ho, hx, h, hd, hr, e]
theorem y_len {t : TypeId} {x : Operand} {A : Option Addr} {n c : Nat} (ho : o.op = .call { callee := .builtin .len, args := #[x], argTypes := #[t] }) (hx : ρ x = .slice A n c) (ht : P.underlying t = some (.slice (P.elem t))) :
    ∀ w, S w → (execOp ρ o).run P w = .ok (.value (.int .i64 (n : Int))) w := fun w _ => by
  have h := run_len_slice (P := P) w t o.type A n c ht
  unfold execOp
  simp [ho, resolve, invoke, builtin, hx, h, goInt]
end
end Go.Proofs.YtipmfficjomcoaaDoor.Held
namespace Go.Proofs.YtipmfficjomcoaaDoor.Range
open Go.RowKit
def Far {β : Type} (B : Nat) (J : β → World → Prop) : Prop :=
  ∀ s W W' row, J s W → W.grownBy W' row → (∀ r, row = some r → B ≤ r) → J s W'
theorem Far.alloc {β : Type} {B : Nat} {J : β → World → Prop} (h : Far B J) {s : β} {W : World} (o : Obj) (hs : J s W) : J s (W.alloc o) :=
  h s W _ none hs (World.grownBy_alloc W o none) (fun r e => by cases e)
theorem Far.put {β : Type} {B : Nat} {J : β → World → Prop} (h : Far B J) {s : β} {W : World} {l : Nat} (o : Obj) (hs : J s W) (hl : B ≤ l) : J s (W.putObj l o) :=
  h s W _ (some l) hs (grownBy_putObj' W l o) (fun r e => by cases e; exact hl)
theorem Far.below {β : Type} {B : Nat} {J : β → World → Prop} (h : Far B J) {s : β} {W W' : World} (hs : J s W) (hb : Below B W W') (hB : B ≤ W.heap.size) (hone : ∃ r, B ≤ r ∧ W.grownBy W' (some r)) : J s W' := by
  obtain ⟨r, hr, hg⟩ := hone
  exact h s W W' (some r) hs hg (fun q e => by cases e; exact hr)
variable {F : Fence} {n : Nat} {P : Program}
end Go.Proofs.YtipmfficjomcoaaDoor.Range
namespace Go.Proofs.YtipmfficjomcoaaDoor.Range
open Go.RowKit
def SeqStop {α : Type} (F : Fence) (n : Nat) (P : Program) (g : Nat) (lb : Array Value) (encs : α → Array Value) (Kp : World → World → Prop) (at_ : Nat → Option α) (w : World) : Prop :=
  ∀ (l : Nat) (J Jx : Nat → World → Prop) (N : Nat) (W : World), Below w.heap.size w W → Far W.heap.size J → Far W.heap.size Jx → (∀ k W1, J k W1 → k < N) →
    (∀ k x W1, J k W1 → at_ k = some x → YieldAt F (n - 1) P l (encs x) W1 fun e W' =>
      (e = .returned (.bool true) ∧ J (k + 1) W' ∧ Kp W1 W') ∨ (e = .returned (.bool false) ∧ Jx (k + 1) W')) →
    J 0 W → CallsIn F n P g (#[.func (.yield l) #[] #[]] ++ lb) W fun e W' => (∃ v, e = .returned v) ∧ ((∃ k, at_ k = none ∧ J k W') ∨ ∃ k, Jx k W')
theorem SeqStop.inRound {α : Type} {F : Fence} {n : Nat} {P : Program} {g : Nat} {lb : Array Value} {encs : α → Array Value} {Kp : World → World → Prop} {at_ : Nat → Option α} {w : World} (l : Nat)
    (h : SeqStop F n P g lb encs Kp at_ w) : SeqStop (F.inRound l) n P g lb encs Kp at_ w := h
def stopPost (R : World → Prop) (X : Code → World → Prop) : Exit → Act → World → Prop
  | .normal, _, W' => R W'
  | .ret, _, W' => X .ret W'
  | .exit id, _, W' => X (.exit id) W'
  | .goto t, _, W' => X (.goto t) W'
  | _, _, _ => False
variable {F : Fence} {n : Nat} {P : Program}
end Go.Proofs.YtipmfficjomcoaaDoor.Range
namespace Go.Proofs.YtipmfficjomcoaaDoor.Mem
open Go.RowKit Go.Proofs.YtipmfficjomcoaaDoor.Range
section
variable {F : Fence} {n : Nat} {P : Program} {ops : Array Oper} {rest : List Oper} {o : Oper} {a : Act} {w : World} {Q : Exit → Act → World → Prop}
end
structure Only (S : Nat → Prop) (w w' : World) : Prop where
  size : w.heap.size ≤ w'.heap.size
  block : ∀ (i : Nat) (o : Obj), ¬ S i → w.heap[i]? = some o → o.isCells = true → w'.heap[i]? = some o
section
variable {S S' : Nat → Prop} {w w' w'' : World}
theorem Only.refl (S : Nat → Prop) (w : World) : Only S w w := ⟨Nat.le_refl _, fun _ _ _ h _ => h⟩
theorem Only.trans (h : Only S w w') (k : Only S w' w'') : Only S w w'' := ⟨Nat.le_trans h.size k.size, fun i o hi ho hc => k.block i o hi (h.block i o hi ho hc) hc⟩
theorem Only.mono (h : Only S w w') (hS : ∀ i, S i → S' i) : Only S' w w' := ⟨h.size, fun i o hi => h.block i o (fun e => hi (hS i e))⟩
theorem Only.of_grown {row : Option Nat} (hg : w.grownBy w' row) (hr : ∀ r, row = some r → S r) : Only S w w' :=
  ⟨hg.size, fun i o hi ho _ => (hg.block i (Array.getElem?_eq_some_iff.1 ho).1 (fun e => hi (hr i e.symm))).trans ho⟩
theorem Only.of_below (h : Below w.heap.size w w') : Only S w w' := ⟨h.size, fun i o _ ho _ => (h.block i (Array.getElem?_eq_some_iff.1 ho).1).trans ho⟩
theorem Only.put (W : World) (l : Nat) (o o' : Obj) (h : W.heap[l]? = some o) (hc : o.isCells = false) : Only S W (W.putObj l o') :=
  ⟨by simp, fun i q _ hq hqc => by
    by_cases e : i = l
    · subst e; rw [h] at hq; cases hq; rw [hc] at hqc; cases hqc
    · exact (World.putObj_heap_other e).trans hq⟩
theorem Only.cell (h : Only S w w') {p : Addr} {v : Value} (hp : ¬ S p.block) (hc : w.cell? p = some v) : w'.cell? p = some v := by
  obtain ⟨o, ho, hcs⟩ := cells_of_cell hc
  exact (World.cell?_of_block ((h.block _ o hp ho hcs).trans ho.symm)).trans hc
theorem Only.row (h : Only S w w') {g : Nat} {t : TypeId} {k : IntKind} {zs : List Int} (hg : ¬ S g) (hr : Row w g t k zs) : Row w' g t k zs := ⟨hr.1, h.block g _ hg hr.2 rfl⟩
def IntsN (w : World) (k : IntKind) (S : Nat → Prop) (A : Option Addr) (n : Nat) (zs : List Int) : Prop :=
  zs.length = n ∧ (∀ z ∈ zs, (Lit.int k z).wf = true) ∧ (0 < n → ∃ b off, A = some ⟨b, off, none⟩ ∧ ¬ S b ∧ ∀ i, i < n → w.cell? ⟨b, off + i, none⟩ = some (.int k (zs.getD i 0)))
theorem IntsN.only {k : IntKind} {A : Option Addr} {n : Nat} {zs : List Int} (h : IntsN w k S A n zs) (ho : Only S w w') : IntsN w' k S A n zs :=
  ⟨h.1, h.2.1, fun hn => by
    obtain ⟨b, off, e, hb, hc⟩ := h.2.2 hn
    exact ⟨b, off, e, hb, fun i hi => ho.cell (p := ⟨b, off + i, none⟩) hb (hc i hi)⟩⟩
theorem IntsN.of {k : IntKind} {A : Option Addr} {n B : Nat} {zs : List Int} (h : Ints w k B A n zs) (hB : ∀ b, b < B → ¬ S b) : IntsN w k S A n zs :=
  ⟨h.1, h.2.1, fun hn => by
    obtain ⟨b, off, e, hb, hc⟩ := h.2.2 hn
    exact ⟨b, off, e, hB b hb, hc⟩⟩
theorem IntsN.row {t : TypeId} {k : IntKind} {g : Nat} {zs : List Int} (h : Row w g t k zs) (hg : ¬ S g) : IntsN w k S (some ⟨g, 0, none⟩) zs.length zs :=
  ⟨rfl, h.1, fun _ => ⟨g, 0, rfl, hg, fun i hi => by rw [Nat.zero_add]; exact h.cell hi⟩⟩
theorem IntsN.cut {k : IntKind} {b off n m cap : Nat} {zs : List Int} (h : IntsN w k S (some ⟨b, off, none⟩) n zs) (hm : m ≤ n) (hc : n ≤ cap) :
    IntsN w k S (if cap = m then some ⟨b, off, none⟩ else some ⟨b, off + m, none⟩) (n - m) (zs.drop m) := by
  refine ⟨by simp [h.1], fun z hz => h.2.1 z (List.mem_of_mem_drop hz), fun hn => ?_⟩
  obtain ⟨b', off', e, hb, hcell⟩ := h.2.2 (by omega)
  injection e with e
  injection e with e1 e2
  subst e1
  subst e2
  rw [if_neg (by omega)]
  refine ⟨b, off + m, rfl, hb, fun i hi => ?_⟩
  rw [Nat.add_assoc, hcell (m + i) (by omega)]
  simp [List.getD_eq_getElem?_getD, List.getElem?_drop]
end
end Go.Proofs.YtipmfficjomcoaaDoor.Mem
namespace Go.Proofs.YtipmfficjomcoaaDoor.Mem
open Go.RowKit Go.Shelf
section
variable {F : Fence} {n : Nat} {P : Program} {ops : Array Oper} {rest : List Oper} {o : Oper} {a : Act} {w : World} {Q : Exit → Act → World → Prop}
end
end Go.Proofs.YtipmfficjomcoaaDoor.Mem
namespace Go.Proofs.YtipmfficjomcoaaDoor.Held
open Go.RowKit
def wideR (r : Option Nat) : Fence := { Fence.wide with round := r }
section
variable {P : Program} {ops : Array Oper} {Q : Exit → Act → World → Prop} {n : Nat} {r : Option Nat}
theorem calls_wideR {f : FuncId} {args : Array Value} {w : World} {R : Ending → World → Prop} (h : Calls P f args w R) : CallsIn (wideR r) n P f args w R :=
  (callsIn_wide (n := n)).2 h
theorem rows_wideR {row : String} {args : Array Value} {w : World} {R : Value → World → Prop} (h : Rows P row args w R) : RowsIn (wideR r) n P row args w R := fun c cs _ => by
  obtain ⟨v, w', hR, hs⟩ := h c cs
  exact ⟨v, w', hR, stepsIn_wide.2 hs⟩
theorem opIn_of_op {o : Oper} (ho : ∀ c, o.op ≠ .defer c) {K : Act → World → Prop} {a : Act} {w : World} (h : o.wp P a w K Q) : o.wpIn (wideR r) n P a w K Q := by
  refine ⟨fun _ _ => trivial, ?_⟩
  rw [Oper.semAt_plain (wideR r) _ _ ho]
  unfold Oper.wp at h
  generalize (execOp a.eval o).run P w = x at h
  cases x with
  | ok y w' =>
    cases y with
    | value v => exact h
    | skip => exact h
    | «defer» d => exact h
    | enter f args =>
      refine ⟨fun hd => absurd (show false = true from hd) (by simp), (calls_wideR (r := r) h).mono fun e w'' he => ?_⟩
      cases e <;> exact he
    | row row args => exact ⟨fun hd => absurd (show false = true from hd) (by simp), rows_wideR h⟩
    | _ => exact h.elim
  | halt y w' => cases y <;> exact h
def noDefer (ops : Array Oper) : Bool := ops.all fun o => match o.op with | .defer _ => false | _ => true
theorem noDefer_spec (h : noDefer ops = true) {i : Nat} {o : Oper} (hi : ops[i]? = some o) : ∀ c, o.op ≠ .defer c := by
  intro c e
  have hlt := (Array.getElem?_eq_some_iff.1 hi).1
  have := (Array.all_eq_true.1 h) i hlt
  rw [(Array.getElem?_eq_some_iff.1 hi).2, e] at this
  cases this
theorem opsIn_of_op (hd : noDefer ops = true) (hq : ∀ a w, ¬ Q .outgrown a w) {i : Nat} {K : Act → World → Prop} {a : Act} {w : World} (h : wpOp P ops Q i K a w) : wpOpIn (wideR r) n P ops Q i K a w := by
  unfold wpOp at h
  unfold wpOpIn
  cases hi : ops[i]? with
  | none => simpa only [hi] using h
  | some o =>
    simp only [hi] at h ⊢
    split
    · rename_i hw
      simp only [hw, if_true] at h
      rcases h with h | ⟨_, a', w', hl⟩
      · exact opIn_of_op (noDefer_spec hd hi) h
      · exact (hq _ _ hl).elim
    · rename_i hw
      simp only [hw] at h
      exact ⟨fun _ _ => trivial, h⟩
theorem anyIn_of_any {md : Region.Mode} (hd : noDefer ops = true) (hq : ∀ a w, ¬ Q .outgrown a w) : ∀ (fuel : Nat) (listed : Array Bool) (a : Act) (w : World), wpAny P md ops Q fuel listed a w → wpAnyIn (wideR r) n P md ops Q fuel listed a w
  | 0, _, _, _, h => h
  | fuel + 1, _, _, _, h => ⟨h.1, fun i hi => wpOpIn_mono (fun a' w' h' => anyIn_of_any hd hq fuel _ a' w' h') (opsIn_of_op hd hq (h.2 i hi))⟩
theorem wpIn_region_heldR {F : Fence} (hF : F = wideR r) {S : World → Prop} {id : Nat} {a : Act} {w : World} (hm : P.follows .mixedOrders = true) (hd : noDefer ops = true) (hq : ∀ a w, ¬ Q .outgrown a w)
    (h : wpAnyH P .any ops Q S ops.size (Array.replicate ops.size false) a { w with drawn := w.drawn + 1 }) : (Code.region id ops true).wpIn F n P Q a w := by
  subst hF
  exact wpIn_region_any hm (anyIn_of_any hd hq _ _ _ _ (wpAny_of_held _ _ _ _ h))
end
section
variable {P : Program} {ops : Array Oper} {Q : Exit → Act → World → Prop} {S : World → Prop}
end
end Go.Proofs.YtipmfficjomcoaaDoor.Held
namespace Go.Proofs.YtipmfficjomcoaaDoor.Held
open Go.RowKit
def plainT (P : Program) (ty : TypeId) : Bool := match P.underlying ty with | some (.struct _) => false | some (.array _ _) => false | some _ => true | none => false
theorem run_loadVar_cell {P : Program} (ty : TypeId) (p : Addr) (w : World) (v : Value) (hp : plainT P ty = true) (hc : w.cell? p = some v) : (loadVar ty p).run P w = .ok v w := by
  unfold plainT at hp
  cases hu : P.underlying ty with
  | none => rw [hu] at hp; cases hp
  | some d =>
    rw [hu] at hp
    cases d <;> first | (cases hp; done) | simp [loadVar, isAgg, run_underlying hu, Sem.run_bind, Result.andThen, hc]
section
variable {P : Program} {S : World → Prop} {ρ : Operand → Value} {o : Oper}
theorem y_load {ty : TypeId} {x : Operand} {p : Addr} {v : Value} (ho : o.op = .load ty x) (hx : ρ x = .pointer (some p)) (hp : plainT P ty = true) (hc : ∀ w, S w → w.cell? p = some v) : ∀ w, S w → (execOp ρ o).run P w = .ok (.value v) w := fun w hw => by
  simp only [execOp, ho, hx, Instr.loadAt, Instr.sureAddr, Sem.run_bind, Sem.run_pure, Result.andThen_ok, run_loadVar_cell ty p w v hp (hc w hw)]
end
end Go.Proofs.YtipmfficjomcoaaDoor.Held
namespace Go.Proofs.YtipmfficjomcoaaDoor.Held
open Go.RowKit Mem
section
variable {P : Program} {S : World → Prop} {ρ : Operand → Value} {o : Oper}
theorem y_min {x y : Operand} {k : IntKind} {a b r : Int} {ts : Array TypeId} (ho : o.op = .call { callee := .builtin .min, args := #[x, y], argTypes := ts }) (hx : ρ x = .int k a) (hy : ρ y = .int k b) (hr : (if b < a then b else a) = r) :
    ∀ w, S w → (execOp ρ o).run P w = .ok (.value (.int k r)) w := fun w _ => by
  unfold execOp
  simp [ho, resolve, invoke, builtin, hx, hy, run_min_int2, hr]
end
section
variable {P : Program} {ops : Array Oper} {Q : Exit → Act → World → Prop}
end
section
variable {F : Fence} {n : Nat} {P : Program} {ops : Array Oper} {rest : List Oper} {o : Oper} {a : Act} {w : World} {Q : Exit → Act → World → Prop}
theorem wpList_box_cell (hgd : o.guard = none) (ty : TypeId) (x : Operand) (ho : o.op = .box ty x) (v : Value) (hx : a.eval x = v) (h1 : v.cells = #[v])
    (h : ∀ w', w'.heap[w.heap.size]? = some (.cells #[v] ty (0, 0)) → w.grownBy w' none → Hid (w'.heap.size = w.heap.size + 1) → wpList P ops Q rest (a.put o.dst (.pointer (some ⟨w.heap.size, 0, none⟩))) w') : wpList P ops Q (o :: rest) a w := by
  refine wpList_plain hgd fun K hK => ?_
  unfold Oper.wp execOp
  simp only [ho, hx, Sem.run_bind, Instr.box, newVar, newRow, run_newObj_alloc, Sem.run_pure, Result.andThen_ok, h1]
  exact hK _ _ (h _ (heap_alloc_new w _) (World.grownBy_alloc w _ none) (Lib.hid (by simp)))
theorem run_alloc_one {P : Program} (ty : TypeId) (z : Value) (hz : (P.info? ty).bind (·.zero) = some z) (h1 : z.cells = #[z]) (v : Value) (w : World) :
    (Instr.alloc ty true v).run P w = .ok (.pointer (some ⟨w.heap.size, 0, none⟩)) (w.alloc (.cells #[z] ty)) := by
  cases hi : P.info? ty with
  | none => simp [hi] at hz
  | some i =>
    simp only [hi, Option.bind_some] at hz
    simp [Instr.alloc, zeroValue, typeInfo, hi, hz, newVar, newRow, h1]
theorem run_store_box {P : Program} {w : World} (ty : TypeId) (g : Nat) (t : TypeId) (old v : Value) (hb : w.heap[g]? = some (.cells #[old] t (0, 0))) (hsz : (P.info? ty).map (·.size) = some 1) (h1 : v.cells = #[v]) (ho1 : v.oneCell' = true) :
    (storeVar ty ⟨g, 0, none⟩ v).run P w = .ok () (w.setCell ⟨g, 0, none⟩ v) := by
  have hz : (sizeOf ty).run P w = .ok 1 w := by
    cases hq : P.info? ty with
    | none => simp [hq] at hsz
    | some q => simp [hq] at hsz; simp [sizeOf, typeInfo, hq, hsz]
  have ea : (Addr.mk g 0 none).add 0 = ⟨g, 0, none⟩ := by unfold Addr.add; split <;> simp_all
  simp [storeVar, hz, h1, Sem.run_bind, Result.andThen, storeCells, run_store P w _ v _ ho1, ea, cell_of_one hb, free_of_one hb]
end
theorem zip_one (p : Tmp) (v : Value) (t : Array Value) : ((#[p].zip #[v]).foldl (fun t (p, v) => t.setIfInBounds p v) t) = t.setIfInBounds p v := by simp
theorem zip_two (p q : Tmp) (u v : Value) (t : Array Value) : ((#[p, q].zip #[u, v]).foldl (fun t (p, v) => t.setIfInBounds p v) t) = (t.setIfInBounds p u).setIfInBounds q v := by simp
theorem keep_cells {w w' : World} {g : Nat} {cs : Array Value} {t : TypeId} {fr : Nat × Nat} {row : Option Nat} (h : w.heap[g]? = some (.cells cs t fr)) (hg : w.grownBy w' row) (hr : some g ≠ row) : w'.heap[g]? = some (.cells cs t fr) :=
  (hg.block g (Array.getElem?_eq_some_iff.1 h).1 hr).trans h
end Go.Proofs.YtipmfficjomcoaaDoor.Held
namespace Go.Proofs.YtipmfficjomcoaaDoor.Held
open Go.RowKit Mem
end Go.Proofs.YtipmfficjomcoaaDoor.Held
namespace Go.Proofs.YtipmfficjomcoaaDoor.Mem
open Go.RowKit Go.Shelf
theorem run_store_elem {P : Program} {w : World} (ty : TypeId) (g i : Nat) (u v : Value) (hc : w.cell? ⟨g, i, none⟩ = some u) (hf : w.frozen? ⟨g, i, none⟩ = false) (hsz : (P.info? ty).map (·.size) = some 1) (h1 : v.cells = #[v]) (ho1 : v.oneCell' = true) :
    (storeVar ty ⟨g, i, none⟩ v).run P w = .ok () (w.setCell ⟨g, i, none⟩ v) := by
  have hz : (sizeOf ty).run P w = .ok 1 w := by
    cases hq : P.info? ty with
    | none => simp [hq] at hsz
    | some q => simp [hq] at hsz; simp [sizeOf, typeInfo, hq, hsz]
  have ea : (Addr.mk g i none).add 0 = ⟨g, i, none⟩ := by unfold Addr.add; split <;> simp_all
  simp [storeVar, hz, h1, Sem.run_bind, Result.andThen, storeCells, run_store P w _ v _ ho1, ea, hc, hf]
end Go.Proofs.YtipmfficjomcoaaDoor.Mem
namespace Go.Proofs.YtipmfficjomcoaaDoor.Held
open Go.RowKit Mem
section
variable {P : Program}
theorem run_addr_arr (t e : TypeId) (n g i : Nat) (k : IntKind) (ht : P.underlying t = some (.array n e)) (hs : (P.info? e).map (·.size) = some 1) (hi : i < n) (w : World) :
    (Instr.indexAt t (.pointer (some ⟨g, 0, none⟩)) (.int k (i : Int))).run P w = .ok (.pointer (some ⟨g, i, none⟩)) w := by
  have he : P.elem t = e := by simp [Program.elem, ht]
  have hl : P.arrayLen t = n := by simp [Program.arrayLen, ht]
  have hz : (sizeOf e).run P w = .ok 1 w := by
    cases hq : P.info? e with
    | none => simp [hq] at hs
    | some q => simp [hq] at hs; simp [sizeOf, typeInfo, hq, hs]
  have ea : (Addr.mk g 0 none).add i = ⟨g, i, none⟩ := by unfold Addr.add; split <;> simp_all
  rw [run_indexAt_array w t ⟨g, 0, none⟩ k (i : Int) (by rw [he, hl]; exact ht), he, hl, if_pos ⟨by omega, by omega⟩, hz]
  simp [Result.andThen, ea]
theorem run_addr_slice (t e : TypeId) (b off len cap i : Nat) (k : IntKind) (ht : P.underlying t = some (.slice e)) (hs : (P.info? e).map (·.size) = some 1) (hi : i < len) (w : World) :
    (Instr.indexAt t (.slice (some ⟨b, off, none⟩) len cap) (.int k (i : Int))).run P w = .ok (.pointer (some ⟨b, off + i, none⟩)) w := by
  have he : P.elem t = e := by simp [Program.elem, ht]
  have hz : (sizeOf e).run P w = .ok 1 w := by
    cases hq : P.info? e with
    | none => simp [hq] at hs
    | some q => simp [hq] at hs; simp [sizeOf, typeInfo, hq, hs]
  have ea : (Addr.mk b off none).add i = ⟨b, off + i, none⟩ := by unfold Addr.add; split <;> simp_all
  rw [run_indexAt_slice w t ⟨b, off, none⟩ len cap k (i : Int) (by rw [he]; exact ht), he, if_pos ⟨by omega, by omega⟩, hz]
  simp [Result.andThen, ea]
theorem run_mul (t : TypeId) (k : IntKind) {a b r : Int} (hr : k.wrap (a * b) = r) (w : World) : (binOp .mul t (.int k a) (.int k b)).run P w = .ok (.int k r) w := by simp [binOp, Op.intArith, hr]
end
section
variable {P : Program} {S : World → Prop} {ρ : Operand → Value} {o : Oper}
theorem y_addr {t : TypeId} {x ix : Operand} {u v r : Value} (ho : o.op = .indexAddr t x ix) (hx : ρ x = u) (hi : ρ ix = v) (hr : ∀ w, (Instr.indexAt t u v).run P w = .ok r w) : ∀ w, S w → (execOp ρ o).run P w = .ok (.value r) w := fun w _ => by
  simp [execOp, ho, hx, hi, hr w]
end
theorem run_bitop {P : Program} {op : BinOp} (hop : op = .xor ∨ op = .or ∨ op = .and) (t : TypeId) (k : IntKind) {a b r : Int} (hr : bits op k a b = r) (w : World) : (binOp op t (.int k a) (.int k b)).run P w = .ok (.int k r) w := by
  subst hr; rcases hop with rfl | rfl | rfl <;> simp [binOp, Op.intBits, bits]
theorem run_shr {P : Program} (t : TypeId) (k k' : IntKind) {a r : Int} (n : Nat) (hn : n ≤ k.bits) (hr : a / 2 ^ n = r) (w : World) : (binOp .shr t (.int k a) (.int k' (n : Int))).run P w = .ok (.int k r) w := by
  subst hr
  rw [binOp_shr, shift_shr k k' a (n : Int) (by omega) (by omega), Int.toNat_natCast]
  rfl
end Go.Proofs.YtipmfficjomcoaaDoor.Held
namespace Go.Proofs.YtipmfficjomcoaaDoor.Held
open Go.RowKit Mem
theorem wpList_store_box {P : Program} {ops : Array Oper} {rest : List Oper} {o : Oper} {a : Act} {w : World} {Q : Exit → Act → World → Prop} (hw : Region.wanted o (yielded ops a.tmps) = true) (ty : TypeId) (x y : Operand) (ho : o.op = .store ty x y) (g : Nat) (hx : a.eval x = .pointer (some ⟨g, 0, none⟩)) (t : TypeId) (old v : Value) (hy : a.eval y = v)
    (hb : w.heap[g]? = some (.cells #[old] t (0, 0))) (hsz : (P.info? ty).map (·.size) = some 1) (h1 : v.cells = #[v]) (ho1 : v.oneCell' = true)
    (h : ∀ w', w'.heap[g]? = some (.cells #[v] t (0, 0)) → w.grownBy w' (some g) → wpList P ops Q rest (a.put o.dst undef) w') : wpList P ops Q (o :: rest) a w :=
  wpList_step fun _ hK => by
    rw [if_pos hw]
    unfold Oper.wp execOp
    simp only [ho, hx, hy, Instr.storeAt, Instr.sureAddr, Sem.run_bind, Sem.run_pure, Result.andThen_ok, run_store_box ty g t old v hb hsz h1 ho1]
    exact hK _ _ (h _ (one_setCell hb) (grown_setCell _ _ _ _))
theorem row_form {w : World} {base : Nat} {e : TypeId} {s n : Nat} {v : Value} {xs : List Value} (h : w.ownsRow base e s v n xs) : ∃ A c, v = .slice A n c ∧ n ≤ c ∧ c ≤ maxLen := by
  rcases h.2 with ⟨rfl, hn⟩ | ⟨g, cap, cur, rfl, _, _, h1, h2, _⟩
  · exact ⟨none, 0, by rw [hn], by omega, by simp [maxLen]⟩
  · exact ⟨_, cap, rfl, h1, h2⟩
theorem wpList_alloc_cell {P : Program} {ops : Array Oper} {rest : List Oper} {o : Oper} {a : Act} {w : World} {Q : Exit → Act → World → Prop} (hw : Region.wanted o (yielded ops a.tmps) = true) (ty : TypeId) (ho : o.op = .alloc ty) (z : Value) (hz : (P.info? ty).bind (·.zero) = some z) (h1 : z.cells = #[z])
    (h : ∀ w', w'.heap[w.heap.size]? = some (.cells #[z] ty (0, 0)) → w.grownBy w' none → Hid (w'.heap.size = w.heap.size + 1) → wpList P ops Q rest (a.put o.dst (.pointer (some ⟨w.heap.size, 0, none⟩))) w') : wpList P ops Q (o :: rest) a w :=
  wpList_step fun _ hK => by
    rw [if_pos hw]
    unfold Oper.wp execOp
    simp only [ho, run_alloc_one ty z hz h1, Sem.run_bind, Sem.run_pure, Result.andThen_ok]
    exact hK _ _ (h _ (heap_alloc_new w _) (World.grownBy_alloc w _ none) (Lib.hid (by simp)))
theorem range_below {B : Nat} {w w' : World} {b o : Nat} {cs : List Value} (h : w.rangeAt b o cs) (hb : Below B w w') (hB : b < B) : w'.rangeAt b o cs := fun j v hv => (hb.cell (p := ⟨b, o + j, none⟩) hB).trans (h j v hv)
end Go.Proofs.YtipmfficjomcoaaDoor.Held
namespace Go.Proofs.YtipmfficjomcoaaDoor.Sha
open Go.RowKit Mem
def Tab (w : World) (g : Nat) (zs : List Int) : Prop := ∃ t fr, w.heap[g]? = some (.cells (arr .u32 zs) t fr)
section
variable {w w' : World} {g : Nat} {zs : List Int}
theorem Tab.lt (h : Tab w g zs) : g < w.heap.size := by obtain ⟨t, fr, h⟩ := h; exact (Array.getElem?_eq_some_iff.1 h).1
theorem Tab.below {B : Nat} (h : Tab w g zs) (hb : Below B w w') (hg : g < B) : Tab w' g zs := by obtain ⟨t, fr, h⟩ := h; exact ⟨t, fr, (hb.block g hg).trans h⟩
theorem Tab.cell (h : Tab w g zs) {i : Nat} (hi : i < zs.length) : w.cell? ⟨g, i, none⟩ = some (.int .u32 (zs.getD i 0)) := by
  obtain ⟨t, fr, h⟩ := h
  rw [cell_of_row w g i _ t fr h, arr_get _ _ hi]
end
end Go.Proofs.YtipmfficjomcoaaDoor.Sha
namespace Go.Proofs.YtipmfficjomcoaaDoor.Sha
open Go.RowKit Mem
theorem Tab.only {S : Nat → Prop} {w w' : World} {g : Nat} {zs : List Int} (h : Tab w g zs) (ho : Only S w w') (hg : ¬ S g) : Tab w' g zs := by
  obtain ⟨t, fr, h⟩ := h
  exact ⟨t, fr, ho.block g _ hg h rfl⟩
end Go.Proofs.YtipmfficjomcoaaDoor.Sha
namespace Go.Proofs.YtipmfficjomcoaaDoor.Sum
open Go.RowKit
def R32 (x : Int) : Prop := 0 ≤ x ∧ x < 4294967296
def addI (x y : Int) : Int := (x + y) % 4294967296
def rotI (x : Int) (n : Nat) : Int := bits .or .u32 (x / 2 ^ n) (x * 2 ^ (32 - n) % 4294967296)
def xorI (x y : Int) : Int := bits .xor .u32 x y
def andI (x y : Int) : Int := bits .and .u32 x y
def bigI (x : Int) (p q r : Nat) : Int := xorI (xorI (rotI x p) (rotI x q)) (rotI x r)
def smallI (x : Int) (p q r : Nat) : Int := xorI (xorI (rotI x p) (rotI x q)) (x / 2 ^ r)
def chI (e f g : Int) : Int := xorI g (andI e (xorI f g))
def majI (a b c : Int) : Int := xorI (xorI (andI a b) (andI a c)) (andI b c)
theorem r32_add (x y : Int) : R32 (addI x y) := by unfold R32 addI; omega
def K : List Int := [0x428a2f98, 0x71374491, 0xb5c0fbcf, 0xe9b5dba5, 0x3956c25b, 0x59f111f1, 0x923f82a4, 0xab1c5ed5,
  0xd807aa98, 0x12835b01, 0x243185be, 0x550c7dc3, 0x72be5d74, 0x80deb1fe, 0x9bdc06a7, 0xc19bf174,
  0xe49b69c1, 0xefbe4786, 0x0fc19dc6, 0x240ca1cc, 0x2de92c6f, 0x4a7484aa, 0x5cb0a9dc, 0x76f988da,
  0x983e5152, 0xa831c66d, 0xb00327c8, 0xbf597fc7, 0xc6e00bf3, 0xd5a79147, 0x06ca6351, 0x14292967,
  0x27b70a85, 0x2e1b2138, 0x4d2c6dfc, 0x53380d13, 0x650a7354, 0x766a0abb, 0x81c2c92e, 0x92722c85,
  0xa2bfe8a1, 0xa81a664b, 0xc24b8b70, 0xc76c51a3, 0xd192e819, 0xd6990624, 0xf40e3585, 0x106aa070,
  0x19a4c116, 0x1e376c08, 0x2748774c, 0x34b0bcb5, 0x391c0cb3, 0x4ed8aa4a, 0x5b9cca4f, 0x682e6ff3,
  0x748f82ee, 0x78a5636f, 0x84c87814, 0x8cc70208, 0x90befffa, 0xa4506ceb, 0xbef9a3f7, 0xc67178f2]
def nextW (ws : List Int) : Int := addI (addI (addI (smallI (ws.getD (ws.length - 2) 0) 17 19 10) (ws.getD (ws.length - 7) 0)) (smallI (ws.getD (ws.length - 15) 0) 7 18 3)) (ws.getD (ws.length - 16) 0)
def sched : Nat → List Int → List Int
  | 0, ws => ws
  | n + 1, ws => sched n (ws ++ [nextW ws])
def round (k w : Int) : List Int → List Int
  | [a, b, c, d, e, f, g, h] => [addI (addI (addI (addI (addI h (bigI e 6 11 25)) (chI e f g)) k) w) (addI (bigI a 2 13 22) (majI a b c)), a, b, c, addI d (addI (addI (addI (addI h (bigI e 6 11 25)) (chI e f g)) k) w), e, f, g]
  | v => v
def rounds (W : List Int) : Nat → List Int → List Int
  | 0, v => v
  | t + 1, v => round (K.getD t 0) (W.getD t 0) (rounds W t v)
def word (bs : List Int) (t : Nat) : Int := ((bs.getD (4 * t) 0 * 256 + bs.getD (4 * t + 1) 0) * 256 + bs.getD (4 * t + 2) 0) * 256 + bs.getD (4 * t + 3) 0
def words (bs : List Int) : List Int := (List.range 16).map (word bs)
def W (bs : List Int) : List Int := sched 48 (words bs)
def sumUp (h v : List Int) : List Int := (List.range 8).map fun i => addI (h.getD i 0) (v.getD i 0)
def block (h bs : List Int) : List Int := sumUp h (rounds (W bs) 64 h)
def Bs (bs : List Int) : Prop := ∀ z ∈ bs, 0 ≤ z ∧ z ≤ 255
theorem Bs.at_ {bs : List Int} (h : Bs bs) (i : Nat) : 0 ≤ bs.getD i 0 ∧ bs.getD i 0 ≤ 255 := by
  rw [List.getD_eq_getElem?_getD]
  by_cases hi : i < bs.length
  · rw [List.getElem?_eq_getElem hi]; exact h _ (List.getElem_mem hi)
  · rw [List.getElem?_eq_none (by omega)]; simp
def Eight (v : List Int) : Prop := v.length = 8 ∧ ∀ z ∈ v, R32 z
theorem Eight.out {v : List Int} (h : Eight v) : ∃ a b c d e f g k, v = [a, b, c, d, e, f, g, k] ∧ R32 a ∧ R32 b ∧ R32 c ∧ R32 d ∧ R32 e ∧ R32 f ∧ R32 g ∧ R32 k := by
  obtain ⟨hl, hr⟩ := h
  match v, hl, hr with
  | [a, b, c, d, e, f, g, k], _, hr => exact ⟨a, b, c, d, e, f, g, k, rfl, hr _ (by simp), hr _ (by simp), hr _ (by simp), hr _ (by simp), hr _ (by simp), hr _ (by simp), hr _ (by simp), hr _ (by simp)⟩
theorem Eight.round {v : List Int} (h : Eight v) (k w : Int) : Eight (round k w v) := by
  obtain ⟨a, b, c, d, e, f, g, i, rfl, ha, hb, hc, hd, he, hf, hg, hi⟩ := h.out
  refine ⟨rfl, fun z hz => ?_⟩
  simp only [Sum.round, List.mem_cons, List.mem_nil_iff, or_false] at hz
  rcases hz with rfl | rfl | rfl | rfl | rfl | rfl | rfl | rfl
  · exact r32_add _ _
  · exact ha
  · exact hb
  · exact hc
  · exact r32_add _ _
  · exact he
  · exact hf
  · exact hg
theorem Eight.rounds {v : List Int} (h : Eight v) (W : List Int) : ∀ t, Eight (rounds W t v)
  | 0 => h
  | t + 1 => (Eight.rounds h W t).round _ _
theorem Eight.sumUp (h v : List Int) : Eight (sumUp h v) := ⟨by simp [Sum.sumUp], fun z hz => by
  simp only [Sum.sumUp, List.mem_map] at hz
  obtain ⟨i, _, rfl⟩ := hz
  exact r32_add _ _⟩
end Go.Proofs.YtipmfficjomcoaaDoor.Sum
namespace Go.Proofs.YtipmfficjomcoaaDoor.Po
open Go.Proofs.YtipmfficjomcoaaDoor.Sum
def val : List Int → Int
  | [] => 0
  | x :: xs => x + 256 * val xs
def carried (c : Int) : List Int → List Int
  | [] => []
  | x :: xs => (c + x) % 256 :: carried ((c + x) / 256) xs
def modulus : Int := 2 ^ 130 - 5
def step (r a : Int) (piece : List Int) : Int := (a + val (piece ++ [1])) * r % modulus
end Go.Proofs.YtipmfficjomcoaaDoor.Po
namespace Go.Proofs.YtipmfficjomcoaaDoor.Po
open Go.Proofs.YtipmfficjomcoaaDoor.Sum
def lv : List Int → Int
  | [] => 0
  | x :: xs => x + 67108864 * lv xs
def limbs (n : Int) : List Int := [n % 67108864, n / 67108864 % 67108864, n / 4503599627370496 % 67108864, n / 302231454903657293676544 % 67108864, n / 20282409603651670423947251286016 % 67108864]
def carL (c : Int) : List Int → List Int
  | [] => []
  | x :: xs => (x + c) % 67108864 :: carL ((x + c) / 67108864) xs
def over (c : Int) (xs : List Int) : Nat → Int
  | 0 => c
  | k + 1 => (xs.getD k 0 + over c xs k) / 67108864
def settle (n : List Int) : List Int :=
  let m := carL 0 n
  let t := m.getD 0 0 + 5 * over 0 n 5
  ((m.set 0 t).set 1 (m.getD 1 0 + t / 67108864)).set 0 (t % 67108864)
def Settled (a : List Int) : Prop := ∃ a0 a1 a2 a3 a4, a = [a0, a1, a2, a3, a4] ∧ (0 ≤ a0 ∧ a0 < 67108864) ∧ (0 ≤ a1 ∧ a1 < 67121152) ∧ (0 ≤ a2 ∧ a2 < 67108864) ∧ (0 ≤ a3 ∧ a3 < 67108864) ∧ (0 ≤ a4 ∧ a4 < 67108864)
theorem Settled.length {a : List Int} (h : Settled a) : a.length = 5 := by
  obtain ⟨_, _, _, _, _, rfl, _⟩ := h
  rfl
end Go.Proofs.YtipmfficjomcoaaDoor.Po
namespace Go.Proofs.YtipmfficjomcoaaDoor.Po
open Go.Proofs.YtipmfficjomcoaaDoor.Sum
def Low (n : List Int) (i b h : Nat) (rest : Int) : Prop := 26 * i = 8 * b + h ∧ lv n / 256 ^ b = rest + 2 ^ h * lv (n.drop i) ∧ 0 ≤ rest ∧ rest < 2 ^ (h + 3)
theorem Low.start (n : List Int) : Low n 0 0 0 0 := ⟨rfl, by simp, by omega, by decide⟩
def cur (m : List Int) (p : Nat) : List Int := (m.drop (16 * (p / 16))).take (p % 16) ++ List.replicate (17 - p % 16) 0
end Go.Proofs.YtipmfficjomcoaaDoor.Po
namespace Go.Proofs.YtipmfficjomcoaaDoor.Po
open Go.RowKit Mem Go.Proofs.YtipmfficjomcoaaDoor.Sum
def TabK (w : World) (g : Nat) (k : IntKind) (zs : List Int) : Prop := ∃ t fr, w.heap[g]? = some (.cells (arr k zs) t fr)
section
variable {w w' : World} {g : Nat} {k : IntKind} {zs : List Int}
theorem TabK.lt (h : TabK w g k zs) : g < w.heap.size := by obtain ⟨t, fr, h⟩ := h; exact (Array.getElem?_eq_some_iff.1 h).1
theorem TabK.below {B : Nat} (h : TabK w g k zs) (hb : Below B w w') (hg : g < B) : TabK w' g k zs := by obtain ⟨t, fr, h⟩ := h; exact ⟨t, fr, (hb.block g hg).trans h⟩
theorem TabK.cell (h : TabK w g k zs) {i : Nat} (hi : i < zs.length) : w.cell? ⟨g, i, none⟩ = some (.int k (zs.getD i 0)) := by
  obtain ⟨t, fr, h⟩ := h
  rw [cell_of_row w g i _ t fr h, arr_get _ _ hi]
theorem TabK.only {S : Nat → Prop} (h : TabK w g k zs) (ho : Only S w w') (hg : ¬ S g) : TabK w' g k zs := by
  obtain ⟨t, fr, h⟩ := h
  exact ⟨t, fr, ho.block g _ hg h rfl⟩
end
theorem tabK_of_var {P : Program} {w : World} {name : String} {g : Nat} {k : IntKind} {zs : List Int} (hg : P.globalNamed name = some g) (h : Lib.TabIs P w name k zs) : TabK w g k zs := by
  unfold Lib.TabIs World.var? at h
  rw [hg, Option.bind_some] at h
  cases hb : w.heap[g]? with
  | none => rw [hb] at h; cases h
  | some o =>
    rw [hb] at h
    cases o with
    | cells cs t fr => simp only [Option.some.injEq] at h; exact ⟨t, fr, by rw [hb, h]; rfl⟩
    | _ => cases h
section
variable {P : Program} {ops : Array Oper} {rest : List Oper} {o : Oper} {a : Act} {w : World} {Q : Exit → Act → World → Prop}
end
end Go.Proofs.YtipmfficjomcoaaDoor.Po
namespace Go.Proofs.YtipmfficjomcoaaDoor.Mem
open Go.RowKit Go.Shelf Go.Proofs.YtipmfficjomcoaaDoor.Range
section
variable {F : Fence} {n : Nat} {P : Program} {ops : Array Oper} {rest : List Oper} {o : Oper} {a : Act} {w : World} {Q : Exit → Act → World → Prop}
end
end Go.Proofs.YtipmfficjomcoaaDoor.Mem
namespace Go.Proofs.YtipmfficjomcoaaDoor.Held
open Go.RowKit Go.Shelf Mem
def Blk (w : World) (g : Nat) (t : TypeId) (cs : Array Value) : Prop := w.heap[g]? = some (.cells cs t (0, 0))
section
variable {w w' : World} {g : Nat} {t : TypeId} {cs : Array Value}
theorem Blk.lt (h : Blk w g t cs) : g < w.heap.size := (Array.getElem?_eq_some_iff.1 h).1
theorem Blk.below {B : Nat} (h : Blk w g t cs) (hb : Below B w w') (hg : g < B) : Blk w' g t cs := (hb.block g hg).trans h
theorem Blk.after (h : Blk w g t cs) (hb : Below w.heap.size w w') : Blk w' g t cs := (hb.block g h.lt).trans h
theorem Blk.grown {row : Option Nat} (h : Blk w g t cs) (hb : w.grownBy w' row) (hg : some g ≠ row) : Blk w' g t cs := keep_cells h hb hg
theorem Blk.cell (h : Blk w g t cs) {i : Nat} {v : Value} (hv : cs[i]? = some v) : w.cell? ⟨g, i, none⟩ = some v := (cell_of_row w g i cs t (0, 0) h).trans hv
theorem Blk.frozen (h : Blk w g t cs) (i : Nat) : w.frozen? ⟨g, i, none⟩ = false := by
  unfold Blk at h
  simp [World.frozen?, h]
theorem Blk.drew (h : Blk w g t cs) : Blk w.drew g t cs := h
theorem Blk.row {k : IntKind} {zs : List Int} (h : Blk w g t (arr k zs)) (hw : ∀ z ∈ zs, (Lit.int k z).wf = true) : Row w g t k zs := ⟨hw, h⟩
theorem Blk.set (h : Blk w g t cs) (i : Nat) (v : Value) : Blk (w.setCell ⟨g, i, none⟩ v) g t (cs.setIfInBounds i v) := by
  unfold Blk at h ⊢
  simp only [World.setCell, Array.getElem?_modify, h, if_true, Option.map_some, Obj.cells.injEq, Option.some.injEq]
  refine ⟨?_, trivial, trivial⟩
  simp
end
section
variable {P : Program} {S : World → Prop} {ρ : Operand → Value} {o : Oper}
theorem y_field {t : TypeId} {x : Operand} {b off j k m s : Nat} {fs : Array Field} (ho : o.op = .fieldAddr t x j) (hx : ρ x = .pointer (some ⟨b, off, none⟩)) (hu : P.underlying t = some (.struct fs)) (hk : (fs[j]?).map (·.offset) = some k) (hz : (fs[j]?).bind (fun f => (P.info? f.type).map (·.size)) = some (s + 1)) (hm : off + k = m) :
    ∀ w, S w → (execOp ρ o).run P w = .ok (.value (.pointer (some ⟨b, m, none⟩))) w := fun w _ => by
  obtain ⟨f, hf, rfl⟩ := Option.map_eq_some_iff.1 hk
  subst hm
  rw [hf] at hz
  obtain ⟨q, hq, h1⟩ := Option.map_eq_some_iff.1 (show (P.info? f.type).map (·.size) = some (s + 1) from hz)
  have ea : (Addr.mk b off none).add f.offset = ⟨b, off + f.offset, none⟩ := by unfold Addr.add; split <;> simp_all
  have es : (sizeOf f.type).run P w = .ok (s + 1) w := by simp [sizeOf, typeInfo, hq, h1]
  simp [execOp, ho, hx, Instr.fieldAt, Instr.sureAddr, run_underlying hu, hf, fieldPlace, ea, es]
theorem y_load_blk {ty : TypeId} {x : Operand} {b n : Nat} {t : TypeId} {cs : Array Value} {d : TypeDesc} (ho : o.op = .load ty x) (hx : ρ x = .pointer (some ⟨b, 0, none⟩)) (hu : P.underlying ty = some d) (hd : (match d with | .struct _ | .array _ _ => true | _ => false) = true) (hi : (P.info? ty).map (·.size) = some n) (hs : cs.size = n)
    (hc : ∀ w, S w → Blk w b t cs) : ∀ w, S w → (execOp ρ o).run P w = .ok (.value (.agg cs)) w := fun w hw => by
  simp only [execOp, ho, hx, Instr.loadAt, Instr.sureAddr, Sem.run_bind, Sem.run_pure, Result.andThen_ok, run_loadVar_row w b t ty cs (0, 0) d (hc w hw) hu hd (by rw [hi, hs])]
theorem y_build {t : TypeId} {parts : Array (Nat × Operand)} {cs : Array Value} (ho : o.op = .build t parts) (hf : P.built t (parts.map fun (i, x) => (i, ρ x)).toList = some cs) : ∀ w, S w → (execOp ρ o).run P w = .ok (.value (.agg cs)) w := fun w _ => by
  simp [execOp, ho, run_build w t _ cs hf]
theorem y_lss {t ty : TypeId} {x y : Operand} {k : IntKind} {a b : Int} {r : Bool} (ho : o.op = .binOp .lss t x y ty) (hx : ρ x = .int k a) (hy : ρ y = .int k b) (hr : decide (a < b) = r) : ∀ w, S w → (execOp ρ o).run P w = .ok (.value (.bool r)) w :=
  y_bin ho hx hy (fun w => by simp [eqGuard]) (fun w => by subst hr; simp [binOp, Op.intCmp])
theorem y_gtr {t ty : TypeId} {x y : Operand} {k : IntKind} {a b : Int} {r : Bool} (ho : o.op = .binOp .gtr t x y ty) (hx : ρ x = .int k a) (hy : ρ y = .int k b) (hr : decide (b < a) = r) : ∀ w, S w → (execOp ρ o).run P w = .ok (.value (.bool r)) w :=
  y_bin ho hx hy (fun w => by simp [eqGuard]) (fun w => by subst hr; simp [binOp, Op.intCmp])
theorem y_eqI {t ty : TypeId} {x y : Operand} {k : IntKind} {a b : Int} {r : Bool} (ho : o.op = .binOp .eql t x y ty) (hx : ρ x = .int k a) (hy : ρ y = .int k b) (hr : decide (a = b) = r) : ∀ w, S w → (execOp ρ o).run P w = .ok (.value (.bool r)) w :=
  y_bin ho hx hy (fun w => by simp [eqGuard]) (fun w => by subst hr; simp [binOp]; try rfl)
theorem y_neI {t ty : TypeId} {x y : Operand} {k : IntKind} {a b : Int} {r : Bool} (ho : o.op = .binOp .neq t x y ty) (hx : ρ x = .int k a) (hy : ρ y = .int k b) (hr : decide (a ≠ b) = r) : ∀ w, S w → (execOp ρ o).run P w = .ok (.value (.bool r)) w :=
  y_bin ho hx hy (fun w => by simp [eqGuard]) (fun w => by subst hr; simp [binOp]; try rfl)
end
section
variable {P : Program} {ops : Array Oper} {rest : List Oper} {o : Oper} {a : Act} {w : World} {Q : Exit → Act → World → Prop}
theorem wpList_box_blk (hw : Region.wanted o (yielded ops a.tmps) = true) (ty : TypeId) (x : Operand) (ho : o.op = .box ty x) (cs : Array Value) (hx : a.eval x = .agg cs)
    (h : ∀ w', Blk w' w.heap.size ty cs → w.grownBy w' none → Hid (w'.heap.size = w.heap.size + 1) → wpList P ops Q rest (a.put o.dst (.pointer (some ⟨w.heap.size, 0, none⟩))) w') : wpList P ops Q (o :: rest) a w :=
  wpList_step fun _ hK => by
    rw [if_pos hw]
    unfold Oper.wp execOp
    simp only [ho, hx, Sem.run_bind, Instr.box, newVar, newRow, run_newObj_alloc, Sem.run_pure, Result.andThen_ok, Value.cells]
    exact hK _ _ (h _ (heap_alloc_new w _) (World.grownBy_alloc w _ none) (Lib.hid (by simp)))
theorem run_alloc_blk (ty : TypeId) (cs : Array Value) (hz : (P.info? ty).bind (·.zero) = some (.agg cs)) (v : Value) :
    (Instr.alloc ty true v).run P w = .ok (.pointer (some ⟨w.heap.size, 0, none⟩)) (w.alloc (.cells cs ty)) := by
  obtain ⟨inf, hi, h0⟩ := Option.bind_eq_some_iff.1 hz
  simp [Instr.alloc, zeroValue, typeInfo, hi, h0, newVar, newRow, Value.cells, Result.andThen]
theorem wpList_alloc_blk (hw : Region.wanted o (yielded ops a.tmps) = true) (ty : TypeId) (ho : o.op = .alloc ty) (cs : Array Value) (hz : (P.info? ty).bind (·.zero) = some (.agg cs))
    (h : ∀ w', Blk w' w.heap.size ty cs → w.grownBy w' none → Hid (w'.heap.size = w.heap.size + 1) → wpList P ops Q rest (a.put o.dst (.pointer (some ⟨w.heap.size, 0, none⟩))) w') : wpList P ops Q (o :: rest) a w :=
  wpList_step fun _ hK => by
    rw [if_pos hw]
    unfold Oper.wp execOp
    simp only [ho, run_alloc_blk ty cs hz, Sem.run_bind, Sem.run_pure, Result.andThen_ok]
    exact hK _ _ (h _ (heap_alloc_new w _) (World.grownBy_alloc w _ none) (Lib.hid (by simp)))
theorem wpList_store_blk (hw : Region.wanted o (yielded ops a.tmps) = true) (ty : TypeId) (x y : Operand) (ho : o.op = .store ty x y) (g n : Nat) (hx : a.eval x = .pointer (some ⟨g, 0, none⟩)) (t : TypeId) (old cs : Array Value) (hy : a.eval y = .agg cs)
    (hb : Blk w g t old) (hsz : (P.info? ty).map (·.size) = some n) (hn : cs.size = n) (ho' : old.size = n) (h1 : cs.all (·.oneCell') = true)
    (h : ∀ w', Blk w' g t cs → w.grownBy w' (some g) → Hid (w'.heap.size = w.heap.size) → wpList P ops Q rest (a.put o.dst undef) w') : wpList P ops Q (o :: rest) a w :=
  wpList_step fun _ hK => by
    rw [if_pos hw]
    unfold Oper.wp execOp
    simp only [ho, hx, hy, Instr.storeAt, Instr.sureAddr, Sem.run_bind, Sem.run_pure, Result.andThen_ok, run_storeVar_row w g t ty _ cs hb (by rw [hsz, hn]) (by rw [ho', hn]) h1]
    exact hK _ _ (h _ (by unfold Blk at hb ⊢; simp [World.setRow, Array.getElem?_modify, hb]) (grown_setRow _ _ _) (Lib.hid (by simp [World.setRow])))
theorem wpList_load_blk (hw : Region.wanted o (yielded ops a.tmps) = true) (ty : TypeId) (x : Operand) (ho : o.op = .load ty x) (g n : Nat) (hx : a.eval x = .pointer (some ⟨g, 0, none⟩)) (t : TypeId) (cs : Array Value) (hb : Blk w g t cs) (d : TypeDesc) (hu : P.underlying ty = some d) (hd : (match d with | .struct _ | .array _ _ => true | _ => false) = true) (hi : (P.info? ty).map (·.size) = some n) (hn : cs.size = n)
    (h : wpList P ops Q rest (a.put o.dst (.agg cs)) w) : wpList P ops Q (o :: rest) a w :=
  wpList_step fun _ hK => by
    rw [if_pos hw]
    exact wp_load_row ty x ho g hx t cs (0, 0) d hb hu hd (by rw [hi, hn]) (hK _ _ h)
theorem wpList_build_blk (hg : o.guard = none) (t : TypeId) (parts : Array (Nat × Operand)) (ho : o.op = .build t parts) (cs : Array Value) (hf : P.built t (parts.map fun (i, x) => (i, a.eval x)).toList = some cs) (h : wpList P ops Q rest (a.put o.dst (.agg cs)) w) : wpList P ops Q (o :: rest) a w :=
  wpList_build hg t parts ho (by rw [hf]; rfl) (by rw [hf]; exact h)
theorem wpList_run (hw : Region.wanted o (yielded ops a.tmps) = true) {v : Value} (hr : (execOp a.eval o).run P w = .ok (.value v) w) (h : wpList P ops Q rest (a.put o.dst v) w) : wpList P ops Q (o :: rest) a w :=
  wpList_step fun _ hK => by
    rw [if_pos hw]
    unfold Oper.wp
    rw [hr]
    exact hK _ _ h
theorem wpList_store_field (hw : Region.wanted o (yielded ops a.tmps) = true) (ty : TypeId) (x y : Operand) (ho : o.op = .store ty x y) (g i : Nat) (hx : a.eval x = .pointer (some ⟨g, i, none⟩)) (t : TypeId) (cs : Array Value) (v : Value) (hy : a.eval y = v)
    (hb : Blk w g t cs) (hi : i < cs.size) (hsz : (P.info? ty).map (·.size) = some 1) (h1 : v.cells = #[v]) (ho1 : v.oneCell' = true)
    (h : ∀ w', Blk w' g t (cs.setIfInBounds i v) → w.grownBy w' (some g) → Hid (w'.heap.size = w.heap.size) → wpList P ops Q rest (a.put o.dst undef) w') : wpList P ops Q (o :: rest) a w :=
  wpList_step fun _ hK => by
    rw [if_pos hw]
    unfold Oper.wp execOp
    simp only [ho, hx, hy, Instr.storeAt, Instr.sureAddr, Sem.run_bind, Sem.run_pure, Result.andThen_ok, run_store_elem ty g i _ v (hb.cell (Array.getElem?_eq_getElem hi)) (hb.frozen i) hsz h1 ho1]
    exact hK _ _ (h _ (hb.set i v) (grown_setCell _ _ _ _) (Lib.hid (by simp [World.setCell])))
end
theorem results_blk {P : Program} {fn : Func} {p : Tmp} {ty : TypeId} (h : fn.results = #[.cell p ty]) (tmps : Array Value) (w : World) (g n : Nat) (t : TypeId) (cs : Array Value) (hp : tmps.getD p undef = .pointer (some ⟨g, 0, none⟩))
    (hr : Blk w g t cs) (d : TypeDesc) (hu : P.underlying ty = some d) (hd : (match d with | .struct _ | .array _ _ => true | _ => false) = true) (hi : (P.info? ty).map (·.size) = some n) (hn : cs.size = n) : (results fn tmps).run P w = .ok (.agg cs) w :=
  results_cell_row h tmps w g t cs (0, 0) d hp hr hu hd (by rw [hi, hn])
end Go.Proofs.YtipmfficjomcoaaDoor.Held
namespace Go.Proofs.YtipmfficjomcoaaDoor.Held
open Go.RowKit Mem
section
variable {P : Program} {S : World → Prop} {ρ : Operand → Value} {o : Oper}
end
section
variable {P : Program} {S : World → Prop} {ρ : Operand → Value} {o : Oper}
theorem y_pickF {c x y : Operand} {v : Value} (ho : o.op = .pick c x y) (hc : ρ c = .bool false) (hv : ρ y = v) : ∀ w, S w → (execOp ρ o).run P w = .ok (.value v) w := fun w _ => by simp [execOp, ho, hv, hc, asBool]
theorem y_not {x : Operand} {b r : Bool} {t : TypeId} (ho : o.op = .unOp .not t x) (hx : ρ x = .bool b) (hr : (!b) = r) : ∀ w, S w → (execOp ρ o).run P w = .ok (.value (.bool r)) w := fun w _ => by subst hr; simp [execOp, ho, hx, Op.unary]
theorem y_eqb {t ty : TypeId} {x y : Operand} {a b r : Bool} (ho : o.op = .binOp .eql t x y ty) (hx : ρ x = .bool a) (hy : ρ y = .bool b) (hr : (a == b) = r) (ht : P.underlying t = some .bool) :
    ∀ w, S w → (execOp ρ o).run P w = .ok (.value (.bool r)) w := y_bin ho hx hy (fun w => by simp [eqGuard]) (fun w => by subst hr; simp [binOp, run_equal_bool _ t a b ht])
end
section
variable {P : Program} {ops : Array Oper} {Q : Exit → Act → World → Prop} {md : Region.Mode} {S : World → Prop}
theorem skip (i : Nat) (d : Option Tmp) {oi : Oper} {fuel : Nat} {listed : Array Bool} {a : Act} {w : World} (hi : ops[i]? = some oi) (hd : oi.dst = d)
    (hs : Region.noSelect ops = true) (hf : Region.free md ops listed i = true) (hr : (Region.ready md ops listed).contains i = true)
    (hQ : ∀ c a w, Q (.panic c) (a.put d undef) w → Q (.panic c) a w) (hw : Region.wanted oi (yielded ops a.tmps) = false) (hS : S w)
    (h : wpAnyH P md ops Q S fuel (listed.setIfInBounds i true) (a.put d undef) w) : wpAnyH P md ops Q S (fuel + 1) listed a w := by
  subst hd
  exact wpAnyH_take hi hs hf hr hQ (.inr ⟨hw, rfl⟩) hS h
end
theorem wpList_build_row {P : Program} {ops : Array Oper} {rest : List Oper} {o : Oper} {a : Act} {w : World} {Q : Exit → Act → World → Prop} (hgd : o.guard = none) (t e : TypeId) (len : Nat) (parts : Array (Nat × Operand)) (ho : o.op = .buildSlice t len parts) (k : IntKind) (bytes : Nat) (zs : List Int)
    (hu : P.underlying t = some (.slice e)) (hinfo : (P.info? e).map (fun i => (i.zero, i.size, i.bytes)) = some (some (.int k 0), 1, bytes)) (hp : (parts.map fun (i, x) => (i, a.eval x)).toList = ((zs.map (Value.int k)).zipIdx 0).map fun x => (x.2, x.1))
    (hl : zs.length = len) (h0 : 0 < len) (hlen : len ≤ 1000) (hwf : ∀ z ∈ zs, (Lit.int k z).wf = true)
    (h : ∀ w', Row w' w.heap.size e k zs → w.grownBy w' none → Hid (w'.heap.size = w.heap.size + 1) → wpList P ops Q rest (a.put o.dst (.slice (some ⟨w.heap.size, 0, none⟩) len len)) w') : wpList P ops Q (o :: rest) a w := by
  refine wpList_plain hgd fun K hK => ?_
  obtain ⟨ie, hie, hz, hsz, _⟩ := info_parts hinfo
  have hl' : (zs.map (Value.int k)).length = len := by simpa using hl
  have h' := hK _ _ (h _ (Row.new w e hwf) (World.grownBy_alloc w _ none) (Lib.hid (by simp)))
  unfold arr at h'
  have h1 : ∀ v ∈ zs.map (Value.int k), v.cells = #[v] := by intro v hv; obtain ⟨z, _, rfl⟩ := List.mem_map.1 hv; rfl
  generalize zs.map (Value.int k) = vs at hp hl' h' h1
  subst hl'
  refine Go.wp_buildSlice t e vs.length parts ho vs.toArray ie (.int k 0) hu hie hz (by rw [hsz]; omega) (by rw [hsz]; omega) ?_ h'
  rw [hp]
  simp only [hsz]
  exact Go.Great.fill_flat vs _ h1 (by simp)
end Go.Proofs.YtipmfficjomcoaaDoor.Held
namespace Go.Proofs.YtipmfficjomcoaaDoor.Help
open Go.RowKit Mem
def Still (w w' : World) : Prop := ∃ m, w' = w.drewN m
section
variable {w w' w'' : World}
theorem Still.refl (w : World) : Still w w := ⟨0, rfl⟩
theorem Still.drewN (h : Still w w') (n : Nat) : Still w (w'.drewN n) := by obtain ⟨m, rfl⟩ := h; exact ⟨m + n, by simp⟩
theorem Still.trans (h : Still w w') (k : Still w' w'') : Still w w'' := by obtain ⟨m, rfl⟩ := h; obtain ⟨n, rfl⟩ := k; exact ⟨m + n, by simp⟩
theorem Still.below (h : Still w w') (B : Nat) : Below B w w' := by obtain ⟨m, rfl⟩ := h; exact below_drewN (Below.refl _ _) m
theorem Still.size (h : Still w w') : w'.heap.size = w.heap.size := by obtain ⟨m, rfl⟩ := h; rfl
theorem Still.cell (h : Still w w') (p : Addr) : w'.cell? p = w.cell? p := by obtain ⟨m, rfl⟩ := h; rfl
theorem Still.heap (h : Still w w') : w'.heap = w.heap := by obtain ⟨m, rfl⟩ := h; rfl
theorem Still.ints (h : Still w w') {k : IntKind} {B n : Nat} {A : Option Addr} {zs : List Int} (hi : Ints w k B A n zs) : Ints w' k B A n zs := hi.below (h.below B)
theorem Still.own (h : Still w w') {base : Nat} {t : TypeId} {k : IntKind} {v : Value} {zs : List Int} (hi : Mem.Own w base t k v zs) : Mem.Own w' base t k v zs := hi.below (h.below _)
end
end Go.Proofs.YtipmfficjomcoaaDoor.Help
namespace Go.Proofs.YtipmfficjomcoaaDoor.Held
open Go.RowKit Mem
section
variable {P : Program} {ops : Array Oper} {Q : Exit → Act → World → Prop}
end
section
variable {P : Program} {S : World → Prop} {ρ : Operand → Value} {o : Oper}
end
section
variable {P : Program} {ops : Array Oper} {Q : Exit → Act → World → Prop}
end
end Go.Proofs.YtipmfficjomcoaaDoor.Held
