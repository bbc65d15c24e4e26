/-
  What each task of a job reads and writes, who makes a spot, when a task is ready, where all stands in the end, plain: no program here.
  Which of two records stands ahead; the document's own sort, and neighbours that change places in rounds, as plain functions: they are the same.
  More steps of a region: a struct allocated, a list of structs built: no program here.
  One struct stored into a list whose block is known whole: no program here.
  Package merge's leads and settle by their contracts: which of two records stands ahead by either order; two neighbours of a list of the call's own.
  Lists of structs in a block that is filled step by step; append within the room: no program here.
  Appending a list of structs of any length, none among them, onto a list of the call's own; the library's slices.Clone and slices.Grow of records, by their contracts.
  The document's own tasks (package dominoref17's sorts and Tasks), by their contracts.
  A range over a function whose iterator keeps blocks of its own and turns them between two yields, and whose body may leave early; it may itself stand in an iterator, or in a round of another loop: which blocks are the iterator's is carried along as a set.
-/
import Derived.Test.YtipmfficjomcoaaDoorB3
import Derived.Test.YtipmfficjomcoaaDoorB4
import Derived.Test.YtipmfficjomcoaaDoorB2
import Derived.OwnWalk
import Derived.Lib.LazyBuf
import Derived.Test.YtipmfficjomcoaaDoorB6
import Derived.Test.YtipmfficjomcoaaDoorB1
import Derived.RangeFuncWrites
set_option linter.unusedVariables false
namespace Go.Proofs.YtipmfficjomcoaaDoor.Sh
open Go.RowKit Go.Shelf Mem Held Sl
structure TkB (t : Tk) : Prop where
  k1 : 1 ≤ t.kd
  k5 : t.kd ≤ 5
  r0 : 0 ≤ t.rd
  r15 : t.rd ≤ 15
  a0 : 0 ≤ t.a
  a99 : t.a ≤ 100
  b0 : 0 ≤ t.b
  b99 : t.b ≤ 100000
  one : t.kd = 1 ∨ t.kd = 2 ∨ t.kd = 4 → t.rd = 0
  net : t.kd = 3 ∨ t.kd = 5 → 1 ≤ t.rd
theorem TkB.wf {t : Tk} (h : TkB t) : t.wf := by
  obtain ⟨h1, h2, h3, h4, h5, h6, h7, h8, _, _⟩ := h
  refine ⟨?_, ?_, ?_, ?_⟩ <;> simp [Lit.wf, IntKind.min, IntKind.max, IntKind.signed, IntKind.bits] <;> omega
section
variable {K : Int} {I mp M T : Nat}
theorem one_b {kd : Int} (h : kd = 1 ∨ kd = 2 ∨ kd = 4) {a : Nat} (ha : a ≤ 100) : TkB (oneT kd a) := by
  refine ⟨?_, ?_, ?_, ?_, ?_, ?_, ?_, ?_, fun _ => rfl, ?_⟩ <;> simp only [oneT] <;> omega
theorem sorts_b (h : JobP K I mp M T) {kd : Int} (hk : kd = 3 ∨ kd = 5) {t : Tk} (ht : t ∈ sortsT kd M T) : TkB t := by
  unfold sortsT roundT at ht
  obtain ⟨r, hr, ht⟩ := List.mem_flatMap.1 ht
  obtain ⟨a, ha, rfl⟩ := List.mem_map.1 ht
  have hr := List.mem_range.1 hr
  have haM : a < M := by
    unfold Net.firsts at ha
    have := (List.mem_filter.1 ha).1
    simpa using this
  have h15 := h.t15
  have h32 := h.m32
  have hs := Bi.two_16 (show (stT r).2 - 1 ≤ 16 by
    have := (h.round hr).is rfl
    omega)
  have hp := Bi.two_pos ((stT r).2 - 1)
  refine ⟨?_, ?_, ?_, ?_, ?_, ?_, ?_, ?_, ?_, ?_⟩ <;> simp only [pairT] <;> omega
theorem tasks_b (h : JobP K I mp M T) {t : Tk} (ht : t ∈ tasksT I mp M T) : TkB t := by
  have h1 := h.le
  have h2 := h.m32
  have h3 := h.i32
  unfold tasksT at ht
  simp only [List.mem_append] at ht
  rcases ht with (((ht | ht) | ht) | ht) | ht
  · obtain ⟨a, ha, rfl⟩ := List.mem_map.1 ht
    have := List.mem_range.1 ha
    exact one_b (.inl rfl) (by omega)
  · obtain ⟨a, ha, rfl⟩ := List.mem_map.1 ht
    have := List.mem_range.1 ha
    exact one_b (.inr (.inl rfl)) (by omega)
  · exact sorts_b h (.inl rfl) ht
  · obtain ⟨a, ha, rfl⟩ := List.mem_map.1 ht
    have := List.mem_range.1 ha
    exact one_b (.inr (.inr rfl)) (by omega)
  · exact sorts_b h (.inr rfl) ht
theorem tasks_bi (h : JobP K I mp M T) {i : Nat} {t : Tk} (ht : (tasksT I mp M T)[i]? = some t) : TkB t := tasks_b h (List.mem_of_getElem? ht)
end
end Go.Proofs.YtipmfficjomcoaaDoor.Sh
namespace Go.Proofs.YtipmfficjomcoaaDoor.Mg
open Rc Rs
section
variable (seq : Bool)
def lead (a b : R) : Bool := if seq then bef a.d a.k a.s b.d b.k b.s else ahd a.d a.k b.d b.k
theorem lead_irr (a : R) : lead seq a a = false := by
  unfold lead bef ahd
  cases a.d <;> cases seq <;> simp
theorem lead_neg {a b c : R} (h1 : lead seq a b = false) (h2 : lead seq b c = false) : lead seq a c = false := by
  unfold lead bef ahd at *
  cases seq <;> simp only [Bool.false_eq_true, if_false, if_true, Bool.and_eq_false_iff, Bool.not_eq_false', Bool.or_eq_false_iff, decide_eq_false_iff_not] at *
  · rcases h1 with h1 | ⟨hb, h1⟩
    · exact .inl h1
    · rcases h2 with h2 | ⟨hc, h2⟩
      · rw [hb] at h2; cases h2
      · exact .inr ⟨hc, by omega⟩
  · rcases h1 with h1 | ⟨hb, h1⟩
    · exact .inl h1
    · rcases h2 with h2 | ⟨hc, h2⟩
      · rw [hb] at h2; cases h2
      · exact .inr ⟨hc, by omega⟩
def Srt : List R → Prop
  | [] => True
  | [_] => True
  | a :: b :: l => lead seq b a = false ∧ Srt (b :: l)
theorem Srt.tail {a : R} {l : List R} (h : Srt seq (a :: l)) : Srt seq l := by
  cases l with
  | nil => trivial
  | cons b l => exact h.2
theorem Srt.head {a : R} : ∀ {l : List R}, Srt seq (a :: l) → ∀ x ∈ l, lead seq x a = false
  | [], _, x, hx => by simp at hx
  | b :: l, h, x, hx => by
    rcases List.mem_cons.1 hx with rfl | hx
    · exact h.1
    · exact lead_neg seq (Srt.head (a := b) h.2 x hx) h.1
theorem srt_iff : ∀ (l : List R), Srt seq l ↔ ∀ i, i + 1 < l.length → lead seq (l.getD (i + 1) R0) (l.getD i R0) = false
  | [] => ⟨fun _ i h => absurd h (by simp), fun _ => trivial⟩
  | [a] => ⟨fun _ i h => absurd h (by simp), fun _ => trivial⟩
  | a :: b :: l => by
    have ih := srt_iff (b :: l)
    constructor
    · rintro ⟨h1, h2⟩ i hi
      cases i with
      | zero => exact h1
      | succ i => exact ih.1 h2 i (by simpa using hi)
    · intro h
      exact ⟨h 0 (by simp), ih.2 fun i hi => h (i + 1) (by simpa using hi)⟩
end
section
variable (seq : Bool)
theorem Srt.take {l : List R} (h : Srt seq l) (k : Nat) : Srt seq (l.take k) := by
  rw [srt_iff] at h ⊢
  intro i hi
  have hi' : i + 1 < k ∧ i + 1 < l.length := by rw [List.length_take] at hi; omega
  have := h i hi'.2
  simp only [List.getD_eq_getElem?_getD, List.getElem?_take] at this ⊢
  rw [if_pos hi'.1, if_pos (by omega)]
  exact this
theorem Srt.drop : ∀ (k : Nat) {l : List R}, Srt seq l → Srt seq (l.drop k)
  | 0, _, h => h
  | _ + 1, [], _ => trivial
  | k + 1, _ :: l, h => Srt.drop k (l := l) h.tail
theorem Srt.two {l : List R} (h : Srt seq l) {i j : Nat} (hij : i ≤ j) (hj : j < l.length) : lead seq (l.getD j R0) (l.getD i R0) = false := by
  rw [srt_iff] at h
  obtain ⟨k, rfl⟩ : ∃ k, j = i + k := ⟨j - i, by omega⟩
  clear hij
  induction k with
  | zero => exact lead_irr seq _
  | succ k ih => exact lead_neg seq (h (i + k) (by omega)) (ih (by omega))
end
end Go.Proofs.YtipmfficjomcoaaDoor.Mg
namespace Go.Proofs.YtipmfficjomcoaaDoor.Sl
open Go.RowKit Go.Shelf Mem Held
section
variable {α : Type} {k : St α} {P : Program} {ops : Array Oper} {o : Oper} {a : Act} {w : World} {Q : Exit → Act → World → Prop}
theorem op_build_lst (i : Nat) (d : Option Tmp) {K : Act → World → Prop} (ts e : TypeId) (n : Nat) {parts : Array (Nat × Operand)} (z : Value) (bytes : Nat) (xs : List α) (hi : ops[i]? = some o) (hd : o.dst = d) (hw : Region.wanted o (yielded ops a.tmps) = true)
    (ho : o.op = .buildSlice ts n parts) (hu : P.underlying ts = some (.slice e)) (hinfo : (P.info? e).map (fun i => (i.zero, i.size, i.bytes)) = some (some z, k.s, bytes)) (hz : z.cells.size = k.s)
    (hn : xs.length = n) (hp : (parts.map fun (i, x) => (i, a.eval x)).toList = ((xs.map fun x => Value.agg (k.cells x).toArray).zipIdx 0).map fun x => (x.2, x.1)) (h0 : 0 < n) (h24 : n * k.s ≤ 16777216)
    (h : ∀ g w', Blk w' g e (flat k xs).toArray → Below w.heap.size w w' → Hid (w.heap.size ≤ g) → K (a.put d (.slice (some ⟨g, 0, none⟩) n n)) w') : wpOp P ops Q i K a w := by
  subst hd
  refine op_wp i hi hw ?_
  obtain ⟨ie, hie, hz0, hs, hb⟩ := info_parts hinfo
  refine Go.wp_buildSlice ts e n parts ho (flat k xs).toArray ie z hu hie hz0 (by rw [hs]; omega) (by rw [hs]; have := Nat.mul_pos h0 k.pos; omega) ?_ (h _ _ (heap_alloc_new w _) ((Below.refl _ w).alloc (Nat.le_refl _) _) (Lib.hid (Nat.le_refl _)))
  rw [hp, hs]
  refine (Great.fill_whole k.pos (xs.map fun x => Value.agg (k.cells x).toArray) _ (fun v hv => ?_) (by simp [hn])).trans ?_
  · obtain ⟨x, _, rfl⟩ := List.mem_map.1 hv
    simp [Value.cells, k.len]
  · rw [List.flatMap_map]
    simp [flat, Value.cells]
end
end Go.Proofs.YtipmfficjomcoaaDoor.Sl
namespace Go.Proofs.YtipmfficjomcoaaDoor.Sl
open Go.RowKit Go.Shelf Mem Held
section
variable {α : Type} {k : St α} {P : Program} {ops : Array Oper} {o : Oper} {a : Act} {w : World} {Q : Exit → Act → World → Prop}
end
end Go.Proofs.YtipmfficjomcoaaDoor.Sl
namespace Go.Proofs.YtipmfficjomcoaaDoor.Mg
open Go.RowKit Go.Shelf Go.Proofs.YtipmfficjomcoaaDoor Mem Held Ct Rc Rs Sl
attribute [local irreducible] wpList wpListIn Calls
end Go.Proofs.YtipmfficjomcoaaDoor.Mg
namespace Go.Proofs.YtipmfficjomcoaaDoor.Sl
open Go.RowKit Go.Shelf Mem Held
section
variable {α : Type} {k : St α}
end
section
variable {α : Type} {k : St α} {P : Program} {ops : Array Oper} {rest : List Oper} {o : Oper} {a : Act} {w : World} {Q : Exit → Act → World → Prop}
end
end Go.Proofs.YtipmfficjomcoaaDoor.Sl
namespace Go.Proofs.YtipmfficjomcoaaDoor.Mg
open Go.RowKit Go.Shelf Go.Proofs.YtipmfficjomcoaaDoor Mem Held Ct Rc Rs Sl
attribute [local irreducible] wpList wpListIn Calls
section
variable {P : Program} {S : World → Prop} {ρ : Operand → Value} {o : Oper}
theorem run_append_zero (ts e : TypeId) (hu : P.underlying ts = some (.slice e)) (ie : TypeInfo) (hie : P.info? e = some ie) {ty : TypeId} (w : World) (As A : Option Addr) (n cap c : Nat) (hn : n ≤ cap) :
    (Builtin.append_ #[ts, ts] ty #[.slice As n cap, .slice A 0 c]).run P w = .ok (.slice As n cap) w := by
  cases A with
  | none => cases As <;> simp [Builtin.append_, run_underlying hu, sizeOf, typeInfo, hie, Builtin.lenOf, Builtin.firstCells, hn, storeCells]
  | some ad => cases As <;> simp [Builtin.append_, run_underlying hu, sizeOf, typeInfo, hie, Builtin.lenOf, Builtin.firstCells, hn, storeCells, loadCells, loadCellsFrom]
end
section
variable {α : Type} {k : St α} {P : Program} {ops : Array Oper} {rest : List Oper} {o : Oper} {a : Act} {w : World} {Q : Exit → Act → World → Prop}
end
end Go.Proofs.YtipmfficjomcoaaDoor.Mg
namespace Go.Proofs.YtipmfficjomcoaaDoor.Sh
open Go.RowKit Go.Shelf Mem Held Go.Proofs.YtipmfficjomcoaaDoor.Range Sl
attribute [local go_sem] Oper.semAt_some
attribute [local irreducible] wpList wpListIn Calls
section
variable {P : Program} {ops : Array Oper} {Q : Exit → Act → World → Prop} {md : Region.Mode} {T : World → Prop} {s : Nat}
end
section
variable {α : Type} {k : St α} {P : Program} {ops : Array Oper} {o : Oper} {a : Act} {w : World} {Q : Exit → Act → World → Prop}
theorem run_append_lst0 (w : World) (ts ty e : TypeId) (hu : P.underlying ts = some (.slice e)) (z : Value) (bytes : Nat) (hinfo : (P.info? e).map (fun i => (i.zero, i.size, i.bytes)) = some (some z, k.s, bytes)) (hz : z.cells.size = k.s)
    (base B m c : Nat) (A : Option Addr) (v : Value) (xs ys : List α) (hown : OwnL k e w base v xs) (hq : Lst k w B A m ys) (hm : xs.length + m ≤ 1048576) (hby : bytes ≤ 1048576) (hbase : base ≤ w.heap.size) :
    ∃ v' w', (Builtin.append_ #[ts, ts] ty #[v, .slice A m c]).run P w = .ok v' w' ∧ OwnL k e w' base v' (xs ++ ys) ∧ w.grownBy w' v.ownBlock ∧ (v'.ownBlock = v.ownBlock ∨ v'.ownBlock = some w.heap.size) := by
  obtain ⟨ie, hie, hz0, hsz, hb⟩ := info_parts hinfo
  rcases Nat.eq_zero_or_pos m with h0 | h0
  · subst h0
    have e0 : ys = [] := List.eq_nil_of_length_eq_zero hq.1
    subst e0
    obtain ⟨A', c', rfl, hle, _⟩ := OwnL.form hown
    exact ⟨_, w, Mg.run_append_zero ts e hu ie hie w A' A _ c' c hle, by rw [List.append_nil]; exact hown, World.grownBy.refl w _, .inl rfl⟩
  · obtain ⟨g, off, rfl, _, hc⟩ := hq.2.2 h0
    obtain ⟨v', w', h1, h2, h3, _, h5⟩ := run_append_own_at (P := P) w base ts ty e ie z k.s bytes hu hie hz0 hsz hb hz k.pos v xs.length (flat k xs) hown ⟨g, off, none⟩ m c (flat k ys) (by rw [Sl.flat_length, hq.1])
      (fun j u hj => by rw [show (Addr.mk g off none).add j = ⟨g, off + j, none⟩ by (unfold Addr.add; split <;> simp_all)]; exact hc j u hj) (flat_cell ys) (by unfold maxLen; omega) (Nat.le_trans (Nat.mul_le_mul hm hby) (by omega)) hbase
    refine ⟨v', w', h1, ?_, h3, h5⟩
    unfold OwnL
    rw [Sl.flat_append, List.length_append, hq.1]
    exact h2
theorem op_append_lst0 (i : Nat) (d : Option Tmp) {K : Act → World → Prop} {s x : Operand} (ts e : TypeId) (hi : ops[i]? = some o) (hd : o.dst = d) (hw : Region.wanted o (yielded ops a.tmps) = true)
    (ho : o.op = .call { callee := .builtin .append, args := #[s, x], argTypes := #[ts, ts] }) (hu : P.underlying ts = some (.slice e)) (z : Value) (bytes : Nat) (hinfo : (P.info? e).map (fun i => (i.zero, i.size, i.bytes)) = some (some z, k.s, bytes)) (hz : z.cells.size = k.s)
    (base B m c : Nat) (A : Option Addr) (v : Value) (xs ys : List α) (hs : a.eval s = v) (hx : a.eval x = .slice A m c) (hown : OwnL k e w base v xs) (hq : Lst k w B A m ys) (hm : xs.length + m ≤ 1048576) (hby : bytes ≤ 1048576) (hbase : base ≤ w.heap.size)
    (h : ∀ v' w', OwnL k e w' base v' (xs ++ ys) → w.grownBy w' v.ownBlock → (v'.ownBlock = v.ownBlock ∨ v'.ownBlock = some w.heap.size) → K (a.put d v') w') : wpOp P ops Q i K a w := by
  subst hd
  obtain ⟨v', w', h1, h2, h3, h4⟩ := run_append_lst0 (P := P) w ts o.type e hu z bytes hinfo hz base B m c A v xs ys hown hq hm hby hbase
  refine Held.op_wp i hi hw ?_
  exact Lib.wp_append_run w s x ts ts ho _ _ hs hx _ w' h1 (h v' w' h2 h3 h4)
end
theorem info_task : (Tryd.prog.info? 34).map (fun i => (i.zero, i.size, i.bytes)) = some (some (.agg #[.int .i64 0, .int .i64 0, .int .i64 0, .int .i64 0, .bool false]), kT.s, 40) := by kernel_rfl
theorem own_nt {w : World} {B B' : Nat} {v v' : Value} {xs : List Tk} {zs : List Int} (h : OwnL kT 34 w B v xs) (k : Mem.Own w B' 3 .i64 v' zs) : v'.ownBlock = none ∨ v'.ownBlock ≠ v.ownBlock := by
  cases hq : v'.ownBlock with
  | none => exact .inl rfl
  | some b =>
    refine .inr fun e => ?_
    obtain ⟨cs, fz, h2⟩ := Bi.own_obj k hq
    rcases h.2 with ⟨rfl, _⟩ | ⟨g, cap, cur, rfl, hb, hg, _⟩
    · cases e
    · have e : some b = some g := e
      injection e with e
      subst e
      rw [h2] at hg
      injection hg with hg
      injection hg with _ hg
      exact absurd hg (by decide)
end Go.Proofs.YtipmfficjomcoaaDoor.Sh
namespace Go.Proofs.YtipmfficjomcoaaDoor.Range
open Go.RowKit
structure KeepsP (S : Nat → Prop) (W W' : World) : Prop where
  os : W'.os = W.os
  tape : W'.tape = W.tape
  output : W'.output = W.output
  size : W.heap.size ≤ W'.heap.size
  block : ∀ r o, S r → W.heap[r]? = some o → W'.heap[r]? = some o
section
variable {S S' : Nat → Prop} {W W' W'' : World}
theorem KeepsP.refl (S : Nat → Prop) (W : World) : KeepsP S W W := ⟨rfl, rfl, rfl, Nat.le_refl _, fun _ _ _ h => h⟩
theorem KeepsP.trans (h : KeepsP S W W') (k : KeepsP S W' W'') : KeepsP S W W'' := ⟨k.os.trans h.os, k.tape.trans h.tape, k.output.trans h.output, Nat.le_trans h.size k.size, fun r o hr ho => k.block r o hr (h.block r o hr ho)⟩
theorem KeepsP.less (h : KeepsP S W W') (hs : ∀ r, S' r → S r) : KeepsP S' W W' := ⟨h.os, h.tape, h.output, h.size, fun r o hr ho => h.block r o (hs r hr) ho⟩
theorem KeepsP.of_grown {row : Option Nat} (h : W.grownBy W' row) (hr : ∀ r, row = some r → ¬ S r) : KeepsP S W W' :=
  ⟨h.os, h.tape, h.output, h.size, fun r o hs ho => (h.block r (Array.getElem?_eq_some_iff.1 ho).1 (fun e => hr r e.symm hs)).trans ho⟩
theorem KeepsP.of_below (h : Below W.heap.size W W') : KeepsP S W W' := KeepsP.of_grown (Mem.grown_of_below h none) (fun r e => by cases e)
theorem KeepsP.below {B : Nat} (h : KeepsP S W W') (hB : B ≤ W.heap.size) (hs : ∀ r, r < B → S r) : Below B W W' :=
  ⟨h.os, h.tape, h.output, h.size, fun k hk => by
    have e := Array.getElem?_eq_getElem (xs := W.heap) (show k < W.heap.size by omega)
    rw [e]
    exact h.block k _ (hs k hk) e⟩
end
structure Stay {β : Type} (J : (Nat → Prop) → β → World → Prop) : Prop where
  new : ∀ pv pv' s W W', J pv s W → W.grownBy W' none → (∀ r, pv r → pv' r) → (∀ r, pv' r → pv r ∨ (W.heap.size ≤ r ∧ r < W'.heap.size)) → J pv' s W'
  put : ∀ pv s W W' r, J pv s W → pv r → W.grownBy W' (some r) → J pv s W'
section
variable {β : Type} {J K : (Nat → Prop) → β → World → Prop} {pv : Nat → Prop} {s : β} {W W' : World}
theorem Stay.same (h : Stay J) (hs : J pv s W) (hg : W.grownBy W' none) : J pv s W' := h.new pv pv s W W' hs hg (fun _ h => h) (fun _ h => .inl h)
theorem Stay.one (h : Stay J) (hs : J pv s W) (hg : W.grownBy W' none) (b : Nat) (h1 : W.heap.size ≤ b) (h2 : b < W'.heap.size) : J (fun r => pv r ∨ r = b) s W' :=
  h.new pv _ s W W' hs hg (fun _ h => .inl h) (fun r hr => hr.elim .inl (fun e => .inr (by subst e; exact ⟨h1, h2⟩)))
theorem Stay.below (h : Stay J) (hs : J pv s W) (hb : Below W.heap.size W W') : J pv s W' := h.same hs (Mem.grown_of_below hb none)
theorem Stay.all (h : Stay J) (hs : J pv s W) (hb : Below W.heap.size W W') : J (fun r => pv r ∨ (W.heap.size ≤ r ∧ r < W'.heap.size)) s W' :=
  h.new pv _ s W W' hs (Mem.grown_of_below hb none) (fun _ h => .inl h) (fun _ h => h)
end
def SeqP {α : Type} (F : Fence) (n : Nat) (P : Program) (g : Nat) (lb : Array Value) (Nd : Nat → Prop) (encs : α → Array Value) (at_ : Nat → Option α) (w : World) : Prop :=
  ∀ (l : Nat) (J Jx : (Nat → Prop) → Nat → World → Prop) (W : World), Below w.heap.size w W → Stay J → Stay Jx →
    (∀ pv k x W1, J pv k W1 → at_ k = some x → YieldAt F (n - 1) P l (encs x) W1 fun e W' => KeepsP (fun r => Nd r ∨ pv r) W1 W' ∧
      ((e = .returned (.bool true) ∧ J pv (k + 1) W') ∨ (e = .returned (.bool false) ∧ Jx pv (k + 1) W'))) →
    J (fun _ => False) 0 W → CallsIn F n P g (#[.func (.yield l) #[] #[]] ++ lb) W fun e W' => (∃ v, e = .returned v) ∧ ((∃ pv k, at_ k = none ∧ J pv k W') ∨ ∃ pv k, Jx pv k W')
def Inn (J : (Nat → Prop) → Nat → World → Prop) (own nd : Nat → Prop) (F : Nat → World → Prop) (ix : Nat → Nat) (pv : Nat → Prop) (k : Nat) (W : World) : Prop :=
  ∃ pvo : Nat → Prop, (∀ r, pv r → pvo r) ∧ J pvo (ix k) W ∧ (∀ b, own b → pvo b) ∧ (∀ b, own b ∨ nd b → ¬ pv b ∧ b < W.heap.size) ∧ (∀ r, pv r → r < W.heap.size) ∧ F k W
def Out (Jx : (Nat → Prop) → Nat → World → Prop) (pv : Nat → Prop) (k : Nat) (W : World) : Prop := ∃ (pvo : Nat → Prop) (q : Nat), (∀ r, pv r → pvo r) ∧ Jx pvo q W
section
variable {J : (Nat → Prop) → Nat → World → Prop} {own nd : Nat → Prop} {F : Nat → World → Prop} {ix : Nat → Nat} {pv : Nat → Prop} {k : Nat} {W W' : World}
theorem stay_inn (hJ : Stay J) (hF : ∀ k W W', F k W → KeepsP (fun r => own r ∨ nd r) W W' → F k W') : Stay (Inn J own nd F ix) where
  new pv pv' s W W' h hg h1 h2 := by
    obtain ⟨pvo, a1, a2, a3, a4, a5, a6⟩ := h
    have hk : KeepsP (fun r => own r ∨ nd r) W W' := KeepsP.of_grown hg (fun r e => by cases e)
    refine ⟨fun r => pvo r ∨ (W.heap.size ≤ r ∧ r < W'.heap.size), fun r hr => (h2 r hr).elim (fun h => .inl (a1 r h)) .inr, hJ.new pvo _ _ W W' a2 hg (fun r h => .inl h) (fun r h => h), fun b hb => .inl (a3 b hb), fun b hb => ⟨fun hp => ?_, Nat.lt_of_lt_of_le (a4 b hb).2 hg.size⟩, fun r hr => ?_, hF _ _ _ a6 hk⟩
    · have := (a4 b hb).2
      exact (h2 b hp).elim (a4 b hb).1 (fun h => by omega)
    · have := hg.size
      exact (h2 r hr).elim (fun h => by have := a5 r h; omega) (fun h => h.2)
  put pv s W W' r h hr hg := by
    obtain ⟨pvo, a1, a2, a3, a4, a5, a6⟩ := h
    have hk : KeepsP (fun r => own r ∨ nd r) W W' := KeepsP.of_grown hg (fun q e hq => by injection e with e; subst e; exact (a4 _ hq).1 hr)
    exact ⟨pvo, a1, hJ.put pvo _ W W' r a2 (a1 r hr) hg, a3, fun b hb => ⟨(a4 b hb).1, Nat.lt_of_lt_of_le (a4 b hb).2 hg.size⟩, fun r hr => Nat.lt_of_lt_of_le (a5 r hr) hg.size, hF _ _ _ a6 hk⟩
theorem stay_out {Jx : (Nat → Prop) → Nat → World → Prop} (hJ : Stay Jx) : Stay (Out Jx) where
  new pv pv' s W W' h hg h1 h2 := by
    obtain ⟨pvo, q, a1, a2⟩ := h
    exact ⟨fun r => pvo r ∨ (W.heap.size ≤ r ∧ r < W'.heap.size), q, fun r hr => (h2 r hr).elim (fun h => .inl (a1 r h)) .inr, hJ.new pvo _ _ W W' a2 hg (fun r h => .inl h) (fun r h => h)⟩
  put pv s W W' r h hr hg := by
    obtain ⟨pvo, q, a1, a2⟩ := h
    exact ⟨pvo, q, a1, hJ.put pvo _ W W' r a2 (a1 r hr) hg⟩
theorem stay_true : Stay (fun (_ : Nat → Prop) (_ : Nat) (_ : World) => True) where
  new _ _ _ _ _ _ _ _ _ := trivial
  put _ _ _ _ _ _ _ _ := trivial
theorem stay_const {β : Type} {C : β → Prop} : Stay (fun (_ : Nat → Prop) (s : β) (_ : World) => C s) where
  new _ _ _ _ _ h _ _ _ := h
  put _ _ _ _ _ h _ _ := h
theorem stay_and {β : Type} {J K : (Nat → Prop) → β → World → Prop} (h : Stay J) (k : Stay K) : Stay (fun pv s W => J pv s W ∧ K pv s W) where
  new pv pv' s W W' hs hg h1 h2 := ⟨h.new _ _ _ _ _ hs.1 hg h1 h2, k.new _ _ _ _ _ hs.2 hg h1 h2⟩
  put pv s W W' r hs hr hg := ⟨h.put _ _ _ _ _ hs.1 hr hg, k.put _ _ _ _ _ hs.2 hr hg⟩
theorem stay_ex {β γ : Type} {J : γ → (Nat → Prop) → β → World → Prop} (h : ∀ q, Stay (J q)) : Stay (fun pv s W => ∃ q, J q pv s W) where
  new _ _ _ _ _ hs hg h1 h2 := hs.imp fun q hs => (h q).new _ _ _ _ _ hs hg h1 h2
  put _ _ _ _ _ hs hr hg := hs.imp fun q hs => (h q).put _ _ _ _ _ hs hr hg
theorem inn_start {pvo : Nat → Prop} (hJ : J pvo (ix 0) W) (h1 : ∀ b, own b → pvo b) (h2 : ∀ b, own b ∨ nd b → b < W.heap.size) (hF : F 0 W) : Inn J own nd F ix (fun _ => False) 0 W :=
  ⟨pvo, fun _ h => h.elim, hJ, h1, fun b hb => ⟨fun h => h, h2 b hb⟩, fun _ h => h.elim, hF⟩
theorem inn_more (hJ : Stay J) (h : Inn J own nd F ix pv k W) (hb : Below W.heap.size W W') {F' : Nat → World → Prop} {b : Nat} (h1 : W.heap.size ≤ b) (h2 : b < W'.heap.size) (hF : F k W → KeepsP (fun r => own r ∨ nd r) W W' → F' k W') : Inn J (fun r => r = b ∨ own r) nd F' ix pv k W' := by
  obtain ⟨pvo, a1, a2, a3, a4, a5, a6⟩ := h
  have hg := Mem.grown_of_below hb none
  refine ⟨fun r => pvo r ∨ (W.heap.size ≤ r ∧ r < W'.heap.size), fun r hr => .inl (a1 r hr), hJ.new pvo _ _ W W' a2 hg (fun r h => .inl h) (fun r h => h), fun q hq => ?_, fun q hq => ?_, fun r hr => Nat.lt_of_lt_of_le (a5 r hr) hg.size, hF a6 (KeepsP.of_below hb)⟩
  · rcases hq with rfl | hq
    · exact .inr ⟨h1, h2⟩
    · exact .inl (a3 q hq)
  · rcases hq with (rfl | hq) | hq
    · exact ⟨fun hp => by have := a5 _ hp; omega, h2⟩
    · exact ⟨(a4 q (.inl hq)).1, Nat.lt_of_lt_of_le (a4 q (.inl hq)).2 hg.size⟩
    · exact ⟨(a4 q (.inr hq)).1, Nat.lt_of_lt_of_le (a4 q (.inr hq)).2 hg.size⟩
end
theorem SeqP.inRound {α : Type} {F : Fence} {n : Nat} {P : Program} {g : Nat} {lb : Array Value} {Nd : Nat → Prop} {encs : α → Array Value} {at_ : Nat → Option α} {w : World} (l : Nat) (h : SeqP F n P g lb Nd encs at_ w) : SeqP (F.inRound l) n P g lb Nd encs at_ w := h
variable {F : Fence} {n : Nat} {P : Program}
theorem wpIn_rangeFunc_p {α : Type} {g : Operand} {ps : Array Tmp} {assign body : Code} {Q : Exit → Act → World → Prop} {a : Act} {w : World}
    (hro : F.round = none) (h1 : 1 ≤ n) {gf : Nat} {lb : Array Value} (hg : a.eval g = .func (.func gf) #[] lb) (hFg : F.fn gf) (eg : ∀ args w, (callFunc gf args).run P w = .ok (.enter gf args) w)
    {Nd : Nat → Prop} {encs : α → Array Value} {at_ : Nat → Option α} {w0 : World} (hseq : SeqP F (n - 1) P gf lb Nd encs at_ w0)
    (hb0 : Below w0.heap.size w0 w) (hps : ∀ x, (encs x).size = ps.size) (hNd : ∀ r, Nd r → r < w.heap.size)
    (I : (Nat → Prop) → Nat → World → Prop) (Ix : Code → (Nat → Prop) → Nat → World → Prop) (hI : Stay I) (hIx : ∀ c, Stay (Ix c)) (h0 : I (fun _ => False) 0 w)
    (Ib : (Nat → Prop) → Nat → α → Act → World → Prop) (hIb : ∀ pv k x a' W W' r, Ib pv k x a' W → pv r → W.grownBy W' (some r) → Ib pv k x a' W')
    (hassign : ∀ (l : Nat) (pv : Nat → Prop) (k : Nat) (x : α) (W : World) (K : Act → World → Prop), pv l → I pv k W → at_ k = some x → (∀ a' W', KeepsP (fun r => Nd r ∨ pv r) W W' → Ib pv k x a' W' → K a' W') →
      assign.wpIn (F.inRound l) (n - 1 - 1) P (Exit.then K (fun _ _ _ => False)) { tmps := (ps.zip (encs x)).foldl (fun t (p, v) => t.setIfInBounds p v) a.tmps, defers := [] } W)
    (hbody : ∀ (l : Nat) (pv : Nat → Prop) (k : Nat) (x : α) (a' : Act) (W : World), pv l → (∃ r, W.heap[l]? = some (.loop r)) → Ib pv k x a' W → at_ k = some x →
      body.wpIn (F.inRound l) (n - 1 - 1) P (stopPost (fun W' => KeepsP (fun r => Nd r ∨ pv r) W W' ∧ I pv (k + 1) W') (fun c W' => KeepsP (fun r => Nd r ∨ pv r) W W' ∧ Ix c pv (k + 1) W')) a' W)
    (hdone : ∀ (D : Nat) (pv : Nat → Prop) (k : Nat) (W : World), at_ k = none → I pv k W → pv D → W.heap[D]? = some (.deferred (some [])) → Q .normal { a with defers := { target := .collected D, args := #[] } :: a.defers } W)
    (hstop : ∀ (D : Nat) (c : Code) (pv : Nat → Prop) (k : Nat) (W : World), Ix c pv k W → pv D → W.heap[D]? = some (.deferred (some [])) → c.wpIn F n P Q { a with defers := { target := .collected D, args := #[] } :: a.defers } W) :
    (Code.rangeFunc g ps assign body).wpIn F n P Q a w := by
  refine wpIn_rangeFunc fun fn hfn => ?_
  rw [hro]
  let rec0 : LoopState → Option Code → Loop := fun st pe => { state := st, pending := pe, fn := fn, tmps := a.tmps, params := ps, assign := assign, body := body, defers := w.heap.size }
  let W1 : World := (w.alloc (.deferred (some []))).alloc (.loop (rec0 .ready none))
  have hz1 : W1.heap.size = w.heap.size + 2 := by simp [W1]
  have hl1 : W1.heap[w.heap.size + 1]? = some (.loop (rec0 .ready none)) := by
    have e := World.alloc_heap_new (w.alloc (.deferred (some []))) (.loop (rec0 .ready none))
    rwa [World.size_alloc] at e
  have hd1 : W1.heap[w.heap.size]? = some (.deferred (some [])) := (Below.heap_alloc _ _ _ (by simp)).trans (World.alloc_heap_new w _)
  have hbW : Below w.heap.size w W1 := (((Below.refl _ w).alloc (Nat.le_refl _) _).alloc (by simp) _)
  have hi1 : I (fun r => False ∨ (w.heap.size ≤ r ∧ r < W1.heap.size)) 0 W1 := hI.all h0 hbW
  have hb1 : Below w0.heap.size w0 W1 := hb0.trans (hbW.mono hb0.size)
  let L : Nat → Prop := fun r => r = w.heap.size ∨ r = w.heap.size + 1
  have hlN : ∀ r, L r → ¬ Nd r := fun r h hr => by have := hNd r hr; rcases h with h | h <;> omega
  have hset : ∀ (pv : Nat → Prop) {s : Nat} {W : World} (J : (Nat → Prop) → Nat → World → Prop), Stay J → (∀ r, pv r → L r) → (∀ r, L r → pv r) → J pv s W → J (fun r => (fun _ => False) r ∨ L r) s W := fun pv {s W} J hJ h1 h2 h =>
    hJ.new pv _ s W W h (World.grownBy.refl W none) (fun r hr => .inr (h1 r hr)) (fun r hr => hr.elim (fun e => e.elim) (fun h => .inl (h2 r h)))
  refine ⟨w.heap.size + 1, [{ target := .collected w.heap.size, args := #[] }], W1, { target := .fn (.func gf) lb, args := #[.func (.yield (w.heap.size + 1)) #[] #[]] }, W1, gf,
    #[.func (.yield (w.heap.size + 1)) #[] #[]] ++ lb, W1, run_enterLoop_outer _ _ _ _ _, by simp only [resolve, hg]; simp [go_sem],
    fun f' hf' => by simp [Target.leads] at hf'; subst hf'; exact hFg, by simp [invoke, go_sem, eg], fun _ => h1, ?_⟩
  have more : ∀ {J : (Nat → Prop) → Nat → World → Prop}, Stay J → ∀ {pv pv' : Nat → Prop} {s : Nat} {A B : World}, J (fun r => pv r ∨ L r) s A → A.grownBy B none → (∀ r, pv r → pv' r) → (∀ r, pv' r → pv r ∨ (A.heap.size ≤ r ∧ r < B.heap.size)) → J (fun r => pv' r ∨ L r) s B := by
    intro J hJ pv pv' s A B h hg' h1 h2
    exact hJ.new _ _ s A B h hg' (fun r hr => hr.elim (fun h => .inl (h1 r h)) .inr) (fun r hr => hr.elim (fun h => (h2 r h).elim (fun h => .inl (.inl h)) .inr) (fun h => .inl (.inr h)))
  have keep : ∀ {A B : World} {row : Option Nat} (i : Nat) (o : Obj), A.heap[i]? = some o → A.grownBy B row → (∀ r, row = some r → r ≠ i) → B.heap[i]? = some o := by
    intro A B row i o ho hg' hr
    exact (hg'.block i (Array.getElem?_eq_some_iff.1 ho).1 (fun e => hr i e.symm rfl)).trans ho
  refine (hseq (w.heap.size + 1) (fun pv k W => (I (fun r => pv r ∨ L r) k W ∧ (∀ r, L r → ¬ pv r)) ∧ W.heap[w.heap.size + 1]? = some (.loop (rec0 .ready none)) ∧ W.heap[w.heap.size]? = some (.deferred (some [])))
    (fun pv k W => (∃ c, Ix c (fun r => pv r ∨ L r) k W ∧ W.heap[w.heap.size + 1]? = some (.loop (rec0 .done (some c)))) ∧ (∀ r, L r → ¬ pv r) ∧ W.heap[w.heap.size]? = some (.deferred (some []))) W1 hb1
    ⟨fun pv pv' s A B hs hg' h1 h2 => ⟨⟨more hI hs.1.1 hg' h1 h2, fun r hr hp => (h2 r hp).elim (hs.1.2 r hr) (fun h => by
        have hlt := (Array.getElem?_eq_some_iff.1 hs.2.1).1
        rcases hr with rfl | rfl <;> omega)⟩, keep _ _ hs.2.1 hg' (fun r e => by cases e), keep _ _ hs.2.2 hg' (fun r e => by cases e)⟩,
     fun pv s A B r hs hp hg' => ⟨⟨hI.put _ s A B r hs.1.1 (.inl hp) hg', hs.1.2⟩, keep _ _ hs.2.1 hg' (fun r' e => by injection e with e; subst e; rintro rfl; exact hs.1.2 _ (.inr rfl) hp), keep _ _ hs.2.2 hg' (fun r' e => by injection e with e; subst e; rintro rfl; exact hs.1.2 _ (.inl rfl) hp)⟩⟩
    ⟨fun pv pv' s A B hs hg' h1 h2 => by
        obtain ⟨⟨c, hc, hl⟩, hn, hd⟩ := hs
        have hlt := (Array.getElem?_eq_some_iff.1 hl).1
        exact ⟨⟨c, more (hIx c) hc hg' h1 h2, keep _ _ hl hg' (fun r e => by cases e)⟩, fun r hr hp => (h2 r hp).elim (hn r hr) (fun h => by rcases hr with rfl | rfl <;> omega), keep _ _ hd hg' (fun r e => by cases e)⟩,
     fun pv s A B r hs hp hg' => by
        obtain ⟨⟨c, hc, hl⟩, hn, hd⟩ := hs
        exact ⟨⟨c, (hIx c).put _ s A B r hc (.inl hp) hg', keep _ _ hl hg' (fun r' e => by injection e with e; subst e; rintro rfl; exact hn _ (.inr rfl) hp)⟩, hn, keep _ _ hd hg' (fun r' e => by injection e with e; subst e; rintro rfl; exact hn _ (.inl rfl) hp)⟩⟩
    ?_ ⟨⟨hset _ I hI (fun r hr => hr.elim (fun e => e.elim) (fun h => by show r = w.heap.size ∨ r = w.heap.size + 1; omega)) (fun r hr => .inr (by rcases hr with rfl | rfl <;> omega)) hi1, fun r _ h => h⟩, hl1, hd1⟩).mono ?_
  · -- a round
    rintro pv k x W ⟨⟨hi, hn⟩, hl, hd⟩ hat
    have hlt : w.heap.size + 1 < W.heap.size := (Array.getElem?_eq_some_iff.1 hl).1
    have hy := run_yield (P := P) (args := encs x) hl (hps x)
    have hsub : ∀ r, (Nd r ∨ pv r) → (Nd r ∨ (pv r ∨ L r)) := fun r h => h.elim .inl (fun h => .inr (.inl h))
    have hpl : ¬ (Nd (w.heap.size + 1) ∨ pv (w.heap.size + 1)) := fun h => h.elim (hlN _ (.inr rfl)) (hn _ (.inr rfl))
    have kput : ∀ (A : World) (o : Obj), KeepsP (fun r => Nd r ∨ pv r) A (A.putObj (w.heap.size + 1) o) := fun A o => KeepsP.of_grown (grownBy_putObj' A _ o) (fun r e h => by injection e with e; subst e; exact hpl h)
    refine ⟨fn, _, assign, body, hy, roundIn_of_wpIn hfn (hassign _ _ k x W _ (.inr (.inr rfl)) hi hat ?_)⟩
    intro a' W2 hk2 hib
    have hl2 := hk2.block _ _ (.inr (.inr (.inr rfl))) hl
    have hd2 := hk2.block _ _ (.inr (.inr (.inl rfl))) hd
    have hlt2 : w.heap.size + 1 < W2.heap.size := (Array.getElem?_eq_some_iff.1 hl2).1
    refine ⟨_, run_beginRound hl2 rfl, ?_⟩
    have hl3 : (W2.putObj (w.heap.size + 1) (.loop { rec0 .ready none with state := .busy })).heap[w.heap.size + 1]? = some (.loop { rec0 .ready none with state := .busy }) := World.putObj_heap_same hlt2
    have hd3 : (W2.putObj (w.heap.size + 1) (.loop { rec0 .ready none with state := .busy })).heap[w.heap.size]? = some (.deferred (some [])) := (World.putObj_heap_other (by omega)).trans hd2
    have hk3 : KeepsP (fun r => Nd r ∨ pv r) W (W2.putObj (w.heap.size + 1) (.loop { rec0 .ready none with state := .busy })) := (hk2.less hsub).trans (kput _ _)
    refine wpIn_mono (hbody _ _ k x a' _ (.inr (.inr rfl)) ⟨_, hl3⟩ (hIb _ k x a' _ _ (w.heap.size + 1) hib (.inr (.inr rfl)) (grownBy_putObj' W2 _ _)) hat) ?_
    intro e a3 W4 hp
    have fin : ∀ (jump : Code), KeepsP (fun r => Nd r ∨ (pv r ∨ L r)) (W2.putObj (w.heap.size + 1) (.loop { rec0 .ready none with state := .busy })) W4 → Ix jump (fun r => pv r ∨ L r) (k + 1) W4 →
        ∃ v w', (Instr.endRound (w.heap.size + 1) (some jump)).run P W4 = .ok v w' ∧ KeepsP (fun r => Nd r ∨ pv r) W w' ∧ Ending.returned v = .returned (.bool false) ∧
          ((∃ c, Ix c (fun r => pv r ∨ L r) (k + 1) w' ∧ w'.heap[w.heap.size + 1]? = some (.loop (rec0 .done (some c)))) ∧ (∀ r, L r → ¬ pv r) ∧ w'.heap[w.heap.size]? = some (.deferred (some []))) := fun jump hk4 hi4 => by
      have hl4 := hk4.block _ _ (.inr (.inr (.inr rfl))) hl3
      have hd4 := hk4.block _ _ (.inr (.inr (.inl rfl))) hd3
      have hlt4 : w.heap.size + 1 < W4.heap.size := (Array.getElem?_eq_some_iff.1 hl4).1
      exact ⟨_, _, run_endRound (P := P) (some jump) hl4, (hk3.trans (hk4.less hsub)).trans (kput _ _), rfl, ⟨jump, (hIx _).put _ _ _ _ _ hi4 (.inr (.inr rfl)) (grownBy_putObj' W4 _ _), World.putObj_heap_same hlt4⟩, hn, (World.putObj_heap_other (by omega)).trans hd4⟩
    cases e with
    | normal =>
      obtain ⟨hk4, hi4⟩ := hp
      have hl4 := hk4.block _ _ (.inr (.inr (.inr rfl))) hl3
      have hd4 := hk4.block _ _ (.inr (.inr (.inl rfl))) hd3
      have hlt4 : w.heap.size + 1 < W4.heap.size := (Array.getElem?_eq_some_iff.1 hl4).1
      exact ⟨_, _, run_endRound (P := P) none hl4, (hk3.trans (hk4.less hsub)).trans (kput _ _), .inl ⟨rfl, ⟨hI.put _ _ _ _ _ hi4 (.inr (.inr rfl)) (grownBy_putObj' W4 _ _), hn⟩, World.putObj_heap_same hlt4, (World.putObj_heap_other (by omega)).trans hd4⟩⟩
    | ret => obtain ⟨v, w', hr, e0, e1, e2⟩ := fin .ret hp.1 hp.2; exact ⟨v, w', hr, e0, .inr ⟨e1, e2⟩⟩
    | exit id => obtain ⟨v, w', hr, e0, e1, e2⟩ := fin (.exit id) hp.1 hp.2; exact ⟨v, w', hr, e0, .inr ⟨e1, e2⟩⟩
    | goto t => obtain ⟨v, w', hr, e0, e1, e2⟩ := fin (.goto t) hp.1 hp.2; exact ⟨v, w', hr, e0, .inr ⟨e1, e2⟩⟩
    | panic ch => exact hp.elim
    | outgrown => exact hp.elim
  · -- behind the iterator
    rintro e W2 ⟨⟨v, rfl⟩, (⟨pv, k, hk, ⟨hi, hn⟩, hl, hd⟩ | ⟨pv, k, ⟨c, hi, hl⟩, hn, hd⟩)⟩
    · exact ⟨none, _, run_endLoop (P := P) hl (by simp [rec0]), hdone _ _ k _ hk (hI.put _ _ _ _ _ hi (.inr (.inr rfl)) (grownBy_putObj' W2 _ _)) (.inr (.inl rfl)) ((World.putObj_heap_other (by omega)).trans hd)⟩
    · exact ⟨some c, _, run_endLoop (P := P) hl (by simp [rec0]), hstop _ c _ k _ ((hIx c).put _ _ _ _ _ hi (.inr (.inr rfl)) (grownBy_putObj' W2 _ _)) (.inr (.inl rfl)) ((World.putObj_heap_other (by omega)).trans hd)⟩
theorem wpIn_rangeFunc_pN {α : Type} {g : Operand} {ps : Array Tmp} {assign body : Code} {Q : Exit → Act → World → Prop} {a : Act} {w : World}
    {l₀ : Nat} {r₀ : Loop} (hro : F.round = some l₀) (hl₀ : w.heap[l₀]? = some (.loop r₀)) (h1 : 1 ≤ n) {gf : Nat} {lb : Array Value} (hg : a.eval g = .func (.func gf) #[] lb) (hFg : F.fn gf) (eg : ∀ args w, (callFunc gf args).run P w = .ok (.enter gf args) w)
    {Nd : Nat → Prop} {encs : α → Array Value} {at_ : Nat → Option α} {w0 : World} (hseq : SeqP F (n - 1) P gf lb Nd encs at_ w0)
    (hb0 : Below w0.heap.size w0 w) (hps : ∀ x, (encs x).size = ps.size) (hNd : ∀ r, Nd r → r < w.heap.size)
    (I : (Nat → Prop) → Nat → World → Prop) (Ix : Code → (Nat → Prop) → Nat → World → Prop) (hI : Stay I) (hIx : ∀ c, Stay (Ix c)) (h0 : I (fun _ => False) 0 w)
    (Ib : (Nat → Prop) → Nat → α → Act → World → Prop) (hIb : ∀ pv k x a' W W' r, Ib pv k x a' W → pv r → W.grownBy W' (some r) → Ib pv k x a' W')
    (hassign : ∀ (l : Nat) (pv : Nat → Prop) (k : Nat) (x : α) (W : World) (K : Act → World → Prop), pv l → I pv k W → at_ k = some x → (∀ a' W', KeepsP (fun r => Nd r ∨ pv r) W W' → Ib pv k x a' W' → K a' W') →
      assign.wpIn (F.inRound l) (n - 1 - 1) P (Exit.then K (fun _ _ _ => False)) { tmps := (ps.zip (encs x)).foldl (fun t (p, v) => t.setIfInBounds p v) a.tmps, defers := [] } W)
    (hbody : ∀ (l : Nat) (pv : Nat → Prop) (k : Nat) (x : α) (a' : Act) (W : World), pv l → (∃ r, W.heap[l]? = some (.loop r)) → Ib pv k x a' W → at_ k = some x →
      body.wpIn (F.inRound l) (n - 1 - 1) P (stopPost (fun W' => KeepsP (fun r => Nd r ∨ pv r) W W' ∧ I pv (k + 1) W') (fun c W' => KeepsP (fun r => Nd r ∨ pv r) W W' ∧ Ix c pv (k + 1) W')) a' W)
    (hdone : ∀ (pv : Nat → Prop) (k : Nat) (W : World), at_ k = none → I pv k W → Q .normal a W)
    (hstop : ∀ (c : Code) (pv : Nat → Prop) (k : Nat) (W : World), Ix c pv k W → c.wpIn F n P Q a W) :
    (Code.rangeFunc g ps assign body).wpIn F n P Q a w := by
  refine wpIn_rangeFunc fun fn hfn => ?_
  rw [hro]
  let rec0 : LoopState → Option Code → Loop := fun st pe => { state := st, pending := pe, fn := fn, tmps := a.tmps, params := ps, assign := assign, body := body, defers := r₀.defers }
  let W1 : World := w.alloc (.loop (rec0 .ready none))
  have hz1 : W1.heap.size = w.heap.size + 1 := by simp [W1]
  have hl1 : W1.heap[w.heap.size]? = some (.loop (rec0 .ready none)) := World.alloc_heap_new w _
  have hbW : Below w.heap.size w W1 := ((Below.refl _ w).alloc (Nat.le_refl _) _)
  have hi1 : I (fun r => (fun _ => False) r ∨ r = w.heap.size) 0 W1 := hI.one h0 (Mem.grown_of_below hbW none) _ (Nat.le_refl _) (by omega)
  have hb1 : Below w0.heap.size w0 W1 := hb0.trans (hbW.mono hb0.size)
  have hlN : ¬ Nd w.heap.size := fun hr => by have := hNd _ hr; omega
  refine ⟨w.heap.size, [], W1, { target := .fn (.func gf) lb, args := #[.func (.yield w.heap.size) #[] #[]] }, W1, gf,
    #[.func (.yield w.heap.size) #[] #[]] ++ lb, W1, run_enterLoop_inner hl₀ _ _ _ _ _, by simp only [resolve, hg]; simp [go_sem],
    fun f' hf' => by simp [Target.leads] at hf'; subst hf'; exact hFg, by simp [invoke, go_sem, eg], fun _ => h1, ?_⟩
  have more : ∀ {J : (Nat → Prop) → Nat → World → Prop}, Stay J → ∀ {pv pv' : Nat → Prop} {s : Nat} {A B : World}, J (fun r => pv r ∨ r = w.heap.size) s A → A.grownBy B none → (∀ r, pv r → pv' r) → (∀ r, pv' r → pv r ∨ (A.heap.size ≤ r ∧ r < B.heap.size)) → J (fun r => pv' r ∨ r = w.heap.size) s B := by
    intro J hJ pv pv' s A B h hg' h1 h2
    exact hJ.new _ _ s A B h hg' (fun r hr => hr.elim (fun h => .inl (h1 r h)) .inr) (fun r hr => hr.elim (fun h => (h2 r h).elim (fun h => .inl (.inl h)) .inr) (fun h => .inl (.inr h)))
  have keep : ∀ {A B : World} {row : Option Nat} (i : Nat) (o : Obj), A.heap[i]? = some o → A.grownBy B row → (∀ r, row = some r → r ≠ i) → B.heap[i]? = some o := by
    intro A B row i o ho hg' hr
    exact (hg'.block i (Array.getElem?_eq_some_iff.1 ho).1 (fun e => hr i e.symm rfl)).trans ho
  refine (hseq w.heap.size (fun pv k W => (I (fun r => pv r ∨ r = w.heap.size) k W ∧ ¬ pv w.heap.size) ∧ W.heap[w.heap.size]? = some (.loop (rec0 .ready none)))
    (fun pv k W => (∃ c, Ix c (fun r => pv r ∨ r = w.heap.size) k W ∧ W.heap[w.heap.size]? = some (.loop (rec0 .done (some c)))) ∧ ¬ pv w.heap.size) W1 hb1
    ⟨fun pv pv' s A B hs hg' h1 h2 => ⟨⟨more hI hs.1.1 hg' h1 h2, fun hp => (h2 _ hp).elim hs.1.2 (fun h => by
        have hlt := (Array.getElem?_eq_some_iff.1 hs.2).1
        omega)⟩, keep _ _ hs.2 hg' (fun r e => by cases e)⟩,
     fun pv s A B r hs hp hg' => ⟨⟨hI.put _ s A B r hs.1.1 (.inl hp) hg', hs.1.2⟩, keep _ _ hs.2 hg' (fun r' e => by injection e with e; subst e; rintro rfl; exact hs.1.2 hp)⟩⟩
    ⟨fun pv pv' s A B hs hg' h1 h2 => by
        obtain ⟨⟨c, hc, hl⟩, hn⟩ := hs
        have hlt := (Array.getElem?_eq_some_iff.1 hl).1
        exact ⟨⟨c, more (hIx c) hc hg' h1 h2, keep _ _ hl hg' (fun r e => by cases e)⟩, fun hp => (h2 _ hp).elim hn (fun h => by omega)⟩,
     fun pv s A B r hs hp hg' => by
        obtain ⟨⟨c, hc, hl⟩, hn⟩ := hs
        exact ⟨⟨c, (hIx c).put _ s A B r hc (.inl hp) hg', keep _ _ hl hg' (fun r' e => by injection e with e; subst e; rintro rfl; exact hn hp)⟩, hn⟩⟩
    ?_ ⟨⟨hi1, fun h => h⟩, hl1⟩).mono ?_
  · rintro pv k x W ⟨⟨hi, hn⟩, hl⟩ hat
    have hlt : w.heap.size < W.heap.size := (Array.getElem?_eq_some_iff.1 hl).1
    have hy := run_yield (P := P) (args := encs x) hl (hps x)
    have hsub : ∀ r, (Nd r ∨ pv r) → (Nd r ∨ (pv r ∨ r = w.heap.size)) := fun r h => h.elim .inl (fun h => .inr (.inl h))
    have hpl : ¬ (Nd w.heap.size ∨ pv w.heap.size) := fun h => h.elim hlN hn
    have kput : ∀ (A : World) (o : Obj), KeepsP (fun r => Nd r ∨ pv r) A (A.putObj w.heap.size o) := fun A o => KeepsP.of_grown (grownBy_putObj' A _ o) (fun r e h => by injection e with e; subst e; exact hpl h)
    refine ⟨fn, _, assign, body, hy, roundIn_of_wpIn hfn (hassign _ _ k x W _ (.inr rfl) hi hat ?_)⟩
    intro a' W2 hk2 hib
    have hl2 := hk2.block _ _ (.inr (.inr rfl)) hl
    have hlt2 : w.heap.size < W2.heap.size := (Array.getElem?_eq_some_iff.1 hl2).1
    refine ⟨_, run_beginRound hl2 rfl, ?_⟩
    have hl3 : (W2.putObj w.heap.size (.loop { rec0 .ready none with state := .busy })).heap[w.heap.size]? = some (.loop { rec0 .ready none with state := .busy }) := World.putObj_heap_same hlt2
    have hk3 : KeepsP (fun r => Nd r ∨ pv r) W (W2.putObj w.heap.size (.loop { rec0 .ready none with state := .busy })) := (hk2.less hsub).trans (kput _ _)
    refine wpIn_mono (hbody _ _ k x a' _ (.inr rfl) ⟨_, hl3⟩ (hIb _ k x a' _ _ w.heap.size hib (.inr rfl) (grownBy_putObj' W2 _ _)) hat) ?_
    intro e a3 W4 hp
    have fin : ∀ (jump : Code), KeepsP (fun r => Nd r ∨ (pv r ∨ r = w.heap.size)) (W2.putObj w.heap.size (.loop { rec0 .ready none with state := .busy })) W4 → Ix jump (fun r => pv r ∨ r = w.heap.size) (k + 1) W4 →
        ∃ v w', (Instr.endRound w.heap.size (some jump)).run P W4 = .ok v w' ∧ KeepsP (fun r => Nd r ∨ pv r) W w' ∧ Ending.returned v = .returned (.bool false) ∧
          ((∃ c, Ix c (fun r => pv r ∨ r = w.heap.size) (k + 1) w' ∧ w'.heap[w.heap.size]? = some (.loop (rec0 .done (some c)))) ∧ ¬ pv w.heap.size) := fun jump hk4 hi4 => by
      have hl4 := hk4.block _ _ (.inr (.inr rfl)) hl3
      have hlt4 : w.heap.size < W4.heap.size := (Array.getElem?_eq_some_iff.1 hl4).1
      exact ⟨_, _, run_endRound (P := P) (some jump) hl4, (hk3.trans (hk4.less hsub)).trans (kput _ _), rfl, ⟨jump, (hIx _).put _ _ _ _ _ hi4 (.inr rfl) (grownBy_putObj' W4 _ _), World.putObj_heap_same hlt4⟩, hn⟩
    cases e with
    | normal =>
      obtain ⟨hk4, hi4⟩ := hp
      have hl4 := hk4.block _ _ (.inr (.inr rfl)) hl3
      have hlt4 : w.heap.size < W4.heap.size := (Array.getElem?_eq_some_iff.1 hl4).1
      exact ⟨_, _, run_endRound (P := P) none hl4, (hk3.trans (hk4.less hsub)).trans (kput _ _), .inl ⟨rfl, ⟨hI.put _ _ _ _ _ hi4 (.inr rfl) (grownBy_putObj' W4 _ _), hn⟩, World.putObj_heap_same hlt4⟩⟩
    | ret => obtain ⟨v, w', hr, e0, e1, e2⟩ := fin .ret hp.1 hp.2; exact ⟨v, w', hr, e0, .inr ⟨e1, e2⟩⟩
    | exit id => obtain ⟨v, w', hr, e0, e1, e2⟩ := fin (.exit id) hp.1 hp.2; exact ⟨v, w', hr, e0, .inr ⟨e1, e2⟩⟩
    | goto t => obtain ⟨v, w', hr, e0, e1, e2⟩ := fin (.goto t) hp.1 hp.2; exact ⟨v, w', hr, e0, .inr ⟨e1, e2⟩⟩
    | panic ch => exact hp.elim
    | outgrown => exact hp.elim
  · rintro e W2 ⟨⟨v, rfl⟩, (⟨pv, k, hk, ⟨hi, hn⟩, hl⟩ | ⟨pv, k, ⟨c, hi, hl⟩, hn⟩)⟩
    · exact ⟨none, _, run_endLoop (P := P) hl (by simp [rec0]), hdone _ k _ hk (hI.put _ _ _ _ _ hi (.inr rfl) (grownBy_putObj' W2 _ _))⟩
    · exact ⟨some c, _, run_endLoop (P := P) hl (by simp [rec0]), hstop c _ k _ ((hIx c).put _ _ _ _ _ hi (.inr rfl) (grownBy_putObj' W2 _ _))⟩
end Go.Proofs.YtipmfficjomcoaaDoor.Range
