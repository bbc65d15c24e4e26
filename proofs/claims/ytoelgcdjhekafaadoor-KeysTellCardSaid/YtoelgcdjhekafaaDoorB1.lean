/-
  Words for slices of numbers in memory, and small facts about them: no program here. No conditions beyond those stated.
  Slices that a call itself has made: what they hold, what append and a store make of them: no program here. No conditions beyond those stated.
  Arrays of numbers, in blocks of their own and by value: no program here. No conditions beyond those stated.
  Two arrays of the same integers are alike, by the model's own '=='.
  Slices of values of one cell each (slices of slices among them): no program here. No conditions beyond those stated.
  append(s, make([]T, m)...) onto what the call owns, for numbers: no program here. No conditions beyond those stated.
  A region that draws its order, gone through by hand, operation by operation: what hangs on no world is taken first, what comes up alone is carried out. No program here. No conditions beyond those stated.
  A range over a function whose iterator keeps cells of its own, and whose body never leaves early: what the iterator is told of the rounds, and what the loop owes: no program here. No conditions beyond those stated.
  A range over a function whose iterator keeps cells of its own, and whose body may leave early (or whose iterator never ends by itself): what the iterator is told of the rounds, counted, and what the loop owes: no program here. No conditions beyond those stated.
  Arrays in boxes, read, stored and copied into, within a fence; what an iterator's round keeps: no program here. No conditions beyond those stated.
  copy into a block that is known whole: no program here. No conditions beyond those stated.
  Where every activation may run, what is shown of a region without a fence holds within a round, and within an iterator, too: no program here. No conditions beyond those stated.
  Operations of a drawn region, one by one: min, len, s[:h] of an array, append within the room, a store into a box; what a row is to a step that touches no cells: no program here. No conditions beyond those stated.
  Texts within a drawn region, and small lists of numbers as rows of their own: no program here. No conditions beyond those stated.
  The functions of package dominohelp on bytes, each by its contract. Conditions: the slices read as lists of bytes, of at most 2^44 bytes.
  More operations of a drawn region, one by one: make, append with new room, texts that are not alike; dominohelp.Bytes of like texts. No conditions beyond those stated.
  Numbers of the call's own whose row may bear a mark behind its cells (what a text is turned into): one number appended. No program here. No conditions beyond those stated.
  Numbers as texts: dominohelp's Digits and Number by their contracts. No conditions beyond those stated.
-/
import Derived.WalkKit
import Derived.ProofKit
import Derived.OpenShut
import Derived.Below
import Derived.Lib.Hide
import Derived.Deep.Draws
import Derived.Deep.QuietTactic
import Derived.BigQuiet
import Derived.Laws.OwnMore
import Derived.Maps.AppendAt
import Derived.OwnWalk
import Derived.RegionTactic
import Derived.Laws.BytesArg
import Derived.Laws.Rows
import Derived.Laws.Tables
import Derived.ChangeKeysEq
import Derived.Deep.OwnRows
import Derived.Laws.Slices
import Derived.Laws.StructEq
import Derived.Lib.AppendZerosOnto
import Derived.Deep.RegionHeld
import Derived.Great.BuildSlice
import Derived.Great.FillDense
import Derived.Shelf.Abstract
import Derived.RangeFuncNested
import Derived.RangeFuncBound
import Derived.RangeFuncCalls
import Derived.RangeFuncLeaves
import Derived.Shelf.RegionOpen
import Derived.OwnWalkIn
import Derived.TacticsInMore
import Derived.LoopNIn
import Derived.LoopIn
import Derived.Laws.CopyOwn
import Derived.OrdersIn
import Derived.OneCell
import Derived.Laws.Small
import Derived.Test.YtoelgcdjhekafaaDoorRows
import Derived.Lib.ConvBytes
import Derived.Lib.ItoaMem
namespace Go.Proofs.YtoelgcdjhekafaaDoor.Mem
open Go.RowKit

theorem ret_int {k : IntKind} {a b : Int} (h : a = b) : Ending.returned (.int k a) = .returned (.int k b) := by rw [h]
theorem ret_bool {a b : Bool} (h : a = b) : Ending.returned (.bool a) = .returned (.bool b) := by rw [h]

/-- a call that leaves the world alone, inside a region whose order is open -/
theorem quiet_same {P : Program} {f : FuncId} {args : Array Value} {w : World} {n : Nat} {v : Value}
    (h : Calls P f args (w.drewN n) fun e w' => e = .returned v ∧ w.drewN n = w') : Calls P f args (w.drewN n) fun e w'' => e = .returned v ∧ ∃ m, w'' = w.drewN m :=
  h.mono fun _ _ ⟨he, hm⟩ => ⟨he, n, hm.symm⟩

theorem below_drewN {B : Nat} {a w : World} (h : Below B a w) (n : Nat) : Below B a (w.drewN n) := ⟨h.os, h.tape, h.output, h.size, h.block⟩

/-- the slice at A, of n numbers of kind k, below block B, reads as the list zs -/
def Ints (w : World) (k : IntKind) (B : Nat) (A : Option Addr) (n : Nat) (zs : List Int) : Prop :=
  zs.length = n ∧ (∀ z ∈ zs, (Lit.int k z).wf = true) ∧ (0 < n → ∃ b off, A = some ⟨b, off, none⟩ ∧ b < B ∧ ∀ i, i < n → w.cell? ⟨b, off + i, none⟩ = some (.int k (zs.getD i 0)))

section
variable {w w' : World} {k : IntKind} {B B' n : Nat} {A : Option Addr} {zs : List Int}
theorem Ints.nil (w : World) (k : IntKind) (B : Nat) (A : Option Addr) : Ints w k B A 0 [] := ⟨rfl, by simp, fun h => absurd h (by omega)⟩
theorem Ints.keep (h : Ints w k B A n zs) (hk : ∀ p : Addr, p.block < B → w'.cell? p = w.cell? p) : Ints w' k B A n zs :=
  ⟨h.1, h.2.1, fun hn => by
    obtain ⟨b, off, e, hb, hc⟩ := h.2.2 hn
    exact ⟨b, off, e, hb, fun i hi => (hk ⟨b, off + i, none⟩ hb).trans (hc i hi)⟩⟩
theorem Ints.more (h : Ints w k B A n zs) (hB : B ≤ B') : Ints w k B' A n zs :=
  ⟨h.1, h.2.1, fun hn => by
    obtain ⟨b, off, e, hb, hc⟩ := h.2.2 hn
    exact ⟨b, off, e, by omega, hc⟩⟩
theorem Ints.below (h : Ints w k B A n zs) (hb : Below B w w') : Ints w' k B A n zs := h.keep fun _ hp => hb.cell hp
theorem Ints.drew (h : Ints w k B A n zs) : Ints w.drew k B A n zs := h
theorem Ints.drewN (h : Ints w k B A n zs) (m : Nat) : Ints (w.drewN m) k B A n zs := h
theorem Ints.alloc (h : Ints w k B A n zs) (hB : B ≤ w.heap.size) (o : Obj) : Ints (w.alloc o) k B A n zs := h.keep fun p hp => World.cell?_alloc_lt w o p (by omega)
theorem Ints.setCell (h : Ints w k B A n zs) {p : Addr} (hB : B ≤ p.block) (u : Value) : Ints (w.setCell p u) k B A n zs :=
  h.keep fun q hq => World.cell?_setCell_other w p q u (fun e => by subst e; omega)
theorem Ints.range (h : Ints w k B A n zs) {i : Nat} (hi : i < n) : (Lit.int k (zs.getD i 0)).wf = true := by
  have hl : i < zs.length := by have := h.1; omega
  rw [List.getD_eq_getElem?_getD, List.getElem?_eq_getElem hl]
  exact h.2.1 _ (List.getElem_mem hl)
theorem Ints.at_ (h : Ints w k B A n zs) {i : Nat} (hi : i < n) : ∃ b off, A = some ⟨b, off, none⟩ ∧ b < B ∧ w.cell? ⟨b, off + i, none⟩ = some (.int k (zs.getD i 0)) := by
  obtain ⟨b, off, e, hb, hc⟩ := h.2.2 (by omega)
  exact ⟨b, off, e, hb, hc i hi⟩
end

theorem wf_u8 {z : Int} (h : (Lit.int .u8 z).wf = true) : 0 ≤ z ∧ z ≤ 255 := by simpa [Lit.wf, IntKind.min, IntKind.max, IntKind.signed, IntKind.bits] using h
theorem wf_u64 {z : Int} (h : (Lit.int .u64 z).wf = true) : 0 ≤ z ∧ z ≤ 18446744073709551615 := by simpa [Lit.wf, IntKind.min, IntKind.max, IntKind.signed, IntKind.bits] using h
theorem wf_i64 {z : Int} (h : (Lit.int .i64 z).wf = true) : -9223372036854775808 ≤ z ∧ z ≤ 9223372036854775807 := by simpa [Lit.wf, IntKind.min, IntKind.max, IntKind.signed, IntKind.bits] using h

/-- what the frame of a proof says of a slice that came in, as 'Ints' -/
theorem ints_of_row {kd : IntKind} {w : World} {a : Option Addr} {len cap : Nat} {zs : List Int}
    (h : (a = none ∧ len = 0 ∧ cap = 0 ∧ zs = []) ∨
      ∃ x, a = some x ∧ len ≤ cap ∧ cap ≤ maxLen ∧ zs.length = cap ∧ (∀ i, i < zs.length → w.cell? (x.add i) = some (.int kd (zs.getD i 0))) ∧ ∀ n ∈ zs, (Lit.int kd n).wf = true) :
    Ints w kd w.heap.size a len (zs.take len) ∧ len ≤ cap ∧ cap ≤ maxLen := by
  rcases h with ⟨rfl, rfl, rfl, rfl⟩ | ⟨x, rfl, hl, hm, hz, hc, hw⟩
  · exact ⟨Ints.nil _ _ _ _, Nat.le_refl _, by simp [maxLen]⟩
  · refine ⟨⟨by rw [List.length_take]; omega, fun z hzm => hw z (List.mem_of_mem_take hzm), fun hn => ?_⟩, hl, hm⟩
    obtain ⟨b, off, spot⟩ := x
    have h0 := hc 0 (by omega)
    have hspot : spot = none := by simpa [Addr.add] using World.cell?_spot h0
    subst hspot
    have hlt : b < w.heap.size := by simpa [Addr.add] using World.block_lt_of_cell? w _ h0
    refine ⟨b, off, rfl, hlt, fun i hi => ?_⟩
    have := hc i (by omega)
    have e : (Addr.mk b off none).add i = ⟨b, off + i, none⟩ := by unfold Addr.add; split <;> simp_all
    rw [e] at this
    rw [this]
    congr 2
    simp only [List.getD_eq_getElem?_getD, List.getElem?_take, hi, if_true]
end Go.Proofs.YtoelgcdjhekafaaDoor.Mem
namespace Go.Proofs.YtoelgcdjhekafaaDoor.Mem
open Go.RowKit

/-- the slice v, of the call's own blocks from base on, elements of type t and kind k, owns the numbers zs -/
def Own (w : World) (base : Nat) (t : TypeId) (k : IntKind) (v : Value) (zs : List Int) : Prop :=
  (∀ z ∈ zs, (Lit.int k z).wf = true) ∧ w.ownsRow base t 1 v zs.length (zs.map (Value.int k))

section
variable {w w' : World} {base : Nat} {t : TypeId} {k : IntKind} {v : Value} {zs : List Int}
theorem Own.nil (w : World) (base : Nat) (t : TypeId) (k : IntKind) : Own w base t k (.slice none 0 0) [] := ⟨by simp, World.ownsRow_nil _ _ _ _⟩
theorem Own.drewN (h : Own w base t k v zs) (n : Nat) : Own (w.drewN n) base t k v zs := h
theorem Own.alloc (h : Own w base t k v zs) (o : Obj) : Own (w.alloc o) base t k v zs := ⟨h.1, h.2.alloc o⟩
theorem Own.kept (h : Own w base t k v zs) {row : Option Nat} (hg : w.grownBy w' row) (hne : v.ownBlock = none ∨ v.ownBlock ≠ row) : Own w' base t k v zs := ⟨h.1, h.2.kept hg hne⟩
theorem grown_of_below (h : Below w.heap.size w w') (row : Option Nat) : w.grownBy w' row := ⟨h.os, h.tape, h.output, h.size, fun i hi _ => h.block i hi⟩
theorem Own.below (h : Own w base t k v zs) (hb : Below w.heap.size w w') : Own w' base t k v zs :=
  h.kept (grown_of_below hb none) (by cases v.ownBlock <;> simp)
theorem Own.less (h : Own w base t k v zs) {b : Nat} (hb : b ≤ base) : Own w b t k v zs := by
  refine ⟨h.1, h.2.1, ?_⟩
  rcases h.2.2 with hn | ⟨g, cap, cur, e, hg, r⟩
  · exact .inl hn
  · exact .inr ⟨g, cap, cur, e, by omega, r⟩

theorem Own.form (h : Own w base t k v zs) : ∃ A c, v = .slice A zs.length c ∧ zs.length ≤ c ∧ c ≤ maxLen ∧ Ints w k w.heap.size A zs.length zs := by
  rcases h.2.2 with ⟨rfl, hn⟩ | ⟨g, cap, cur, rfl, hb, hg, hnc, hcm, hcs, ht⟩
  · have : zs = [] := List.eq_nil_of_length_eq_zero hn
    subst this
    exact ⟨none, 0, rfl, Nat.le_refl _, by simp [maxLen], Ints.nil _ _ _ _⟩
  · refine ⟨_, cap, rfl, hnc, hcm, rfl, h.1, fun _ => ⟨g, 0, rfl, (Array.getElem?_eq_some_iff.1 hg).1, fun i hi => ?_⟩⟩
    have hc := h.2.cells (g := g) rfl i (.int k (zs.getD i 0)) (by simp [List.getD_eq_getElem?_getD, hi])
    have e : (Addr.mk g 0 none).add i = ⟨g, 0 + i, none⟩ := by unfold Addr.add; split <;> simp_all
    rwa [e] at hc

theorem Own.ints {A : Option Addr} {n c : Nat} (h : Own w base t k (.slice A n c) zs) (hl : zs.length = n) : Ints w k w.heap.size A n zs := by
  obtain ⟨A', c', e, _, _, hi⟩ := h.form
  injection e with e1 e2 _
  subst e1
  rw [hl] at hi
  exact hi

/-- what is owned, cell by cell -/
theorem Own.at_ (h : Own w base t k v zs) (hn : 0 < zs.length) : ∃ g c, v = .slice (some ⟨g, 0, none⟩) zs.length c ∧ base ≤ g ∧ g < w.heap.size ∧ zs.length ≤ c ∧ c ≤ maxLen ∧
    (∀ i, i < zs.length → w.cell? ⟨g, i, none⟩ = some (.int k (zs.getD i 0))) ∧ (∀ i, w.frozen? ⟨g, i, none⟩ = false) := by
  rcases h.2.2 with ⟨rfl, hn'⟩ | ⟨g, cap, cur, rfl, hb, hg, hnc, hcm, hcs, ht⟩
  · omega
  · refine ⟨g, cap, rfl, hb, (Array.getElem?_eq_some_iff.1 hg).1, hnc, hcm, fun i hi => ?_, fun i => by simp [World.frozen?, hg]⟩
    have hc := h.2.cells (g := g) rfl i (.int k (zs.getD i 0)) (by simp [List.getD_eq_getElem?_getD, hi])
    have e : (Addr.mk g 0 none).add i = ⟨g, i, none⟩ := by unfold Addr.add; split <;> simp_all
    rwa [e] at hc

/-- a store into what is owned -/
theorem Own.set {g c : Nat} (h : Own w base t k (.slice (some ⟨g, 0, none⟩) zs.length c) zs) (i : Nat) {z : Int} (hz : (Lit.int k z).wf = true) :
    Own (w.setCell ⟨g, i, none⟩ (.int k z)) base t k (.slice (some ⟨g, 0, none⟩) zs.length c) (zs.set i z) := by
  refine ⟨fun y hy => ?_, by simp, ?_⟩
  · rcases List.mem_or_eq_of_mem_set hy with h1 | h1
    · exact h.1 y h1
    · rw [h1]; exact hz
  · rcases h.2.2 with ⟨e, _⟩ | ⟨g', cap, cur, e, hb, hg, hnc, hcm, hcs, ht⟩
    · cases e
    · injection e with e1 _ e3
      injection e1 with e1
      injection e1 with e1
      subst e1
      subst e3
      refine .inr ⟨g, c, cur.setIfInBounds i (.int k z), by simp, hb, ?_, by simpa using hnc, hcm, by simpa using hcs, ?_⟩
      · simp [World.setCell, Array.getElem?_modify, hg]
      · rw [Array.toList_setIfInBounds, List.take_set, List.length_set]
        rw [ht]
        simp [List.map_set]

theorem grown_setCell (w : World) (g i : Nat) (u : Value) : w.grownBy (w.setCell ⟨g, i, none⟩ u) (some g) :=
  ⟨rfl, rfl, rfl, by simp [World.setCell], fun j _ hne => Below.heap_setCell w _ u j (fun e => hne (by rw [e]))⟩

theorem Below.of_grown {B : Nat} {a : World} (h : Below B a w) {row : Option Nat} (hg : w.grownBy w' row) (hB : B ≤ w.heap.size) (hr : ∀ g, row = some g → B ≤ g) : Below B a w' := h.grown hg hB hr
end

/-- append, of numbers that read as a list (nil or not), onto what the call owns -/
theorem run_append_ints {P : Program} (w : World) (base : Nat) (ts ty e : TypeId) (k : IntKind) (bytes : Nat) (ht : P.underlying ts = some (.slice e))
    (hinfo : (P.info? e).map (fun i => (i.zero, i.size, i.bytes)) = some (some (.int k 0), 1, bytes)) (v : Value) (zs : List Int) (hown : Own w base e k v zs)
    (B : Nat) (A : Option Addr) (m c : Nat) (xs : List Int) (hr : Ints w k B A m xs) (hlen : zs.length + m ≤ 17592186044416) (hby : bytes ≤ 8) (hbase : base ≤ w.heap.size) :
    ∃ v' w', (Builtin.append_ #[ts, ts] ty #[v, .slice A m c]).run P w = .ok v' w' ∧ Own w' base e k v' (zs ++ xs) ∧ w.grownBy w' v.ownBlock ∧
      (v'.ownBlock = v.ownBlock ∨ v'.ownBlock = some w.heap.size) := by
  obtain ⟨i, hi, hz, hsz, hb⟩ := info_parts hinfo
  have hwf : ∀ z ∈ zs ++ xs, (Lit.int k z).wf = true := by
    intro z hz'
    rcases List.mem_append.1 hz' with h | h
    · exact hown.1 z h
    · exact hr.2.1 z h
  have hxl := hr.1
  rcases A with _ | ad
  · have hm : m = 0 := by
      rcases Nat.eq_zero_or_pos m with h0 | h0
      · exact h0
      · obtain ⟨_, _, h, _⟩ := hr.2.2 h0
        cases h
    subst hm
    have hx : xs = [] := List.eq_nil_of_length_eq_zero hxl
    subst hx
    refine ⟨v, w, ?_, by simpa using hown, World.grownBy.refl w _, .inl rfl⟩
    rcases hown.2.2 with ⟨rfl, _⟩ | ⟨g, cap, cur, rfl, _, _, hnc, _⟩
    · simp [Builtin.append_, run_underlying ht, sizeOf, typeInfo, hi, Builtin.lenOf, Builtin.firstCells]
    · simp [Builtin.append_, run_underlying ht, sizeOf, typeInfo, hi, Builtin.lenOf, Builtin.firstCells, hnc, storeCells]
  · have hcells : ∀ j u, (xs.map (Value.int k))[j]? = some u → w.cell? (ad.add j) = some u := by
      intro j u hu
      have hj : j < m := by
        have := (List.getElem?_eq_some_iff.1 hu).1
        simp at this
        omega
      obtain ⟨b, off, h, _, hc⟩ := hr.at_ hj
      injection h with h
      subst h
      have e : (Addr.mk b off none).add j = ⟨b, off + j, none⟩ := by unfold Addr.add; split <;> simp_all
      rw [e, hc, ← hu]
      simp [List.getD_eq_getElem?_getD, show j < xs.length by omega]
    obtain ⟨v', w', hrun, h2, h3, _, h5⟩ := run_append_own_at (P := P) w base ts ty e i (.int k 0) 1 bytes ht hi hz hsz hb rfl (by omega) v zs.length (zs.map (Value.int k)) hown.2 ad m c
      (xs.map (Value.int k)) (by simp [hxl]) hcells (by intro u hu; obtain ⟨z, _, rfl⟩ := List.mem_map.1 hu; rfl) (by simp only [maxLen]; omega)
      (Nat.le_trans (Nat.mul_le_mul hlen hby) (by omega)) hbase
    refine ⟨v', w', hrun, ⟨hwf, ?_⟩, h3, h5⟩
    rw [List.length_append, List.map_append, hxl]
    exact h2

section
variable {P : Program} (w : World) {ops : Array Oper} {rest : List Oper} {o : Oper} {a : Act}
theorem wp_append_ints {K : Act → World → Prop} {Q : Exit → Act → World → Prop} (s x : Operand) (ts : TypeId)
    (ho : o.op = .call { callee := .builtin .append, args := #[s, x], argTypes := #[ts, ts] }) (base : Nat) (e : TypeId) (k : IntKind) (bytes : Nat) (ht : P.underlying ts = some (.slice e))
    (hinfo : (P.info? e).map (fun i => (i.zero, i.size, i.bytes)) = some (some (.int k 0), 1, bytes)) (v : Value) (zs : List Int) (hs : a.eval s = v) (hown : Own w base e k v zs)
    (B : Nat) (A : Option Addr) (m c : Nat) (xs : List Int) (hx : a.eval x = .slice A m c) (hr : Ints w k B A m xs) (hlen : zs.length + m ≤ 17592186044416) (hby : bytes ≤ 8) (hbase : base ≤ w.heap.size)
    (h : ∀ v' w', Own w' base e k v' (zs ++ xs) → w.grownBy w' v.ownBlock → (v'.ownBlock = v.ownBlock ∨ v'.ownBlock = some w.heap.size) → K (a.put o.dst v') w') : o.wp P a w K Q := by
  obtain ⟨v', w', hrun, h2, h3, h4⟩ := run_append_ints (P := P) w base ts o.type e k bytes ht hinfo v zs hown B A m c xs hr hlen hby hbase
  unfold Oper.wp execOp
  simp only [ho, resolve, invoke, builtin, Sem.run_bind, Sem.run_pure, Result.andThen_ok, List.map_toArray, List.map_cons, List.map_nil, hs, hx, hrun]
  exact h v' w' h2 h3 h4

theorem wpList_append_ints {Q : Exit → Act → World → Prop} (hw : Region.wanted o (yielded ops a.tmps) = true) (s x : Operand) (ts : TypeId)
    (ho : o.op = .call { callee := .builtin .append, args := #[s, x], argTypes := #[ts, ts] }) (base : Nat) (e : TypeId) (k : IntKind) (bytes : Nat) (ht : P.underlying ts = some (.slice e))
    (hinfo : (P.info? e).map (fun i => (i.zero, i.size, i.bytes)) = some (some (.int k 0), 1, bytes)) (v : Value) (zs : List Int) (hs : a.eval s = v) (hown : Own w base e k v zs)
    (B : Nat) (A : Option Addr) (m c : Nat) (xs : List Int) (hx : a.eval x = .slice A m c) (hr : Ints w k B A m xs) (hlen : zs.length + m ≤ 17592186044416) (hby : bytes ≤ 8) (hbase : base ≤ w.heap.size)
    (h : ∀ v' w', Own w' base e k v' (zs ++ xs) → w.grownBy w' v.ownBlock → (v'.ownBlock = v.ownBlock ∨ v'.ownBlock = some w.heap.size) → wpList P ops Q rest (a.put o.dst v') w') :
    wpList P ops Q (o :: rest) a w :=
  wpList_step fun _ hK => by
    rw [if_pos hw]
    exact wp_append_ints w s x ts ho base e k bytes ht hinfo v zs hs hown B A m c xs hx hr hlen hby hbase fun v' w' h2 h3 h4 => hK _ _ (h v' w' h2 h3 h4)

theorem step_append_ints {K : Act → World → Prop} {Q : Exit → Act → World → Prop} {E : Prop} (hgd : o.guard = none) (s x : Operand) (ts : TypeId)
    (ho : o.op = .call { callee := .builtin .append, args := #[s, x], argTypes := #[ts, ts] }) (base : Nat) (e : TypeId) (k : IntKind) (bytes : Nat) (ht : P.underlying ts = some (.slice e))
    (hinfo : (P.info? e).map (fun i => (i.zero, i.size, i.bytes)) = some (some (.int k 0), 1, bytes)) (v : Value) (zs : List Int) (hs : a.eval s = v) (hown : Own w base e k v zs)
    (B : Nat) (A : Option Addr) (m c : Nat) (xs : List Int) (hx : a.eval x = .slice A m c) (hr : Ints w k B A m xs) (hlen : zs.length + m ≤ 17592186044416) (hby : bytes ≤ 8) (hbase : base ≤ w.heap.size)
    (h : ∀ v' w', Own w' base e k v' (zs ++ xs) → w.grownBy w' v.ownBlock → (v'.ownBlock = v.ownBlock ∨ v'.ownBlock = some w.heap.size) → K (a.put o.dst v') w') :
    if Region.wanted o (yielded ops a.tmps) = true then Oper.wp P o a w K Q else E := by
  have hw : Region.wanted o (yielded ops a.tmps) = true := by simp [Region.wanted, hgd]
  rw [if_pos hw]
  exact wp_append_ints w s x ts ho base e k bytes ht hinfo v zs hs hown B A m c xs hx hr hlen hby hbase h
end

/-- append within the room that is there -/
theorem run_append_ints_fits {P : Program} (w : World) (base : Nat) (ts ty e : TypeId) (k : IntKind) (bytes : Nat) (ht : P.underlying ts = some (.slice e))
    (hinfo : (P.info? e).map (fun i => (i.zero, i.size, i.bytes)) = some (some (.int k 0), 1, bytes)) (g cap : Nat) (zs : List Int) (hown : Own w base e k (.slice (some ⟨g, 0, none⟩) zs.length cap) zs)
    (B : Nat) (A : Option Addr) (m c : Nat) (xs : List Int) (hr : Ints w k B A m xs) (hfit : zs.length + m ≤ cap) :
    ∃ w', (Builtin.append_ #[ts, ts] ty #[.slice (some ⟨g, 0, none⟩) zs.length cap, .slice A m c]).run P w = .ok (.slice (some ⟨g, 0, none⟩) (zs.length + m) cap) w' ∧
      Own w' base e k (.slice (some ⟨g, 0, none⟩) (zs.length + m) cap) (zs ++ xs) ∧ w.grownBy w' (some g) := by
  obtain ⟨i, hi, hz, hsz, hb⟩ := info_parts hinfo
  have hwf : ∀ z ∈ zs ++ xs, (Lit.int k z).wf = true := by
    intro z hz'
    rcases List.mem_append.1 hz' with h | h
    · exact hown.1 z h
    · exact hr.2.1 z h
  have hxl := hr.1
  rcases A with _ | ad
  · have hm : m = 0 := by
      rcases Nat.eq_zero_or_pos m with h0 | h0
      · exact h0
      · obtain ⟨_, _, h, _⟩ := hr.2.2 h0
        cases h
    subst hm
    have hx : xs = [] := List.eq_nil_of_length_eq_zero hxl
    subst hx
    refine ⟨w, ?_, by simpa using hown, World.grownBy.refl w _⟩
    simp [Builtin.append_, run_underlying ht, sizeOf, typeInfo, hi, Builtin.lenOf, Builtin.firstCells, show zs.length ≤ cap by omega, storeCells]
  · have hcells : ∀ j u, (xs.map (Value.int k))[j]? = some u → w.cell? (ad.add j) = some u := by
      intro j u hu
      have hj : j < m := by
        have := (List.getElem?_eq_some_iff.1 hu).1
        simp at this
        omega
      obtain ⟨b, off, h, _, hc⟩ := hr.at_ hj
      injection h with h
      subst h
      have e : (Addr.mk b off none).add j = ⟨b, off + j, none⟩ := by unfold Addr.add; split <;> simp_all
      rw [e, hc, ← hu]
      simp [List.getD_eq_getElem?_getD, show j < xs.length by omega]
    obtain ⟨w', hrun, r1, r2⟩ := run_append_fits (P := P) w base ts ty e i 1 ht hi hsz g zs.length cap (zs.map (Value.int k)) hown.2 ad m c (xs.map (Value.int k)) (by simp [hxl]) hcells
      (by intro u hu; obtain ⟨z, _, rfl⟩ := List.mem_map.1 hu; rfl) hfit
    refine ⟨w', hrun, ⟨hwf, ?_⟩, r2⟩
    rw [List.length_append, List.map_append, hxl]
    exact r1

theorem wpList_append_ints_fits {P : Program} (w : World) {ops : Array Oper} {rest : List Oper} {o : Oper} {a : Act} {Q : Exit → Act → World → Prop} (hgd : o.guard = none) (s x : Operand) (ts : TypeId)
    (ho : o.op = .call { callee := .builtin .append, args := #[s, x], argTypes := #[ts, ts] }) (base : Nat) (e : TypeId) (k : IntKind) (bytes : Nat) (ht : P.underlying ts = some (.slice e))
    (hinfo : (P.info? e).map (fun i => (i.zero, i.size, i.bytes)) = some (some (.int k 0), 1, bytes)) (g cap : Nat) (zs : List Int) (hs : a.eval s = .slice (some ⟨g, 0, none⟩) zs.length cap)
    (hown : Own w base e k (.slice (some ⟨g, 0, none⟩) zs.length cap) zs)
    (B : Nat) (A : Option Addr) (m c : Nat) (xs : List Int) (hx : a.eval x = .slice A m c) (hr : Ints w k B A m xs) (hfit : zs.length + m ≤ cap)
    (h : ∀ w', Own w' base e k (.slice (some ⟨g, 0, none⟩) (zs.length + m) cap) (zs ++ xs) → w.grownBy w' (some g) → wpList P ops Q rest (a.put o.dst (.slice (some ⟨g, 0, none⟩) (zs.length + m) cap)) w') :
    wpList P ops Q (o :: rest) a w := by
  refine wpList_plain hgd fun _ hK => ?_
  obtain ⟨w', hrun, h2, h3⟩ := run_append_ints_fits (P := P) w base ts o.type e k bytes ht hinfo g cap zs hown B A m c xs hr hfit
  unfold Oper.wp execOp
  simp only [ho, resolve, invoke, builtin, Sem.run_bind, Sem.run_pure, Result.andThen_ok, List.map_toArray, List.map_cons, List.map_nil, hs, hx, hrun]
  exact hK _ _ (h w' h2 h3)

/-- block g is just the numbers zs -/
def Row (w : World) (g : Nat) (t : TypeId) (k : IntKind) (zs : List Int) : Prop := (∀ z ∈ zs, (Lit.int k z).wf = true) ∧ w.heap[g]? = some (.cells (zs.map (Value.int k)).toArray t (0, 0))
section
variable {w w' : World} {g : Nat} {t : TypeId} {k : IntKind} {zs : List Int}
theorem Row.lt (h : Row w g t k zs) : g < w.heap.size := (Array.getElem?_eq_some_iff.1 h.2).1
theorem Row.cell (h : Row w g t k zs) {i : Nat} (hi : i < zs.length) : w.cell? ⟨g, i, none⟩ = some (.int k (zs.getD i 0)) := by
  rw [cell_of_row w g i _ t (0, 0) h.2]
  simp [List.getD_eq_getElem?_getD, hi]
theorem Row.frozen (h : Row w g t k zs) (i : Nat) : w.frozen? ⟨g, i, none⟩ = false := by simp [World.frozen?, h.2]
theorem Row.below {B : Nat} (h : Row w g t k zs) (hb : Below B w w') (hg : g < B) : Row w' g t k zs := ⟨h.1, (hb.block g hg).trans h.2⟩
theorem Row.grown {row : Option Nat} (h : Row w g t k zs) (hb : w.grownBy w' row) (hg : some g ≠ row) : Row w' g t k zs := ⟨h.1, (hb.block g h.lt hg).trans h.2⟩
theorem Row.ints (h : Row w g t k zs) {n : Nat} (hn : n ≤ zs.length) : Ints w k w.heap.size (some ⟨g, 0, none⟩) n (zs.take n) :=
  ⟨by simp; omega, fun z hz => h.1 z (List.mem_of_mem_take hz), fun _ => ⟨g, 0, rfl, h.lt, fun i hi => by
    rw [Nat.zero_add, h.cell (by omega)]
    simp [List.getD_eq_getElem?_getD, hi]⟩⟩
theorem Row.own (h : Row w g t k zs) {base : Nat} (hb : base ≤ g) {n : Nat} (hn : n ≤ zs.length) (hm : zs.length ≤ maxLen) : Own w base t k (.slice (some ⟨g, 0, none⟩) n zs.length) (zs.take n) := by
  refine ⟨fun z hz => h.1 z (List.mem_of_mem_take hz), by simp, .inr ⟨g, zs.length, _, ?_, hb, h.2, ?_, hm, by simp, ?_⟩⟩
  · congr 1; simp; omega
  · simp; omega
  · simp only [Nat.mul_one]; rw [List.length_take, Nat.min_eq_left hn, List.map_take]
end

/-- block g has cap cells; the first k are those of L -/
def Fill (w : World) (g : Nat) (t : TypeId) (cap : Nat) (L : List Value) (k : Nat) : Prop :=
  ∃ cur : Array Value, w.heap[g]? = some (.cells cur t (0, 0)) ∧ cur.size = cap ∧ cur.toList.take k = L.take k
section
variable {w w' : World} {g : Nat} {t : TypeId} {cap : Nat} {L : List Value} {k : Nat}
theorem Fill.new (w : World) (t : TypeId) (cur : Array Value) (L : List Value) : Fill (w.alloc (.cells cur t)) w.heap.size t cur.size L 0 := ⟨cur, heap_alloc_new w _, rfl, by simp⟩
theorem Fill.lt (h : Fill w g t cap L k) : g < w.heap.size := by obtain ⟨cur, h, _⟩ := h; exact (Array.getElem?_eq_some_iff.1 h).1
theorem Fill.frozen (h : Fill w g t cap L k) (i : Nat) : w.frozen? ⟨g, i, none⟩ = false := by obtain ⟨cur, h, _⟩ := h; simp [World.frozen?, h]
theorem Fill.cell (h : Fill w g t cap L k) {i : Nat} (hi : i < cap) : ∃ u, w.cell? ⟨g, i, none⟩ = some u := by
  obtain ⟨cur, h, hs, _⟩ := h
  rw [cell_of_row w g i _ t (0, 0) h]
  exact ⟨cur[i], Array.getElem?_eq_getElem (by omega)⟩
theorem Fill.read (h : Fill w g t cap L k) {i : Nat} (hi : i < k) {u : Value} (hu : L[i]? = some u) : w.cell? ⟨g, i, none⟩ = some u := by
  obtain ⟨cur, h, hs, e⟩ := h
  rw [cell_of_row w g i _ t (0, 0) h]
  have := congrArg (fun l => l[i]?) e
  simp only [List.getElem?_take, hi, if_true] at this
  rw [hu] at this
  simpa using this
theorem Fill.step (h : Fill w g t cap L k) {u : Value} (hu : L[k]? = some u) (hk : k < cap) : Fill (w.setCell ⟨g, k, none⟩ u) g t cap L (k + 1) := by
  obtain ⟨cur, h, hs, e⟩ := h
  refine ⟨cur.setIfInBounds k u, by simp [World.setCell, Array.getElem?_modify, h], by simpa using hs, ?_⟩
  rw [Array.toList_setIfInBounds, List.take_add_one, List.take_add_one, hu, List.take_set, List.getElem?_set]
  simp only [Array.length_toList, hs, hk, if_true]
  rw [List.set_eq_of_length_le (by simp; omega), e]
theorem Fill.keep (h : Fill w g t cap L k) (hb : w'.heap[g]? = w.heap[g]?) : Fill w' g t cap L k := by
  obtain ⟨cur, h, hs, e⟩ := h
  exact ⟨cur, hb.trans h, hs, e⟩
theorem Fill.done (h : Fill w g t cap L k) (hk : cap ≤ k) (hl : L.length = cap) : w.heap[g]? = some (.cells L.toArray t (0, 0)) := by
  obtain ⟨cur, h, hs, e⟩ := h
  rw [List.take_of_length_le (by simp; omega), List.take_of_length_le (by omega)] at e
  rw [h, ← e]
theorem Own.fill {base n : Nat} {kd : IntKind} {zs : List Int} (h : Own w base t kd (.slice (some ⟨g, 0, none⟩) n cap) zs) {M : List Value} (hM : M.take n = zs.map (Value.int kd)) : Fill w g t cap M n := by
  rcases h.2.2 with ⟨e, _⟩ | ⟨g', cap', cur, e, hb, hg, hnc, hcm, hcs, ht⟩
  · cases e
  · injection e with e1 e2 e3
    injection e1 with e1
    injection e1 with e1
    subst e1
    subst e3
    refine ⟨cur, hg, by simpa using hcs, ?_⟩
    rw [hM, ← ht, e2, Nat.mul_one]
end

/-- bytes that read as a list, as a string -/
theorem run_text {P : Program} (w : World) (src dst e : TypeId) (hs : P.underlying src = some (.slice e)) (he : P.underlying e = some (.int .u8)) (hd : P.underlying dst = some .string)
    (B : Nat) (A : Option Addr) (n c : Nat) (zs : List Int) (h : Ints w .u8 B A n zs) :
    (convert src dst (.slice A n c)).run P w = .ok (.string (strOfNums zs)) w := by
  rcases A with _ | ad
  · have hn : n = 0 := by
      rcases Nat.eq_zero_or_pos n with h0 | h0
      · exact h0
      · obtain ⟨_, _, h, _⟩ := h.2.2 h0
        cases h
    subst hn
    have hz : zs = [] := List.eq_nil_of_length_eq_zero h.1
    subst hz
    rw [run_convert_bytes_string w src dst e none 0 c hs he hd]
    rfl
  · by_cases hn : 0 < n
    · obtain ⟨b, off, e1, _, hc⟩ := h.2.2 hn
      injection e1 with e1
      subst e1
      exact run_convert_bytes_arg w src e hs he b off n c zs h.1 hc dst hd
    · have hn : n = 0 := by omega
      subst hn
      have hz : zs = [] := List.eq_nil_of_length_eq_zero h.1
      subst hz
      rw [run_convert_bytes_string w src dst e (some ad) 0 c hs he hd]
      exact run_bytesToString w ad 0 c [] (by simp [loadCells, loadCellsFrom])

theorem text_inj {xs ys : List Int} (hx : ∀ z ∈ xs, (Lit.int .u8 z).wf = true) (hy : ∀ z ∈ ys, (Lit.int .u8 z).wf = true) : ((strOfNums xs).toList = (strOfNums ys).toList) ↔ xs = ys := by
  constructor
  · intro h1
    rw [ByteArray.toList_eq, ByteArray.toList_eq, strOfNums_data, strOfNums_data] at h1
    have hl : xs.length = ys.length := by simpa using congrArg List.length h1
    apply List.ext_getElem hl
    intro i h2 h3
    have := congrArg (fun l => l[i]?) h1
    simp only [List.getElem?_map, List.getElem?_eq_getElem h2, List.getElem?_eq_getElem h3, Option.map_some, Option.some.injEq] at this
    have bx := wf_u8 (hx _ (List.getElem_mem h2))
    have by' := wf_u8 (hy _ (List.getElem_mem h3))
    have e := congrArg UInt8.toNat this
    simp only [UInt8.toNat_ofNat'] at e
    omega
  · intro h; rw [h]
end Go.Proofs.YtoelgcdjhekafaaDoor.Mem
namespace Go.Proofs.YtoelgcdjhekafaaDoor.Mem
open Go.RowKit
set_option linter.unusedVariables false

/-- numbers as an array by value -/
def arr (k : IntKind) (zs : List Int) : Array Value := (zs.map (Value.int k)).toArray
theorem arr_size (k : IntKind) (zs : List Int) : (arr k zs).size = zs.length := by simp [arr]
theorem arr_get (k : IntKind) (zs : List Int) {i : Nat} (h : i < zs.length) : (arr k zs)[i]? = some (.int k (zs.getD i 0)) := by
  simp [arr, List.getD_eq_getElem?_getD, h]
theorem arr_one (k : IntKind) (zs : List Int) : (arr k zs).all (·.oneCell') = true := by
  rw [Array.all_eq_true_iff_forall_mem]
  intro v hv
  simp only [arr, List.mem_toArray, List.mem_map] at hv
  obtain ⟨z, _, rfl⟩ := hv
  rfl

theorem run_index_arr {P : Program} (t e : TypeId) (n : Nat) (k : IntKind) (zs : List Int) (i : Nat) (w : World) (ht : P.underlying t = some (.array n e)) (hs : (P.info? e).map (·.size) = some 1) (hp : P.plainKey e = true)
    (hn : zs.length = n) (hi : i < n) : (Instr.index t (.agg (arr k zs)) (.int .i64 (i : Int))).run P w = .ok (.int k (zs.getD i 0)) w := by
  have h1 : (0 : Int) ≤ (i : Int) ∧ (i : Int) < (n : Int) := by omega
  have hz : (sizeOf e).run P w = .ok 1 w := by
    cases hq : P.info? e with
    | none => simp [hq] at hs
    | some q => simp [hq] at hs; simp [sizeOf, typeInfo, hq, hs]
  have hpt := run_part_plain (P := P) w hp (xs := arr k zs) (off := i) (arr_get k zs (by omega))
  simp [Instr.index, run_underlying ht, asIntOf, h1, hz, hpt, Sem.run_bind, Result.andThen]
  omega

section
variable {w w' : World} {g : Nat} {t : TypeId} {k : IntKind} {zs : List Int}
theorem Row.set (h : Row w g t k zs) (i : Nat) {z : Int} (hz : (Lit.int k z).wf = true) : Row (w.setCell ⟨g, i, none⟩ (.int k z)) g t k (zs.set i z) := by
  refine ⟨fun y hy => ?_, ?_⟩
  · rcases List.mem_or_eq_of_mem_set hy with h1 | h1
    · exact h.1 y h1
    · rw [h1]; exact hz
  · have hg := h.2
    simp only [World.setCell, Array.getElem?_modify, hg, if_true, Option.map_some, Obj.cells.injEq, Option.some.injEq]
    refine ⟨?_, trivial, trivial⟩
    rw [List.map_set]
    simp
theorem Row.other (h : Row w g t k zs) {p : Addr} (hp : p.block ≠ g) (v : Value) : Row (w.setCell p v) g t k zs := ⟨h.1, (heap_setCell_other w p g v (fun e => hp e.symm)).trans h.2⟩
theorem Row.alloc (h : Row w g t k zs) (o : Obj) : Row (w.alloc o) g t k zs := ⟨h.1, (Below.heap_alloc w o g h.lt).trans h.2⟩
theorem Row.drewN (h : Row w g t k zs) (m : Nat) : Row (w.drewN m) g t k zs := h
theorem Row.new (w : World) (t : TypeId) (hz : ∀ z ∈ zs, (Lit.int k z).wf = true) : Row (w.alloc (.cells (arr k zs) t)) w.heap.size t k zs := ⟨hz, heap_alloc_new w _⟩
theorem Row.setRow {old : List Int} (h : Row w g t k old) (hz : ∀ z ∈ zs, (Lit.int k z).wf = true) : Row (w.setRow g (arr k zs)) g t k zs := ⟨hz, setRow_heap w g _ _ t (0, 0) h.2⟩
theorem Row.setRow_other (h : Row w g t k zs) {g' : Nat} (hg : g' ≠ g) (cs : Array Value) : Row (w.setRow g' cs) g t k zs := ⟨h.1, (Go.setRow_other w g' g cs hg.symm).trans h.2⟩
theorem grown_setRow (w : World) (g : Nat) (cs : Array Value) : w.grownBy (w.setRow g cs) (some g) :=
  ⟨rfl, rfl, rfl, by simp, fun j _ hne => setRow_other w g j cs (fun e => hne (by rw [e]))⟩
end

section
variable {P : Program} {ops : Array Oper} {rest : List Oper} {o : Oper} {a : Act} {w : World} {Q : Exit → Act → World → Prop}
theorem wpList_load_Row (hgd : o.guard = none) (ty : TypeId) (x : Operand) (ho : o.op = .load ty x) (g : Nat) (hx : a.eval x = .pointer (some ⟨g, 0, none⟩)) (t : TypeId) (k : IntKind) (zs : List Int) (hr : Row w g t k zs)
    (n : Nat) (e : TypeId) (hu : P.underlying ty = some (.array n e)) (hi : (P.info? ty).map (·.size) = some n) (hn : zs.length = n)
    (h : wpList P ops Q rest (a.put o.dst (.agg (arr k zs))) w) : wpList P ops Q (o :: rest) a w :=
  wpList_load_row hgd ty x ho g hx t (arr k zs) (0, 0) _ hr.2 hu rfl (by rw [hi, arr_size, hn]) h
theorem wpList_store_Row (hgd : o.guard = none) (ty : TypeId) (x y : Operand) (ho : o.op = .store ty x y) (g : Nat) (hx : a.eval x = .pointer (some ⟨g, 0, none⟩)) (t : TypeId) (k : IntKind) (old zs : List Int) (hy : a.eval y = .agg (arr k zs))
    (hr : Row w g t k old) (n : Nat) (hi : (P.info? ty).map (·.size) = some n) (hn : zs.length = n) (ho' : old.length = n)
    (h : wpList P ops Q rest (a.put o.dst undef) (w.setRow g (arr k zs))) : wpList P ops Q (o :: rest) a w :=
  wpList_store_row hgd ty x y ho g (arr k zs) hx hy t _ hr.2 (by rw [hi, arr_size, hn]) (by simp [arr, ho', hn]) (arr_one k zs) h
end

theorem run_slice_arr_lh {P : Program} (t e : TypeId) (n g l h : Nat) (w : World) (ht : P.underlying t = some (.array n e)) (hs : (P.info? e).map (·.size) = some 1) (hl : l < n) (hh : l ≤ h) (hn : h ≤ n) :
    (Instr.sliceAt t (.pointer (some ⟨g, 0, none⟩)) (some (.int .i64 (l : Int))) (some (.int .i64 (h : Int))) none).run P w = .ok (.slice (some ⟨g, l, none⟩) (h - l) (n - l)) w := by
  have hz : (sizeOf e).run P w = .ok 1 w := by
    cases hq : P.info? e with
    | none => simp [hq] at hs
    | some q => simp [hq] at hs; simp [sizeOf, typeInfo, hq, hs]
  have e0 : ¬ n = l := by omega
  have ea : (Addr.mk g 0 none).add l = ⟨g, l, none⟩ := by unfold Addr.add; split <;> simp_all
  simp [Instr.sliceAt, Instr.sureAddr, run_underlying ht, Instr.sliceBounds, run_sliceBound, hz, Sem.run_bind, Result.andThen, e0, ea, (by omega : (l : Int) ≤ h), (by omega : (h : Int) ≤ n)]
theorem run_slice_arr_l {P : Program} (t e : TypeId) (n g l : Nat) (w : World) (ht : P.underlying t = some (.array n e)) (hs : (P.info? e).map (·.size) = some 1) (hl : l < n) :
    (Instr.sliceAt t (.pointer (some ⟨g, 0, none⟩)) (some (.int .i64 (l : Int))) none none).run P w = .ok (.slice (some ⟨g, l, none⟩) (n - l) (n - l)) w := by
  have hz : (sizeOf e).run P w = .ok 1 w := by
    cases hq : P.info? e with
    | none => simp [hq] at hs
    | some q => simp [hq] at hs; simp [sizeOf, typeInfo, hq, hs]
  have e0 : ¬ n = l := by omega
  have ea : (Addr.mk g 0 none).add l = ⟨g, l, none⟩ := by unfold Addr.add; split <;> simp_all
  simp [Instr.sliceAt, Instr.sureAddr, run_underlying ht, Instr.sliceBounds, run_sliceBound, hz, Sem.run_bind, Result.andThen, e0, ea, (by omega : (l : Int) ≤ n)]

theorem wpList_build_Row {P : Program} {ops : Array Oper} {rest : List Oper} {o : Oper} {a : Act} {w : World} {Q : Exit → Act → World → Prop} (hg : o.guard = none) (t : TypeId) (parts : Array (Nat × Operand)) (ho : o.op = .build t parts) (k : IntKind) (zs : List Int)
    (hf : P.built t (parts.map fun (i, x) => (i, a.eval x)).toList = some (arr k zs)) (h : wpList P ops Q rest (a.put o.dst (.agg (arr k zs))) w) : wpList P ops Q (o :: rest) a w :=
  wpList_build hg t parts ho (by rw [hf]; rfl) (by rw [hf]; exact h)

theorem made_zeros (k : IntKind) (n : Nat) : madeCells #[Value.int k 0] n = arr k (List.replicate n 0) := by
  apply Array.ext
  · simp [madeCells, arr]
  · intro i h1 h2
    simp [madeCells, arr, Nat.mod_one]

theorem wpList_make_Row {P : Program} (w : World) {ops : Array Oper} {rest : List Oper} {o : Oper} {a : Act} {Q : Exit → Act → World → Prop} (hg : o.guard = none) (l c : Operand) (t : TypeId) (hop : o.op = Op.makeSlice t l c)
    (e : TypeId) (k : IntKind) (bytes : Nat) (ht : P.underlying t = some (.slice e)) (hinfo : (P.info? e).map (fun i => (i.zero, i.size, i.bytes)) = some (some (.int k 0), 1, bytes))
    (kl kc : IntKind) (N M : Int) (n : Nat) (hl : a.eval l = .int kl N) (hc : a.eval c = .int kc M) (hN : N = (n : Int)) (hM : M = (n : Int)) (hby : bytes ≤ 8) (hn : n ≤ 17592186044416)
    (hK : ∀ w', Row w' w.heap.size e k (List.replicate n 0) → w.grownBy w' none → w'.heap.size = w.heap.size + 1 → wpList P ops Q rest (a.put o.dst (.slice (some ⟨w.heap.size, 0, none⟩) n n)) w') :
    wpList P ops Q (o :: rest) a w := by
  obtain ⟨i, hi, hz, hs, hb⟩ := info_parts hinfo
  subst hN
  subst hM
  refine wpList_make_row w hg l c t hop e i (.int k 0) ht hi hz hs rfl kl kc n hl hc (by rw [hb]; exact Nat.le_trans (Nat.mul_le_mul hby hn) (by omega)) (by omega) ?_
  refine hK _ ?_ (World.grownBy_alloc w _ none) (by simp)
  rw [made_zeros]
  exact Row.new w e (fun z hz => by rw [List.eq_of_mem_replicate hz]; cases k <;> decide)

theorem results_Row {P : Program} {fn : Func} {p : Tmp} {ty : TypeId} (h : fn.results = #[.cell p ty]) (tmps : Array Value) (w : World) (g : Nat) (t : TypeId) (k : IntKind) (zs : List Int) (hp : tmps.getD p undef = .pointer (some ⟨g, 0, none⟩))
    (hr : Row w g t k zs) (n : Nat) (e : TypeId) (hu : P.underlying ty = some (.array n e)) (hi : (P.info? ty).map (·.size) = some n) (hn : zs.length = n) : (results fn tmps).run P w = .ok (.agg (arr k zs)) w :=
  results_cell_row h tmps w g t (arr k zs) (0, 0) _ hp hr.2 hu rfl (by rw [hi, arr_size, hn])
end Go.Proofs.YtoelgcdjhekafaaDoor.Mem
namespace Go
namespace Proofs.YtoelgcdjhekafaaDoor.Mem

theorem eql_arr {P : Program} (w : World) (t e : TypeId) (n : Nat) (k : IntKind) (zs : List Int) (ht : P.underlying t = some (.array n e)) (he : P.underlying e = some (.int k)) (hs : (P.info? e).map (·.size) = some 1) (hx : zs.length = n) :
    (binOp .eql t (.agg (arr k zs)) (.agg (arr k zs))).run P w = .ok (.bool true) w := by
  obtain ⟨inf, hi, h1⟩ := Option.map_eq_some_iff.1 hs
  have hc : P.cellsOf e = 1 := by simp [Program.cellsOf, hi, h1]
  have key : (Op.equalIn (9998 + 1 + 1) t (.agg (arr k zs)) (.agg (arr k zs))).run P w = .ok true w := by
    rw [run_equalIn_array w (9998 + 1) _ _ ht hi, hc]
    have hl : ∀ i ∈ List.range n, i < n := fun i hi => List.mem_range.1 hi
    generalize List.range n = l at hl ⊢
    induction l with
    | nil => simp [Op.eqItems]
    | cons i l ih =>
      have hi : i < n := hl i (by simp)
      have px : (part e (arr k zs) (i * 1)).run P w = .ok (.int k (zs.getD i 0)) w := by
        have := arr_get k zs (i := i) (by omega)
        simp [part, isAgg, run_underlying he, this]
      have pe : (Op.equalIn (9998 + 1) e (.int k (zs.getD i 0)) (.int k (zs.getD i 0))).run P w = .ok true w := by
        rw [run_equalIn_int w 9998 e k k _ _ he]
        simp
      rw [Op.eqItems]
      simp only [Sem.run_bind, px, pe, Result.andThen_ok, Bool.not_true, Bool.false_eq_true, if_false]
      exact ih fun j hj => hl j (by simp [hj])
  rw [run_eql_struct, show (10000 : Nat) = 9998 + 1 + 1 from rfl, key]
  rfl

end Proofs.YtoelgcdjhekafaaDoor.Mem
end Go
namespace Go.Proofs.YtoelgcdjhekafaaDoor.Mem
open Go.RowKit
set_option linter.unusedVariables false

/-- the slice at A, of n cells, below block B, reads as the list vs -/
def Vals (w : World) (B : Nat) (A : Option Addr) (n : Nat) (vs : List Value) : Prop :=
  vs.length = n ∧ (∀ v ∈ vs, v.oneCell' = true) ∧ (0 < n → ∃ b off, A = some ⟨b, off, none⟩ ∧ b < B ∧ ∀ i, i < n → w.cell? ⟨b, off + i, none⟩ = some (vs.getD i undef))

section
variable {w w' : World} {B B' n : Nat} {A : Option Addr} {vs : List Value}
theorem Vals.nil (w : World) (B : Nat) (A : Option Addr) : Vals w B A 0 [] := ⟨rfl, by simp, fun h => absurd h (by omega)⟩
theorem Vals.keep (h : Vals w B A n vs) (hk : ∀ p : Addr, p.block < B → w'.cell? p = w.cell? p) : Vals w' B A n vs :=
  ⟨h.1, h.2.1, fun hn => by
    obtain ⟨b, off, e, hb, hc⟩ := h.2.2 hn
    exact ⟨b, off, e, hb, fun i hi => (hk ⟨b, off + i, none⟩ hb).trans (hc i hi)⟩⟩
theorem Vals.more (h : Vals w B A n vs) (hB : B ≤ B') : Vals w B' A n vs :=
  ⟨h.1, h.2.1, fun hn => by
    obtain ⟨b, off, e, hb, hc⟩ := h.2.2 hn
    exact ⟨b, off, e, by omega, hc⟩⟩
theorem Vals.below (h : Vals w B A n vs) (hb : Below B w w') : Vals w' B A n vs := h.keep fun _ hp => hb.cell hp
theorem Vals.drewN (h : Vals w B A n vs) (m : Nat) : Vals (w.drewN m) B A n vs := h
theorem Vals.alloc (h : Vals w B A n vs) (hB : B ≤ w.heap.size) (o : Obj) : Vals (w.alloc o) B A n vs := h.keep fun p hp => World.cell?_alloc_lt w o p (by omega)
theorem Vals.at_ (h : Vals w B A n vs) {i : Nat} (hi : i < n) : ∃ b off, A = some ⟨b, off, none⟩ ∧ b < B ∧ w.cell? ⟨b, off + i, none⟩ = some (vs.getD i undef) := by
  obtain ⟨b, off, e, hb, hc⟩ := h.2.2 (by omega)
  exact ⟨b, off, e, hb, hc i hi⟩
end

theorem Vals.new (w : World) (t : TypeId) (vs : List Value) (h1 : ∀ v ∈ vs, v.oneCell' = true) : Vals (w.alloc (.cells vs.toArray t)) (w.heap.size + 1) (some ⟨w.heap.size, 0, none⟩) vs.length vs :=
  ⟨rfl, h1, fun hn => ⟨w.heap.size, 0, rfl, by omega, fun i hi => by
    rw [cell_of_row _ _ _ _ t (0, 0) (heap_alloc_new w _)]
    simp [List.getD_eq_getElem?_getD, hi]⟩⟩

theorem ownsRow_vals {w : World} {base : Nat} {e : TypeId} {A : Option Addr} {n c : Nat} {vs : List Value} (h : w.ownsRow base e 1 (.slice A n c) n vs) (h1 : ∀ v ∈ vs, v.oneCell' = true) : Vals w w.heap.size A n vs := by
  have hl : vs.length = n := by simpa using h.1
  refine ⟨hl, h1, fun hn => ?_⟩
  rcases h.2 with ⟨hv, h0⟩ | ⟨g, cap, cur, hv, hb, hg, hnc, hcm, hcs, ht⟩
  · omega
  · injection hv with e1 e2 e3
    subst e1
    refine ⟨g, 0, rfl, (Array.getElem?_eq_some_iff.1 hg).1, fun i hi => ?_⟩
    have hc := h.cells (g := g) rfl i (vs.getD i undef) (by simp [List.getD_eq_getElem?_getD, show i < vs.length by omega])
    have e : (Addr.mk g 0 none).add i = ⟨g, 0 + i, none⟩ := by unfold Addr.add; split <;> simp_all
    rwa [e] at hc

/-- append, of a list of values (nil or not), onto what the call owns -/
theorem run_append_vals {P : Program} (w : World) (base : Nat) (ts ty e : TypeId) (z : Value) (bytes : Nat) (ht : P.underlying ts = some (.slice e))
    (hinfo : (P.info? e).map (fun i => (i.zero, i.size, i.bytes)) = some (some z, 1, bytes)) (hzc : z.cells.size = 1) (v : Value) (n : Nat) (zs : List Value) (hown : w.ownsRow base e 1 v n zs)
    (B : Nat) (A : Option Addr) (m c : Nat) (xs : List Value) (hr : Vals w B A m xs) (hlen : n + m ≤ 1099511627776) (hby : bytes ≤ 64) (hbase : base ≤ w.heap.size) :
    ∃ v' w', (Builtin.append_ #[ts, ts] ty #[v, .slice A m c]).run P w = .ok v' w' ∧ w'.ownsRow base e 1 v' (n + m) (zs ++ xs) ∧ w.grownBy w' v.ownBlock ∧
      (v'.ownBlock = v.ownBlock ∨ v'.ownBlock = some w.heap.size) := by
  obtain ⟨i, hi, hz, hsz, hb⟩ := info_parts hinfo
  have hxl := hr.1
  rcases A with _ | ad
  · have hm : m = 0 := by
      rcases Nat.eq_zero_or_pos m with h0 | h0
      · exact h0
      · obtain ⟨_, _, h, _⟩ := hr.2.2 h0
        cases h
    subst hm
    have hx : xs = [] := List.eq_nil_of_length_eq_zero hxl
    subst hx
    refine ⟨v, w, ?_, by simpa using hown, World.grownBy.refl w _, .inl rfl⟩
    rcases hown.2 with ⟨rfl, hn0⟩ | ⟨g, cap, cur, rfl, _, _, hnc, _⟩
    · simp [Builtin.append_, run_underlying ht, sizeOf, typeInfo, hi, Builtin.lenOf, Builtin.firstCells]
    · simp [Builtin.append_, run_underlying ht, sizeOf, typeInfo, hi, Builtin.lenOf, Builtin.firstCells, hnc, storeCells]
  · have hcells : ∀ j u, xs[j]? = some u → w.cell? (ad.add j) = some u := by
      intro j u hu
      have hj : j < m := by
        have := (List.getElem?_eq_some_iff.1 hu).1
        omega
      obtain ⟨b, off, h, _, hc⟩ := hr.at_ hj
      injection h with h
      subst h
      have e : (Addr.mk b off none).add j = ⟨b, off + j, none⟩ := by unfold Addr.add; split <;> simp_all
      rw [e, hc, ← hu]
      simp [List.getD_eq_getElem?_getD, show j < xs.length by omega]
    obtain ⟨v', w', hrun, h2, h3, _, h5⟩ := run_append_own_at (P := P) w base ts ty e i z 1 bytes ht hi hz hsz hb hzc (by omega) v n zs hown ad m c
      xs (by simp [hxl]) hcells hr.2.1 (by simp only [maxLen]; omega) (Nat.le_trans (Nat.mul_le_mul hlen hby) (by omega)) hbase
    exact ⟨v', w', hrun, h2, h3, h5⟩

theorem wpList_append_vals {P : Program} (w : World) {ops : Array Oper} {rest : List Oper} {o : Oper} {a : Act} {Q : Exit → Act → World → Prop} (hgd : o.guard = none) (s x : Operand) (ts : TypeId)
    (ho : o.op = .call { callee := .builtin .append, args := #[s, x], argTypes := #[ts, ts] }) (base : Nat) (e : TypeId) (z : Value) (bytes : Nat) (ht : P.underlying ts = some (.slice e))
    (hinfo : (P.info? e).map (fun i => (i.zero, i.size, i.bytes)) = some (some z, 1, bytes)) (hzc : z.cells.size = 1) (v : Value) (n : Nat) (zs : List Value) (hs : a.eval s = v) (hown : w.ownsRow base e 1 v n zs)
    (B : Nat) (A : Option Addr) (m c : Nat) (xs : List Value) (hx : a.eval x = .slice A m c) (hr : Vals w B A m xs) (hlen : n + m ≤ 1099511627776) (hby : bytes ≤ 64) (hbase : base ≤ w.heap.size)
    (h : ∀ v' w', w'.ownsRow base e 1 v' (n + m) (zs ++ xs) → w.grownBy w' v.ownBlock → (v'.ownBlock = v.ownBlock ∨ v'.ownBlock = some w.heap.size) → wpList P ops Q rest (a.put o.dst v') w') :
    wpList P ops Q (o :: rest) a w := by
  obtain ⟨v', w', hrun, h2, h3, h4⟩ := run_append_vals (P := P) w base ts o.type e z bytes ht hinfo hzc v n zs hown B A m c xs hr hlen hby hbase
  exact Lib.wpList_append_run w hgd s x ts ts ho v (.slice A m c) hs hx v' w' hrun (h v' w' h2 h3 h4)

/-- room for n, made of nothing -/
theorem run_grow_nil {P : Program} (w : World) (t tn ty e : TypeId) (z : Value) (bytes : Nat) (kn : IntKind) (ht : P.underlying t = some (.slice e)) (htn : P.underlying tn = some (.int kn))
    (hinfo : (P.info? e).map (fun i => (i.zero, i.size, i.bytes)) = some (some z, 1, bytes)) (hzc : z.cells.size = 1) (n : Nat) (h0 : 0 < n) (hn : n ≤ 1099511627776) (hby : bytes ≤ 64) :
    ∃ cap w', (Builtin.append_ #[t, tn] ty #[.slice none 0 0, .int .i64 (n : Int)]).run P w = .ok (.slice (some ⟨w.heap.size, 0, none⟩) n cap) w' ∧ n ≤ cap ∧ w'.ownsRow w.heap.size e 1 (.slice (some ⟨w.heap.size, 0, none⟩) 0 cap) 0 [] ∧ w.grownBy w' none ∧ cap ≤ maxLen := by
  obtain ⟨i, hi, hz, hsz, hb⟩ := info_parts hinfo
  have hge := grownCap_ge w n 0 e
  have hle := grownCap_le_maxLen w n 0 e (by unfold maxLen; omega)
  have hrun := Lib.run_append_nil_zeros (P := P) w t tn ty e i z .i64 kn ht htn hi hz n h0 (by omega) (by omega) (by rw [hb]; exact Nat.le_trans (Nat.mul_le_mul hn hby) (by omega))
  refine ⟨_, _, hrun, hge, ⟨rfl, .inr ⟨w.heap.size, _, _, rfl, Nat.le_refl _, heap_alloc_new w.drew _, Nat.zero_le _, hle, ?_, rfl⟩⟩, ⟨rfl, rfl, rfl, by simp, fun k hk _ => Below.heap_alloc w.drew _ k hk⟩, hle⟩
  simp only [Array.size_append, size_zeroCells, hzc, Nat.mul_one]
  omega
end Go.Proofs.YtoelgcdjhekafaaDoor.Mem
namespace Go.Proofs.YtoelgcdjhekafaaDoor.Mem
open Go.RowKit
set_option linter.unusedVariables false

theorem zeroCells_one (z : Value) (hz : z.cells = #[z]) (n : Nat) : Builtin.zeroCells z.cells n = (List.replicate n z).toArray := by
  rw [hz]
  apply Array.ext
  · simp [Builtin.zeroCells]
  · intro i h1 h2
    simp [Builtin.zeroCells, Nat.mod_one]

theorem run_append_zeros {P : Program} (w : World) (base : Nat) (ts tn ty e : TypeId) (k kn kq : IntKind) (bytes : Nat) (ht : P.underlying ts = some (.slice e)) (htn : P.underlying tn = some (.int kn))
    (hinfo : (P.info? e).map (fun i => (i.zero, i.size, i.bytes)) = some (some (.int k 0), 1, bytes)) (v : Value) (zs : List Int) (hown : Own w base e k v zs)
    (m : Nat) (hlen : zs.length + m ≤ 17592186044416) (hby : bytes ≤ 8) (hbase : base ≤ w.heap.size) :
    ∃ v' w', (Builtin.append_ #[ts, tn] ty #[v, .int kq (m : Int)]).run P w = .ok v' w' ∧ Own w' base e k v' (zs ++ List.replicate m 0) ∧ w.grownBy w' v.ownBlock ∧ (v'.ownBlock = v.ownBlock ∨ v'.ownBlock = some w.heap.size) := by
  obtain ⟨i, hi, hz, hsz, hb⟩ := info_parts hinfo
  have hw0 : (Lit.int k 0).wf = true := by cases k <;> decide
  have hwf : ∀ z ∈ zs ++ List.replicate m 0, (Lit.int k z).wf = true := fun z hz' => by
    rcases List.mem_append.1 hz' with h | h
    · exact hown.1 z h
    · rw [List.eq_of_mem_replicate h]; exact hw0
  have hzc : (Value.int k 0).cells = #[Value.int k 0] := rfl
  have hwrap : IntKind.i64.wrap (m : Int) = (m : Int) := by rw [IntKind.wrap_i64]; omega
  have hw00 : IntKind.i64.wrap (0 : Int) = 0 := by decide
  have hmb : (m : Int) * (bytes : Int) ≤ 281474976710656 := by
    have h2 : m * bytes ≤ 140737488355328 := Nat.le_trans (Nat.mul_le_mul (by omega : m ≤ 17592186044416) hby) (by decide)
    rw [← Int.natCast_mul]
    omega
  have hll : (zs ++ List.replicate m (0 : Int)).length = zs.length + m := by simp
  -- what the growing arm leaves
  have grown : ∀ (old : Nat), old < zs.length + m → ∀ (row : Option Nat),
      (w.drew.alloc (.cells ((zs.map (Value.int k)).toArray ++ Builtin.zeroCells (Value.int k 0).cells m ++ Builtin.zeroCells (Value.int k 0).cells (grownCap w (zs.length + m) old e - (zs.length + m))) e)).ownsRow base e 1
        (.slice (some ⟨w.heap.size, 0, none⟩) (zs.length + m) (grownCap w (zs.length + m) old e)) (zs.length + m) ((zs ++ List.replicate m 0).map (Value.int k)) ∧
      w.grownBy (w.drew.alloc (.cells ((zs.map (Value.int k)).toArray ++ Builtin.zeroCells (Value.int k 0).cells m ++ Builtin.zeroCells (Value.int k 0).cells (grownCap w (zs.length + m) old e - (zs.length + m))) e)) row := by
    intro old ho row
    have hge := grownCap_ge w (zs.length + m) old e
    have hcm : grownCap w (zs.length + m) old e ≤ maxLen := grownCap_le_maxLen w (zs.length + m) old e (by simp only [maxLen]; omega)
    refine ⟨⟨by simp, .inr ⟨w.heap.size, _, _, rfl, hbase, heap_alloc_new w.drew _, hge, hcm, ?_, ?_⟩⟩, ⟨rfl, rfl, rfl, by simp, fun k hk _ => heap_alloc_old w.drew _ hk⟩⟩
    · simp only [Array.size_append, List.size_toArray, size_zeroCells, hzc, List.length_map, List.size_toArray, List.length_cons, List.length_nil]
      omega
    · rw [zeroCells_one _ hzc m]
      simp only [Array.toList_append, List.append_assoc, List.map_append, List.map_replicate]
      rw [← List.append_assoc, show (zs.length + m) * 1 = (zs.map (Value.int k) ++ List.replicate m (Value.int k 0)).length by simp]
      exact List.take_left
  rcases hown.2.2 with ⟨rfl, h0⟩ | ⟨g, cap, cur, rfl, hbg, hg, hnc, hcm, hcs, htake⟩
  · have hx : zs = [] := List.eq_nil_of_length_eq_zero h0
    subst hx
    by_cases hm : m = 0
    · subst hm
      refine ⟨.slice none 0 0, w, ?_, by simpa using Own.nil w base e k, ⟨rfl, rfl, rfl, Nat.le_refl _, fun _ _ _ => rfl⟩, .inl rfl⟩
      simp [Builtin.append_, run_underlying ht, run_underlying htn, sizeOf, typeInfo, hi, asInt, asIntOf, hw00]
    · have hr := Lib.run_append_nil_zeros (P := P) w ts tn ty e i (.int k 0) kq kn ht htn hi hz m (by omega) (by omega) (by omega) (by rw [hb]; exact Nat.le_trans (Nat.mul_le_mul (by simpa using hlen) hby) (by omega))
      have hgr := grown 0 (by simp; omega) (Value.ownBlock (.slice none 0 0))
      simp only [List.length_nil, Nat.zero_add, List.map_nil, List.nil_append] at hgr hlen ⊢
      have ea : ((#[] : Array Value) ++ Builtin.zeroCells (Value.int k 0).cells m) = Builtin.zeroCells (Value.int k 0).cells m := by simp
      simp only [ea] at hgr
      exact ⟨_, _, hr, ⟨by simpa using hwf, by simpa using hgr.1⟩, hgr.2, .inr rfl⟩
  · by_cases hroom : zs.length + m ≤ cap
    · have hcs' : cur.size = cap := by simpa using hcs
      have hst := run_storeCells_at P g zs.length e (List.replicate m (Value.int k 0)) 0 cur w hg (by simp; omega) (fun v hv => by rw [List.eq_of_mem_replicate hv]; rfl)
      simp only [Nat.add_zero, List.length_replicate] at hst
      have hrun : (Builtin.append_ #[ts, tn] ty #[.slice (some ⟨g, 0, none⟩) zs.length cap, .int kq (m : Int)]).run P w =
          .ok (.slice (some ⟨g, 0, none⟩) (zs.length + m) cap) (w.setRow g (cur.toList.take zs.length ++ List.replicate m (Value.int k 0) ++ cur.toList.drop (zs.length + m)).toArray) := by
        by_cases hm : m = 0
        · subst hm
          have e1 : cur.toList.take zs.length ++ List.replicate 0 (Value.int k 0) ++ cur.toList.drop (zs.length + 0) = cur.toList := by simp
          rw [e1]
          simp only [List.replicate_zero] at hst
          simp [Builtin.append_, run_underlying ht, run_underlying htn, sizeOf, typeInfo, hi, asInt, asIntOf, hw00, hnc, Addr.add_lit, storeCells] at hst ⊢
          first | exact hst | simpa using hst
        · have hmi : ¬ ((m : Int) < 0) := by omega
          have hb2 : ¬ (281474976710656 < (m : Int) * (bytes : Int)) := by omega
          have hmz : ¬ m = 0 := hm
          simp [Builtin.append_, run_underlying ht, run_underlying htn, sizeOf, typeInfo, zeroValue, hi, hz, hsz, hb, asInt, asIntOf, hwrap, hmi, hb2, hmz, hroom, zeroCells_one _ hzc, Addr.add_lit, hst]
      refine ⟨_, _, hrun, ⟨hwf, by rw [hll]; simp, .inr ⟨g, cap, _, by rw [hll], hbg, setRow_heap w g cur _ e _ hg, by rw [hll]; exact hroom, hcm, ?_, ?_⟩⟩, ⟨rfl, rfl, rfl, by simp, fun k _ hk => setRow_other w g k _ (fun e => hk (by simp [Value.ownBlock, e]))⟩, .inl rfl⟩
      · simp only [List.size_toArray, List.length_append, List.length_take, List.length_drop, Array.length_toList, List.length_replicate]
        omega
      · have ht' : cur.toList.take zs.length = zs.map (Value.int k) := by simpa using htake
        rw [ht', hll, show (zs.length + m) * 1 = (zs.map (Value.int k) ++ List.replicate m (Value.int k 0)).length by simp, List.map_append, List.map_replicate]
        exact List.take_left
    · have holds := hown.2.cells (g := g) rfl
      have hf := run_firstCells_some (P := P) w.drew i.size zs.length ⟨g, 0, none⟩ zs.length cap (zs.map (Value.int k)) (by simp [hsz]) (by simpa using holds)
      have hr := Lib.run_append_grow_zeros (P := P) w ts tn ty e i (.int k 0) kq kn ht htn hi hz (some ⟨g, 0, none⟩) zs.length cap _ hf m (by omega) (by omega) (by omega) (by omega)
        (by rw [hb]; exact Nat.le_trans (Nat.mul_le_mul (by omega : m ≤ 17592186044416) hby) (by omega)) (growslice_fits (by omega) (by rw [hb]; exact Nat.le_trans (Nat.mul_le_mul hlen hby) (by omega)))
      have hgr := grown cap (by omega) (Value.ownBlock (.slice (some ⟨g, 0, none⟩) zs.length cap))
      exact ⟨_, _, hr, ⟨hwf, by rw [hll]; exact hgr.1⟩, hgr.2, .inr rfl⟩
end Go.Proofs.YtoelgcdjhekafaaDoor.Mem
namespace Go.Proofs.YtoelgcdjhekafaaDoor.Held
open Go.RowKit Go.Shelf Go.Proofs.YtoelgcdjhekafaaDoor.Mem
set_option linter.unusedVariables false

section
variable {P : Program} {ops : Array Oper} {Q : Exit → Act → World → Prop} {md : Region.Mode} {S : World → Prop}
/-- what yields v in every world that meets S is taken first -/
theorem take (i : Nat) (d : Option Tmp) {oi : Oper} {v : Value} {fuel : Nat} {listed : Array Bool} {a : Act} {w : World} (hi : ops[i]? = some oi) (hd : oi.dst = d)
    (hs : Region.noSelect ops = true) (hf : Region.free md ops listed i = true) (hr : (Region.ready md ops listed).contains i = true)
    (hQ : ∀ c a w, Q (.panic c) (a.put d v) w → Q (.panic c) a w) (hw : Region.wanted oi (yielded ops a.tmps) = true) (hy : ∀ w, S w → (execOp a.eval oi).run P w = .ok (.value v) w) (hS : S w)
    (h : wpAnyH P md ops Q S fuel (listed.setIfInBounds i true) (a.put d v) w) : wpAnyH P md ops Q S (fuel + 1) listed a w := by
  subst hd
  exact wpAnyH_take hi hs hf hr hQ (.inl ⟨hw, hy⟩) hS h
/-- what comes up alone is carried out -/
theorem one (i : Nat) {fuel : Nat} {listed : Array Bool} {a : Act} {w : World} (hr : Region.ready md ops listed = [i])
    (h : wpOp P ops Q i (fun a' w' => S w' ∧ wpAnyH P md ops Q S fuel (listed.setIfInBounds i true) a' w') a w) : wpAnyH P md ops Q S (fuel + 1) listed a w := by
  refine wpAnyH_all hr (by simp) fun j hj => ?_
  obtain rfl := List.mem_singleton.1 hj
  exact h
/-- one of two comes up -/
theorem two (i j : Nat) {fuel : Nat} {listed : Array Bool} {a : Act} {w : World} (hr : Region.ready md ops listed = [i, j])
    (h1 : wpOp P ops Q i (fun a' w' => S w' ∧ wpAnyH P md ops Q S fuel (listed.setIfInBounds i true) a' w') a w) (h2 : wpOp P ops Q j (fun a' w' => S w' ∧ wpAnyH P md ops Q S fuel (listed.setIfInBounds j true) a' w') a w) : wpAnyH P md ops Q S (fuel + 1) listed a w := by
  refine wpAnyH_all hr (by simp) fun k hk => ?_
  rcases List.mem_cons.1 hk with rfl | hk
  · exact h1
  · obtain rfl := List.mem_singleton.1 hk
    exact h2
theorem three (i j k : Nat) {fuel : Nat} {listed : Array Bool} {a : Act} {w : World} (hr : Region.ready md ops listed = [i, j, k])
    (h1 : wpOp P ops Q i (fun a' w' => S w' ∧ wpAnyH P md ops Q S fuel (listed.setIfInBounds i true) a' w') a w) (h2 : wpOp P ops Q j (fun a' w' => S w' ∧ wpAnyH P md ops Q S fuel (listed.setIfInBounds j true) a' w') a w)
    (h3 : wpOp P ops Q k (fun a' w' => S w' ∧ wpAnyH P md ops Q S fuel (listed.setIfInBounds k true) a' w') a w) : wpAnyH P md ops Q S (fuel + 1) listed a w := by
  refine wpAnyH_all hr (by simp) fun l hk => ?_
  rcases List.mem_cons.1 hk with rfl | hk
  · exact h1
  · rcases List.mem_cons.1 hk with rfl | hk
    · exact h2
    · obtain rfl := List.mem_singleton.1 hk
      exact h3
theorem op_wp (i : Nat) {o : Oper} {a : Act} {w : World} {K : Act → World → Prop} (hi : ops[i]? = some o) (hw : Region.wanted o (yielded ops a.tmps) = true) (h : Oper.wp P o a w K Q) : wpOp P ops Q i K a w := by
  unfold wpOp
  simp only [hi, hw, if_true]
  exact .inl h
theorem op_call (i : Nat) (d : Option Tmp) {o : Oper} {a : Act} {w : World} {K : Act → World → Prop} (f : FuncId) (vals : Array Value) {xs : Array Operand} {ts : Array TypeId} {R : Ending → World → Prop} (hi : ops[i]? = some o) (hd : o.dst = d) (hw : Region.wanted o (yielded ops a.tmps) = true)
    (ho : o.op = .call { callee := .value (.func f), args := xs, argTypes := ts }) (he : Enters P f) (hv : xs.map a.eval = vals)
    (hc : Calls P f vals w R)
    (h : ∀ e w', R e w' → ∃ v, e = .returned v ∧ K (a.put d v) w') : wpOp P ops Q i K a w := by
  subst hd
  refine op_wp i hi hw ?_
  have hrun : (execOp a.eval o).run P w = .ok (.enter f vals) w := by
    unfold execOp
    simp only [ho, resolve, Act.eval, Deferred.ofValue, Sem.run_bind, Sem.run_pure, Result.andThen_ok, invoke, Array.empty_append, Array.append_empty, hv]
    exact he _ _
  unfold Oper.wp
  rw [hrun, Oper.upon_enter]
  refine hc.mono fun e w' hR => ?_
  obtain ⟨v, rfl, hW⟩ := h e w' hR
  exact hW
/-- a new list of values of one cell each -/
theorem op_build (i : Nat) (d : Option Tmp) {o : Oper} {a : Act} {w : World} {K : Act → World → Prop} (t e : TypeId) (len : Nat) {parts : Array (Nat × Operand)} (z : Value) (bytes : Nat) (vs : List Value) (hi : ops[i]? = some o) (hd : o.dst = d) (hw : Region.wanted o (yielded ops a.tmps) = true)
    (ho : o.op = .buildSlice t len parts) (hu : P.underlying t = some (.slice e)) (hinfo : (P.info? e).map (fun i => (i.zero, i.size, i.bytes)) = some (some z, 1, bytes))
    (hp : (parts.map fun (i, x) => (i, a.eval x)).toList = (vs.zipIdx 0).map fun x => (x.2, x.1)) (h1 : ∀ v ∈ vs, v.cells = #[v]) (h2 : ∀ v ∈ vs, v.oneCell' = true) (hl : vs.length = len) (h0 : 0 < len) (hlen : len ≤ 1000)
    (h : ∀ p w', Vals w' w'.heap.size (some ⟨p, 0, none⟩) len vs → Below w.heap.size w w' → K (a.put d (.slice (some ⟨p, 0, none⟩) len len)) w') : wpOp P ops Q i K a w := by
  subst hd
  subst hl
  refine op_wp i hi hw ?_
  obtain ⟨ie, hie, hz, hsz, _⟩ := info_parts hinfo
  refine Go.wp_buildSlice t e vs.length parts ho vs.toArray ie z hu hie hz (by rw [hsz]; omega) (by rw [hsz]; omega) ?_ (h _ _ ((Vals.new w e vs h2).more (by simp)) ((Below.refl _ w).alloc (Nat.le_refl _) _))
  rw [hp]
  simp only [hsz]
  exact Go.Great.fill_flat vs _ h1 (by simp)
/-- append(s, make([]T, m)...) onto what the call owns -/
theorem op_append_zeros (i : Nat) (d : Option Tmp) {o : Oper} {a : Act} {w : World} {K : Act → World → Prop} {s x : Operand} (ts tn : TypeId) (hi : ops[i]? = some o) (hd : o.dst = d) (hw : Region.wanted o (yielded ops a.tmps) = true)
    (ho : o.op = .call { callee := .builtin .append, args := #[s, x], argTypes := #[ts, tn] }) (base : Nat) (e : TypeId) (k kn kq : IntKind) (bytes : Nat) (ht : P.underlying ts = some (.slice e)) (htn : P.underlying tn = some (.int kn))
    (hinfo : (P.info? e).map (fun i => (i.zero, i.size, i.bytes)) = some (some (.int k 0), 1, bytes)) (v : Value) (zs : List Int) (m : Nat) (hs : a.eval s = v) (hx : a.eval x = .int kq (m : Int)) (hown : Mem.Own w base e k v zs)
    (hlen : zs.length + m ≤ 17592186044416) (hby : bytes ≤ 8) (hbase : base ≤ w.heap.size)
    (h : ∀ v' w', Mem.Own w' base e k v' (zs ++ List.replicate m 0) → w.grownBy w' v.ownBlock → K (a.put d v') w') : wpOp P ops Q i K a w := by
  subst hd
  refine op_wp i hi hw ?_
  obtain ⟨v', w', hrun, h2, h3, _⟩ := run_append_zeros (P := P) w base ts tn o.type e k kn kq bytes ht htn hinfo v zs hown m hlen hby hbase
  exact Lib.wp_append_run w s x ts tn ho v _ hs hx v' w' hrun (h v' w' h2 h3)
theorem op_store_Row (i : Nat) (d : Option Tmp) {o : Oper} {a : Act} {w : World} {K : Act → World → Prop} (ty : TypeId) {x y : Operand} (g : Nat) (t : TypeId) (k : IntKind) (old zs : List Int) (hi : ops[i]? = some o) (hd : o.dst = d) (hw : Region.wanted o (yielded ops a.tmps) = true)
    (ho : o.op = .store ty x y) (hx : a.eval x = .pointer (some ⟨g, 0, none⟩)) (hy : a.eval y = .agg (arr k zs)) (hrow : Row w g t k old) (n : Nat) (hsz : (P.info? ty).map (·.size) = some n) (hn : zs.length = n) (ho' : old.length = n)
    (h : K (a.put d undef) (w.setRow g (arr k zs))) : wpOp P ops Q i K a w := by
  subst hd
  refine op_wp i hi hw ?_
  unfold Oper.wp execOp
  simp only [ho, hx, hy, Instr.storeAt, Instr.sureAddr, Sem.run_bind, Sem.run_pure, Result.andThen_ok, run_storeVar_row w g t ty _ (arr k zs) hrow.2 (by rw [hsz, arr_size, hn]) (by simp [arr, ho', hn]) (arr_one k zs)]
  exact h

variable {ρ : Operand → Value} {o : Oper}
theorem y_move {x : Operand} {v : Value} (ho : o.op = .move x) (hv : ρ x = v) : ∀ w, S w → (execOp ρ o).run P w = .ok (.value v) w := fun w _ => by simp [execOp, ho, hv]
theorem y_assign {x : Operand} {v : Value} (ho : o.op = .assign x) (hv : ρ x = v) : ∀ w, S w → (execOp ρ o).run P w = .ok (.value v) w := fun w _ => by simp [execOp, ho, hv]
theorem y_pick {c x y : Operand} {v : Value} (ho : o.op = .pick c x y) (hc : ρ c = .bool true) (hv : ρ x = v) : ∀ w, S w → (execOp ρ o).run P w = .ok (.value v) w := fun w _ => by simp [execOp, ho, hv, hc, asBool]
theorem y_slice {t : TypeId} {x : Operand} {lo hi mx : Option Operand} {v : Value} (ho : o.op = .slice t x lo hi mx) (hr : ∀ w, (Instr.sliceAt t (ρ x) (lo.map ρ) (hi.map ρ) (mx.map ρ)).run P w = .ok v w) : ∀ w, S w → (execOp ρ o).run P w = .ok (.value v) w :=
  fun w _ => by simp [execOp, ho, hr w]
theorem y_bin {op : BinOp} {t ty : TypeId} {x y : Operand} {u v r : Value} (ho : o.op = .binOp op t x y ty) (hx : ρ x = u) (hy : ρ y = v) (hg : ∀ w, (eqGuard op t x y u v).run P w = .ok () w) (hr : ∀ w, (binOp op t u v).run P w = .ok r w) : ∀ w, S w → (execOp ρ o).run P w = .ok (.value r) w :=
  fun w _ => by simp [execOp, ho, hx, hy, hg w, hr w]
/-- two arrays of the same numbers -/
theorem y_eql {t e ty : TypeId} {x y : Operand} {k : IntKind} {zs : List Int} {n : Nat} (ho : o.op = .binOp .eql t x y ty) (hx : ρ x = .agg (arr k zs)) (hy : ρ y = .agg (arr k zs)) (hq : P.eqGuardType P.depth t = false) (ht : P.underlying t = some (.array n e)) (he : P.underlying e = some (.int k)) (hs : (P.info? e).map (·.size) = some 1) (hn : zs.length = n) :
    ∀ w, S w → (execOp ρ o).run P w = .ok (.value (.bool true)) w := y_bin ho hx hy (fun w => by simp [eqGuard, hq]) (fun w => eql_arr w t e n k zs ht he hs hn)
theorem y_load_Row {ty : TypeId} {x : Operand} {g n : Nat} {t e : TypeId} {k : IntKind} {zs : List Int} (ho : o.op = .load ty x) (hx : ρ x = .pointer (some ⟨g, 0, none⟩)) (hu : P.underlying ty = some (.array n e)) (hi : (P.info? ty).map (·.size) = some n) (hn : zs.length = n)
    (hr : ∀ w, S w → Row w g t k zs) : ∀ w, S w → (execOp ρ o).run P w = .ok (.value (.agg (arr k zs))) w := fun w hw => by
  simp only [execOp, ho, hx, Instr.loadAt, Instr.sureAddr, Sem.run_bind, Sem.run_pure, Result.andThen_ok, run_loadVar_row w g t ty (arr k zs) (0, 0) _ (hr w hw).2 hu rfl (by rw [hi, arr_size, hn])]
end
section
variable {P : Program} {S : World → Prop} {ρ : Operand → Value} {o : Oper}
theorem y_int {op : BinOp} {t ty : TypeId} {x y : Operand} {k : IntKind} {a b r : Int} (ho : o.op = .binOp op t x y ty) (hx : ρ x = .int k a) (hy : ρ y = .int k b) (hr : ∀ w : World, (binOp op t (.int k a) (.int k b)).run P w = .ok (.int k r) w) :
    ∀ w, S w → (execOp ρ o).run P w = .ok (.value (.int k r)) w := y_bin ho hx hy (fun w => by cases op <;> simp [eqGuard]) hr
theorem run_quo (t : TypeId) (k : IntKind) {a b r : Int} (hb : b ≠ 0) (hr : k.wrap (a.tdiv b) = r) (w : World) : (binOp .quo t (.int k a) (.int k b)).run P w = .ok (.int k r) w := by simp [binOp, Op.intDiv, hb, hr]
theorem run_rem (t : TypeId) (k : IntKind) {a b r : Int} (hb : b ≠ 0) (hr : a.tmod b = r) (w : World) : (binOp .rem t (.int k a) (.int k b)).run P w = .ok (.int k r) w := by simp [binOp, Op.intDiv, hb, hr]
theorem run_sub (t : TypeId) (k : IntKind) {a b r : Int} (hr : k.wrap (a - b) = r) (w : World) : (binOp .sub t (.int k a) (.int k b)).run P w = .ok (.int k r) w := by simp [binOp, Op.intArith, hr]
theorem run_add (t : TypeId) (k : IntKind) {a b r : Int} (hr : k.wrap (a + b) = r) (w : World) : (binOp .add t (.int k a) (.int k b)).run P w = .ok (.int k r) w := by simp [binOp, Op.intArith, hr]
theorem y_convert {src dst : TypeId} {x : Operand} {k k' : IntKind} {a r : Int} (ho : o.op = .convert src dst x) (hx : ρ x = .int k a) (hs : (P.underlying src).isSome = true) (hd : P.underlying dst = some (.int k')) (hr : k'.wrap a = r) :
    ∀ w, S w → (execOp ρ o).run P w = .ok (.value (.int k' r)) w := fun w _ => by
  have h := run_convert_int (P := P) w src dst k a hs
  have e : P.intKind dst = k' := by simp [Program.intKind, hd]
  simp [execOp, ho, hx, h, hd, hr, e]
theorem y_len {t : TypeId} {x : Operand} {A : Option Addr} {n c : Nat} (ho : o.op = .call { callee := .builtin .len, args := #[x], argTypes := #[t] }) (hx : ρ x = .slice A n c) (ht : P.underlying t = some (.slice (P.elem t))) :
    ∀ w, S w → (execOp ρ o).run P w = .ok (.value (.int .i64 (n : Int))) w := fun w _ => by
  have h := run_len_slice (P := P) w t o.type A n c ht
  unfold execOp
  simp [ho, resolve, invoke, builtin, hx, h, goInt]
end
/-- an operation over numbers, by what it runs to -/
theorem y_run {P : Program} {S : World → Prop} {ρ : Operand → Value} {o : Oper} {v : Value} (h : ∀ w, (execOp ρ o).run P w = .ok (.value v) w) : ∀ w, S w → (execOp ρ o).run P w = .ok (.value v) w := fun w _ => h w
end Go.Proofs.YtoelgcdjhekafaaDoor.Held
namespace Go.Proofs.YtoelgcdjhekafaaDoor.Range
open Go.RowKit
set_option linter.unusedVariables false

/-- what is said does not mind a change of whatever lies at B or beyond -/
def Far {β : Type} (B : Nat) (J : β → World → Prop) : Prop :=
  ∀ s W W' row, J s W → W.grownBy W' row → (∀ r, row = some r → B ≤ r) → J s W'

theorem Far.alloc {β : Type} {B : Nat} {J : β → World → Prop} (h : Far B J) {s : β} {W : World} (o : Obj) (hs : J s W) : J s (W.alloc o) :=
  h s W _ none hs (World.grownBy_alloc W o none) (fun r e => by cases e)
theorem Far.put {β : Type} {B : Nat} {J : β → World → Prop} (h : Far B J) {s : β} {W : World} {l : Nat} (o : Obj) (hs : J s W) (hl : B ≤ l) : J s (W.putObj l o) :=
  h s W _ (some l) hs (grownBy_putObj' W l o) (fun r e => by cases e; exact hl)
theorem Far.below {β : Type} {B : Nat} {J : β → World → Prop} (h : Far B J) {s : β} {W W' : World} (hs : J s W) (hb : Below B W W') (hB : B ≤ W.heap.size) (hone : ∃ r, B ≤ r ∧ W.grownBy W' (some r)) : J s W' := by
  obtain ⟨r, hr, hg⟩ := hone
  exact h s W W' (some r) hs hg (fun q e => by cases e; exact hr)

/-- the iterator hands out just xs, one by one; Kp: what a round keeps -/
def SeqFar {α : Type} (F : Fence) (n : Nat) (P : Program) (g : Nat) (lb : Array Value) (encs : α → Array Value) (Kp : World → World → Prop) (xs : List α) (w : World) : Prop :=
  ∀ (l : Nat) (J : List α → World → Prop) (W : World), Below w.heap.size w W → Far W.heap.size J →
    (∀ pre x W1, J pre W1 → (pre ++ [x]) <+: xs → YieldAt F (n - 1) P l (encs x) W1 fun e W' => e = .returned (.bool true) ∧ J (pre ++ [x]) W' ∧ Kp W1 W') →
    J [] W → CallsIn F n P g (#[.func (.yield l) #[] #[]] ++ lb) W fun e W' => (∃ v, e = .returned v) ∧ J xs W'

/-- how a round's body ends: it goes on -/
def goesOn (R : World → Prop) : Exit → Act → World → Prop
  | .normal, _, W' => R W'
  | _, _, _ => False

variable {F : Fence} {n : Nat} {P : Program}

theorem wpIn_rangeFunc_far {α : Type} {g : Operand} {ps : Array Tmp} {assign body : Code} {Q : Exit → Act → World → Prop} {a : Act} {w : World}
    (hro : F.round = none) (h1 : 1 ≤ n) {gf : Nat} {lb : Array Value} (hg : a.eval g = .func (.func gf) #[] lb) (hFg : F.fn gf) (eg : ∀ args w, (callFunc gf args).run P w = .ok (.enter gf args) w)
    {encs : α → Array Value} {Kp : World → World → Prop} {xs : List α} {w0 : World} (hseq : SeqFar F (n - 1) P gf lb encs Kp xs w0)
    (hKt : ∀ {A B C : World}, Kp A B → Kp B C → Kp A C) (hKb : ∀ (W : World) (l : Nat) (o o' : Obj), w.heap.size ≤ l → W.heap[l]? = some o → o.isCells = false → o.isWalk = false → Kp W (W.putObj l o'))
    (hb0 : Below w0.heap.size w0 w) (hps : ∀ x, (encs x).size = ps.size)
    (I : List α → World → Prop) (hI : Far w.heap.size I) (h0 : I [] w)
    (Ib : α → Act → List α → World → Prop) (hIb : ∀ x a', OwnFrom w.heap.size (Ib x a'))
    (hassign : ∀ (l : Nat) (pre : List α) (x : α) (W : World) (K : Act → World → Prop), I pre W → (pre ++ [x]) <+: xs → w.heap.size ≤ W.heap.size → (∀ a' W', KeepsOthers W W' → Kp W W' → Ib x a' pre W' → K a' W') →
      assign.wpIn (F.inRound l) (n - 1 - 1) P (Exit.then K (fun _ _ _ => False)) { tmps := (ps.zip (encs x)).foldl (fun t (p, v) => t.setIfInBounds p v) a.tmps, defers := [] } W)
    (hbody : ∀ (l : Nat) (pre : List α) (x : α) (a' : Act) (W : World), Ib x a' pre W → (pre ++ [x]) <+: xs → w.heap.size ≤ W.heap.size →
      body.wpIn (F.inRound l) (n - 1 - 1) P (goesOn fun W' => KeepsOthers W W' ∧ Kp W W' ∧ I (pre ++ [x]) W') a' W)
    (hdone : ∀ (D : Nat) (W : World), w.heap.size ≤ D → I xs W → W.heap[D]? = some (.deferred (some [])) → Q .normal { a with defers := { target := .collected D, args := #[] } :: a.defers } W) :
    (Code.rangeFunc g ps assign body).wpIn F n P Q a w := by
  refine wpIn_rangeFunc fun fn hfn => ?_
  rw [hro]
  -- the record of the loop, and the block of the rounds' deferred calls, behind all that lay
  let rec0 : LoopState → Loop := fun st => { state := st, pending := none, fn := fn, tmps := a.tmps, params := ps, assign := assign, body := body, defers := w.heap.size }
  let W1 : World := (w.alloc (.deferred (some []))).alloc (.loop (rec0 .ready))
  have hz1 : W1.heap.size = w.heap.size + 2 := by simp [W1]
  have hl1 : W1.heap[w.heap.size + 1]? = some (.loop (rec0 .ready)) := by
    have e := World.alloc_heap_new (w.alloc (.deferred (some []))) (.loop (rec0 .ready))
    rwa [World.size_alloc] at e
  have hd1 : W1.heap[w.heap.size]? = some (.deferred (some [])) := (Below.heap_alloc _ _ _ (by simp)).trans (World.alloc_heap_new w _)
  have hi1 : I [] W1 := hI.alloc _ (hI.alloc _ h0)
  have hb1 : Below w0.heap.size w0 W1 := hb0.trans ((((Below.refl _ w).alloc (Nat.le_refl _) _).alloc (by simp) _).mono hb0.size)
  refine ⟨w.heap.size + 1, [{ target := .collected w.heap.size, args := #[] }], W1, { target := .fn (.func gf) lb, args := #[.func (.yield (w.heap.size + 1)) #[] #[]] }, W1, gf,
    #[.func (.yield (w.heap.size + 1)) #[] #[]] ++ lb, W1, run_enterLoop_outer _ _ _ _ _, by simp only [resolve, hg]; simp [go_sem],
    fun f' hf' => by simp [Target.leads] at hf'; subst hf'; exact hFg, by simp [invoke, go_sem, eg], fun _ => h1, ?_⟩
  have kept : ∀ {A B : World} {row : Option Nat} (i : Nat) (o : Obj), i < W1.heap.size → A.heap[i]? = some o → A.grownBy B row → (∀ r, row = some r → W1.heap.size ≤ r) → B.heap[i]? = some o := by
    intro A B row i o hi ho hg' hr
    exact (hg'.block i (Array.getElem?_eq_some_iff.1 ho).1 (fun e => by have := hr i e.symm; omega)).trans ho
  refine (hseq (w.heap.size + 1) (fun pre W => I pre W ∧ W.heap[w.heap.size + 1]? = some (.loop (rec0 .ready)) ∧ W.heap[w.heap.size]? = some (.deferred (some []))) W1 hb1
    (fun s A B row hs hg' hr => ⟨hI s A B row hs.1 hg' (fun r e => by have := hr r e; omega), kept _ _ (by omega) hs.2.1 hg' hr, kept _ _ (by omega) hs.2.2 hg' hr⟩) ?_ ⟨hi1, hl1, hd1⟩).mono ?_
  · -- a round
    rintro pre x W ⟨hi, hl, hd⟩ hpre
    have hlt : w.heap.size + 1 < W.heap.size := (Array.getElem?_eq_some_iff.1 hl).1
    have hy := run_yield (P := P) (args := encs x) hl (hps x)
    refine ⟨fn, _, assign, body, hy, roundIn_of_wpIn hfn (hassign _ pre x W _ hi hpre (by omega) ?_)⟩
    intro a' W2 hk2 hp2 hib
    have hl2 := hk2.same _ _ hl rfl
    have hd2 := hk2.same _ _ hd rfl
    have hlt2 : w.heap.size + 1 < W2.heap.size := (Array.getElem?_eq_some_iff.1 hl2).1
    refine ⟨_, run_beginRound hl2 rfl, ?_⟩
    have hl3 : (W2.putObj (w.heap.size + 1) (.loop { rec0 .ready with state := .busy })).heap[w.heap.size + 1]? = some (.loop { rec0 .ready with state := .busy }) := World.putObj_heap_same hlt2
    have hd3 : (W2.putObj (w.heap.size + 1) (.loop { rec0 .ready with state := .busy })).heap[w.heap.size]? = some (.deferred (some [])) := (World.putObj_heap_other (by omega)).trans hd2
    have hp3 : Kp W (W2.putObj (w.heap.size + 1) (.loop { rec0 .ready with state := .busy })) := hKt hp2 (hKb _ _ _ _ (by omega) hl2 rfl rfl)
    refine wpIn_mono (hbody _ pre x a' _ ((hIb x a').putObj _ hib (by omega) hl2 rfl) hpre (by rw [World.putObj_size]; omega)) ?_
    intro e a3 W4 hp
    cases e with
    | normal =>
      obtain ⟨hk4, hp4, hi4⟩ := hp
      have hl4 := hk4.same _ _ hl3 rfl
      have hlt4 : w.heap.size + 1 < W4.heap.size := (Array.getElem?_eq_some_iff.1 hl4).1
      refine ⟨_, _, run_endRound (P := P) none hl4, rfl, ⟨hI.put _ hi4 (by omega), World.putObj_heap_same hlt4, (World.putObj_heap_other (by omega)).trans (hk4.same _ _ hd3 rfl)⟩, ?_⟩
      exact hKt (hKt hp3 hp4) (hKb _ _ _ _ (by omega) hl4 rfl rfl)
    | ret => exact hp.elim
    | exit id => exact hp.elim
    | goto t => exact hp.elim
    | panic ch => exact hp.elim
    | outgrown => exact hp.elim
  · -- behind the iterator
    rintro e W2 ⟨⟨v, rfl⟩, hi, hl, hd⟩
    refine ⟨none, _, run_endLoop (P := P) hl (by simp [rec0]), ?_⟩
    exact hdone _ _ (Nat.le_refl _) (hI.put _ hi (by omega)) ((World.putObj_heap_other (by omega)).trans hd)
end Go.Proofs.YtoelgcdjhekafaaDoor.Range
namespace Go.Proofs.YtoelgcdjhekafaaDoor.Range
open Go.RowKit
set_option linter.unusedVariables false

/-- the iterator hands out at_ 0, at_ 1, ..: till at_ has no more, or it is told to stop; Kp: what a round that goes on keeps; N: no round is come to from there on -/
def SeqStop {α : Type} (F : Fence) (n : Nat) (P : Program) (g : Nat) (lb : Array Value) (encs : α → Array Value) (Kp : World → World → Prop) (at_ : Nat → Option α) (w : World) : Prop :=
  ∀ (l : Nat) (J Jx : Nat → World → Prop) (N : Nat) (W : World), Below w.heap.size w W → Far W.heap.size J → Far W.heap.size Jx → (∀ k W1, J k W1 → k < N) →
    (∀ k x W1, J k W1 → at_ k = some x → YieldAt F (n - 1) P l (encs x) W1 fun e W' =>
      (e = .returned (.bool true) ∧ J (k + 1) W' ∧ Kp W1 W') ∨ (e = .returned (.bool false) ∧ Jx (k + 1) W')) →
    J 0 W → CallsIn F n P g (#[.func (.yield l) #[] #[]] ++ lb) W fun e W' => (∃ v, e = .returned v) ∧ ((∃ k, at_ k = none ∧ J k W') ∨ ∃ k, Jx k W')

theorem SeqStop.inRound {α : Type} {F : Fence} {n : Nat} {P : Program} {g : Nat} {lb : Array Value} {encs : α → Array Value} {Kp : World → World → Prop} {at_ : Nat → Option α} {w : World} (l : Nat)
    (h : SeqStop F n P g lb encs Kp at_ w) : SeqStop (F.inRound l) n P g lb encs Kp at_ w := h

/-- how a round's body ends: it goes on, or leaves by some jump -/
def stopPost (R : World → Prop) (X : Code → World → Prop) : Exit → Act → World → Prop
  | .normal, _, W' => R W'
  | .ret, _, W' => X .ret W'
  | .exit id, _, W' => X (.exit id) W'
  | .goto t, _, W' => X (.goto t) W'
  | _, _, _ => False

variable {F : Fence} {n : Nat} {P : Program}

theorem wpIn_rangeFunc_stop {α : Type} {g : Operand} {ps : Array Tmp} {assign body : Code} {Q : Exit → Act → World → Prop} {a : Act} {w : World}
    (hro : F.round = none) (h1 : 1 ≤ n) {gf : Nat} {lb : Array Value} (hg : a.eval g = .func (.func gf) #[] lb) (hFg : F.fn gf) (eg : ∀ args w, (callFunc gf args).run P w = .ok (.enter gf args) w)
    {encs : α → Array Value} {Kp : World → World → Prop} {at_ : Nat → Option α} {w0 : World} (hseq : SeqStop F (n - 1) P gf lb encs Kp at_ w0)
    (hKt : ∀ {A B C : World}, Kp A B → Kp B C → Kp A C) (hKb : ∀ (W : World) (l : Nat) (o o' : Obj), w.heap.size ≤ l → W.heap[l]? = some o → o.isCells = false → o.isWalk = false → Kp W (W.putObj l o'))
    (hb0 : Below w0.heap.size w0 w) (hps : ∀ x, (encs x).size = ps.size)
    (N : Nat) (I : Nat → World → Prop) (Ix : Code → Nat → World → Prop) (hI : Far w.heap.size I) (hIx : ∀ c, Far w.heap.size (Ix c)) (hN : ∀ k W, I k W → k < N) (h0 : I 0 w)
    (Ib : α → Act → Nat → World → Prop) (hIb : ∀ x a', OwnFrom w.heap.size (Ib x a'))
    (hassign : ∀ (l k : Nat) (x : α) (W : World) (K : Act → World → Prop), I k W → at_ k = some x → w.heap.size ≤ W.heap.size → (∀ a' W', KeepsOthers W W' → Kp W W' → Ib x a' k W' → K a' W') →
      assign.wpIn (F.inRound l) (n - 1 - 1) P (Exit.then K (fun _ _ _ => False)) { tmps := (ps.zip (encs x)).foldl (fun t (p, v) => t.setIfInBounds p v) a.tmps, defers := [] } W)
    (hbody : ∀ (l k : Nat) (x : α) (a' : Act) (W : World), w.heap.size ≤ l → (∃ r, W.heap[l]? = some (.loop r)) → Ib x a' k W → at_ k = some x → w.heap.size ≤ W.heap.size →
      body.wpIn (F.inRound l) (n - 1 - 1) P (stopPost (fun W' => KeepsOthers W W' ∧ Kp W W' ∧ I (k + 1) W') (fun c W' => KeepsOthers W W' ∧ Ix c (k + 1) W')) a' W)
    (hdone : ∀ (D k : Nat) (W : World), w.heap.size ≤ D → at_ k = none → I k W → W.heap[D]? = some (.deferred (some [])) → Q .normal { a with defers := { target := .collected D, args := #[] } :: a.defers } W)
    (hstop : ∀ (D : Nat) (c : Code) (k : Nat) (W : World), w.heap.size ≤ D → Ix c k W → W.heap[D]? = some (.deferred (some [])) → c.wpIn F n P Q { a with defers := { target := .collected D, args := #[] } :: a.defers } W) :
    (Code.rangeFunc g ps assign body).wpIn F n P Q a w := by
  refine wpIn_rangeFunc fun fn hfn => ?_
  rw [hro]
  let rec0 : LoopState → Option Code → Loop := fun st pe => { state := st, pending := pe, fn := fn, tmps := a.tmps, params := ps, assign := assign, body := body, defers := w.heap.size }
  let W1 : World := (w.alloc (.deferred (some []))).alloc (.loop (rec0 .ready none))
  have hz1 : W1.heap.size = w.heap.size + 2 := by simp [W1]
  have hl1 : W1.heap[w.heap.size + 1]? = some (.loop (rec0 .ready none)) := by
    have e := World.alloc_heap_new (w.alloc (.deferred (some []))) (.loop (rec0 .ready none))
    rwa [World.size_alloc] at e
  have hd1 : W1.heap[w.heap.size]? = some (.deferred (some [])) := (Below.heap_alloc _ _ _ (by simp)).trans (World.alloc_heap_new w _)
  have hi1 : I 0 W1 := hI.alloc _ (hI.alloc _ h0)
  have hb1 : Below w0.heap.size w0 W1 := hb0.trans ((((Below.refl _ w).alloc (Nat.le_refl _) _).alloc (by simp) _).mono hb0.size)
  refine ⟨w.heap.size + 1, [{ target := .collected w.heap.size, args := #[] }], W1, { target := .fn (.func gf) lb, args := #[.func (.yield (w.heap.size + 1)) #[] #[]] }, W1, gf,
    #[.func (.yield (w.heap.size + 1)) #[] #[]] ++ lb, W1, run_enterLoop_outer _ _ _ _ _, by simp only [resolve, hg]; simp [go_sem],
    fun f' hf' => by simp [Target.leads] at hf'; subst hf'; exact hFg, by simp [invoke, go_sem, eg], fun _ => h1, ?_⟩
  have kept : ∀ {A B : World} {row : Option Nat} (i : Nat) (o : Obj), i < W1.heap.size → A.heap[i]? = some o → A.grownBy B row → (∀ r, row = some r → W1.heap.size ≤ r) → B.heap[i]? = some o := by
    intro A B row i o hi ho hg' hr
    exact (hg'.block i (Array.getElem?_eq_some_iff.1 ho).1 (fun e => by have := hr i e.symm; omega)).trans ho
  refine (hseq (w.heap.size + 1) (fun k W => I k W ∧ W.heap[w.heap.size + 1]? = some (.loop (rec0 .ready none)) ∧ W.heap[w.heap.size]? = some (.deferred (some [])))
    (fun k W => ∃ c, Ix c k W ∧ W.heap[w.heap.size + 1]? = some (.loop (rec0 .done (some c))) ∧ W.heap[w.heap.size]? = some (.deferred (some []))) N W1 hb1
    (fun s A B row hs hg' hr => ⟨hI s A B row hs.1 hg' (fun r e => by have := hr r e; omega), kept _ _ (by omega) hs.2.1 hg' hr, kept _ _ (by omega) hs.2.2 hg' hr⟩)
    (fun s A B row hs hg' hr => by
      obtain ⟨c, h1, h2, h3⟩ := hs
      exact ⟨c, hIx c s A B row h1 hg' (fun r e => by have := hr r e; omega), kept _ _ (by omega) h2 hg' hr, kept _ _ (by omega) h3 hg' hr⟩)
    (fun k W h => hN k W h.1) ?_ ⟨hi1, hl1, hd1⟩).mono ?_
  · -- a round
    rintro k x W ⟨hi, hl, hd⟩ hat
    have hlt : w.heap.size + 1 < W.heap.size := (Array.getElem?_eq_some_iff.1 hl).1
    have hy := run_yield (P := P) (args := encs x) hl (hps x)
    refine ⟨fn, _, assign, body, hy, roundIn_of_wpIn hfn (hassign _ k x W _ hi hat (by omega) ?_)⟩
    intro a' W2 hk2 hp2 hib
    have hl2 := hk2.same _ _ hl rfl
    have hd2 := hk2.same _ _ hd rfl
    have hlt2 : w.heap.size + 1 < W2.heap.size := (Array.getElem?_eq_some_iff.1 hl2).1
    refine ⟨_, run_beginRound hl2 rfl, ?_⟩
    have hl3 : (W2.putObj (w.heap.size + 1) (.loop { rec0 .ready none with state := .busy })).heap[w.heap.size + 1]? = some (.loop { rec0 .ready none with state := .busy }) := World.putObj_heap_same hlt2
    have hd3 : (W2.putObj (w.heap.size + 1) (.loop { rec0 .ready none with state := .busy })).heap[w.heap.size]? = some (.deferred (some [])) := (World.putObj_heap_other (by omega)).trans hd2
    have hp3 : Kp W (W2.putObj (w.heap.size + 1) (.loop { rec0 .ready none with state := .busy })) := hKt hp2 (hKb _ _ _ _ (by omega) hl2 rfl rfl)
    refine wpIn_mono (hbody _ k x a' _ (by omega) ⟨_, hl3⟩ ((hIb x a').putObj _ hib (by omega) hl2 rfl) hat (by rw [World.putObj_size]; omega)) ?_
    intro e a3 W4 hp
    have fin : ∀ (jump : Code), KeepsOthers (W2.putObj (w.heap.size + 1) (.loop { rec0 .ready none with state := .busy })) W4 → Ix jump (k + 1) W4 →
        ∃ v w', (Instr.endRound (w.heap.size + 1) (some jump)).run P W4 = .ok v w' ∧ Ending.returned v = .returned (.bool false) ∧
          ∃ c, Ix c (k + 1) w' ∧ w'.heap[w.heap.size + 1]? = some (.loop (rec0 .done (some c))) ∧ w'.heap[w.heap.size]? = some (.deferred (some [])) := fun jump hk4 hi4 => by
      have hl4 := hk4.same _ _ hl3 rfl
      have hlt4 : w.heap.size + 1 < W4.heap.size := (Array.getElem?_eq_some_iff.1 hl4).1
      exact ⟨_, _, run_endRound (P := P) (some jump) hl4, rfl, jump, (hIx _).put _ hi4 (by omega), World.putObj_heap_same hlt4, (World.putObj_heap_other (by omega)).trans (hk4.same _ _ hd3 rfl)⟩
    cases e with
    | normal =>
      obtain ⟨hk4, hp4, hi4⟩ := hp
      have hl4 := hk4.same _ _ hl3 rfl
      have hlt4 : w.heap.size + 1 < W4.heap.size := (Array.getElem?_eq_some_iff.1 hl4).1
      refine ⟨_, _, run_endRound (P := P) none hl4, .inl ⟨rfl, ⟨hI.put _ hi4 (by omega), World.putObj_heap_same hlt4, (World.putObj_heap_other (by omega)).trans (hk4.same _ _ hd3 rfl)⟩, ?_⟩⟩
      exact hKt (hKt hp3 hp4) (hKb _ _ _ _ (by omega) hl4 rfl rfl)
    | ret => obtain ⟨v, w', hr, e1, e2⟩ := fin .ret hp.1 hp.2; exact ⟨v, w', hr, .inr ⟨e1, e2⟩⟩
    | exit id => obtain ⟨v, w', hr, e1, e2⟩ := fin (.exit id) hp.1 hp.2; exact ⟨v, w', hr, .inr ⟨e1, e2⟩⟩
    | goto t => obtain ⟨v, w', hr, e1, e2⟩ := fin (.goto t) hp.1 hp.2; exact ⟨v, w', hr, .inr ⟨e1, e2⟩⟩
    | panic ch => exact hp.elim
    | outgrown => exact hp.elim
  · -- behind the iterator
    rintro e W2 ⟨⟨v, rfl⟩, (⟨k, hk, hi, hl, hd⟩ | ⟨k, c, hi, hl, hd⟩)⟩
    · exact ⟨none, _, run_endLoop (P := P) hl (by simp [rec0]), hdone _ k _ (Nat.le_refl _) hk (hI.put _ hi (by omega)) ((World.putObj_heap_other (by omega)).trans hd)⟩
    · exact ⟨some c, _, run_endLoop (P := P) hl (by simp [rec0]), hstop _ c k _ (Nat.le_refl _) ((hIx c).put _ hi (by omega)) ((World.putObj_heap_other (by omega)).trans hd)⟩

/-- the same within a round of another loop, l₀ -/
theorem wpIn_rangeFunc_stopN {α : Type} {g : Operand} {ps : Array Tmp} {assign body : Code} {Q : Exit → Act → World → Prop} {a : Act} {w : World}
    {l₀ : Nat} {r₀ : Loop} (hro : F.round = some l₀) (hl₀ : w.heap[l₀]? = some (.loop r₀)) (h1 : 1 ≤ n) {gf : Nat} {lb : Array Value} (hg : a.eval g = .func (.func gf) #[] lb) (hFg : F.fn gf) (eg : ∀ args w, (callFunc gf args).run P w = .ok (.enter gf args) w)
    {encs : α → Array Value} {Kp : World → World → Prop} {at_ : Nat → Option α} {w0 : World} (hseq : SeqStop F (n - 1) P gf lb encs Kp at_ w0)
    (hKt : ∀ {A B C : World}, Kp A B → Kp B C → Kp A C) (hKb : ∀ (W : World) (l : Nat) (o o' : Obj), w.heap.size ≤ l → W.heap[l]? = some o → o.isCells = false → o.isWalk = false → Kp W (W.putObj l o'))
    (hb0 : Below w0.heap.size w0 w) (hps : ∀ x, (encs x).size = ps.size)
    (N : Nat) (I : Nat → World → Prop) (Ix : Code → Nat → World → Prop) (hI : Far w.heap.size I) (hIx : ∀ c, Far w.heap.size (Ix c)) (hN : ∀ k W, I k W → k < N) (h0 : I 0 w)
    (Ib : α → Act → Nat → World → Prop) (hIb : ∀ x a', OwnFrom w.heap.size (Ib x a'))
    (hassign : ∀ (l k : Nat) (x : α) (W : World) (K : Act → World → Prop), I k W → at_ k = some x → w.heap.size ≤ W.heap.size → (∀ a' W', KeepsOthers W W' → Kp W W' → Ib x a' k W' → K a' W') →
      assign.wpIn (F.inRound l) (n - 1 - 1) P (Exit.then K (fun _ _ _ => False)) { tmps := (ps.zip (encs x)).foldl (fun t (p, v) => t.setIfInBounds p v) a.tmps, defers := [] } W)
    (hbody : ∀ (l k : Nat) (x : α) (a' : Act) (W : World), w.heap.size ≤ l → (∃ r, W.heap[l]? = some (.loop r)) → Ib x a' k W → at_ k = some x → w.heap.size ≤ W.heap.size →
      body.wpIn (F.inRound l) (n - 1 - 1) P (stopPost (fun W' => KeepsOthers W W' ∧ Kp W W' ∧ I (k + 1) W') (fun c W' => KeepsOthers W W' ∧ Ix c (k + 1) W')) a' W)
    (hdone : ∀ (k : Nat) (W : World), at_ k = none → I k W → Q .normal a W)
    (hstop : ∀ (c : Code) (k : Nat) (W : World), Ix c k W → c.wpIn F n P Q a W) :
    (Code.rangeFunc g ps assign body).wpIn F n P Q a w := by
  refine wpIn_rangeFunc fun fn hfn => ?_
  rw [hro]
  let rec0 : LoopState → Option Code → Loop := fun st pe => { state := st, pending := pe, fn := fn, tmps := a.tmps, params := ps, assign := assign, body := body, defers := r₀.defers }
  let W1 : World := w.alloc (.loop (rec0 .ready none))
  have hz1 : W1.heap.size = w.heap.size + 1 := by simp [W1]
  have hl1 : W1.heap[w.heap.size]? = some (.loop (rec0 .ready none)) := World.alloc_heap_new w _
  have hi1 : I 0 W1 := hI.alloc _ h0
  have hb1 : Below w0.heap.size w0 W1 := hb0.trans (((Below.refl _ w).alloc (Nat.le_refl _) _).mono hb0.size)
  refine ⟨w.heap.size, [], W1, { target := .fn (.func gf) lb, args := #[.func (.yield w.heap.size) #[] #[]] }, W1, gf,
    #[.func (.yield w.heap.size) #[] #[]] ++ lb, W1, run_enterLoop_inner hl₀ _ _ _ _ _, by simp only [resolve, hg]; simp [go_sem],
    fun f' hf' => by simp [Target.leads] at hf'; subst hf'; exact hFg, by simp [invoke, go_sem, eg], fun _ => h1, ?_⟩
  have kept : ∀ {A B : World} {row : Option Nat} (i : Nat) (o : Obj), i < W1.heap.size → A.heap[i]? = some o → A.grownBy B row → (∀ r, row = some r → W1.heap.size ≤ r) → B.heap[i]? = some o := by
    intro A B row i o hi ho hg' hr
    exact (hg'.block i (Array.getElem?_eq_some_iff.1 ho).1 (fun e => by have := hr i e.symm; omega)).trans ho
  refine (hseq w.heap.size (fun k W => I k W ∧ W.heap[w.heap.size]? = some (.loop (rec0 .ready none)))
    (fun k W => ∃ c, Ix c k W ∧ W.heap[w.heap.size]? = some (.loop (rec0 .done (some c)))) N W1 hb1
    (fun s A B row hs hg' hr => ⟨hI s A B row hs.1 hg' (fun r e => by have := hr r e; omega), kept _ _ (by omega) hs.2 hg' hr⟩)
    (fun s A B row hs hg' hr => by
      obtain ⟨c, h1, h2⟩ := hs
      exact ⟨c, hIx c s A B row h1 hg' (fun r e => by have := hr r e; omega), kept _ _ (by omega) h2 hg' hr⟩)
    (fun k W h => hN k W h.1) ?_ ⟨hi1, hl1⟩).mono ?_
  · rintro k x W ⟨hi, hl⟩ hat
    have hlt : w.heap.size < W.heap.size := (Array.getElem?_eq_some_iff.1 hl).1
    have hy := run_yield (P := P) (args := encs x) hl (hps x)
    refine ⟨fn, _, assign, body, hy, roundIn_of_wpIn hfn (hassign _ k x W _ hi hat (by omega) ?_)⟩
    intro a' W2 hk2 hp2 hib
    have hl2 := hk2.same _ _ hl rfl
    have hlt2 : w.heap.size < W2.heap.size := (Array.getElem?_eq_some_iff.1 hl2).1
    refine ⟨_, run_beginRound hl2 rfl, ?_⟩
    have hl3 : (W2.putObj w.heap.size (.loop { rec0 .ready none with state := .busy })).heap[w.heap.size]? = some (.loop { rec0 .ready none with state := .busy }) := World.putObj_heap_same hlt2
    have hp3 : Kp W (W2.putObj w.heap.size (.loop { rec0 .ready none with state := .busy })) := hKt hp2 (hKb _ _ _ _ (Nat.le_refl _) hl2 rfl rfl)
    refine wpIn_mono (hbody _ k x a' _ (Nat.le_refl _) ⟨_, hl3⟩ ((hIb x a').putObj _ hib (Nat.le_refl _) hl2 rfl) hat (by rw [World.putObj_size]; omega)) ?_
    intro e a3 W4 hp
    have fin : ∀ (jump : Code), KeepsOthers (W2.putObj w.heap.size (.loop { rec0 .ready none with state := .busy })) W4 → Ix jump (k + 1) W4 →
        ∃ v w', (Instr.endRound w.heap.size (some jump)).run P W4 = .ok v w' ∧ Ending.returned v = .returned (.bool false) ∧
          ∃ c, Ix c (k + 1) w' ∧ w'.heap[w.heap.size]? = some (.loop (rec0 .done (some c))) := fun jump hk4 hi4 => by
      have hl4 := hk4.same _ _ hl3 rfl
      have hlt4 : w.heap.size < W4.heap.size := (Array.getElem?_eq_some_iff.1 hl4).1
      exact ⟨_, _, run_endRound (P := P) (some jump) hl4, rfl, jump, (hIx _).put _ hi4 (Nat.le_refl _), World.putObj_heap_same hlt4⟩
    cases e with
    | normal =>
      obtain ⟨hk4, hp4, hi4⟩ := hp
      have hl4 := hk4.same _ _ hl3 rfl
      have hlt4 : w.heap.size < W4.heap.size := (Array.getElem?_eq_some_iff.1 hl4).1
      refine ⟨_, _, run_endRound (P := P) none hl4, .inl ⟨rfl, ⟨hI.put _ hi4 (Nat.le_refl _), World.putObj_heap_same hlt4⟩, ?_⟩⟩
      exact hKt (hKt hp3 hp4) (hKb _ _ _ _ (Nat.le_refl _) hl4 rfl rfl)
    | ret => obtain ⟨v, w', hr, e1, e2⟩ := fin .ret hp.1 hp.2; exact ⟨v, w', hr, .inr ⟨e1, e2⟩⟩
    | exit id => obtain ⟨v, w', hr, e1, e2⟩ := fin (.exit id) hp.1 hp.2; exact ⟨v, w', hr, .inr ⟨e1, e2⟩⟩
    | goto t => obtain ⟨v, w', hr, e1, e2⟩ := fin (.goto t) hp.1 hp.2; exact ⟨v, w', hr, .inr ⟨e1, e2⟩⟩
    | panic ch => exact hp.elim
    | outgrown => exact hp.elim
  · rintro e W2 ⟨⟨v, rfl⟩, (⟨k, hk, hi, hl⟩ | ⟨k, c, hi, hl⟩)⟩
    · exact ⟨none, _, run_endLoop (P := P) hl (by simp [rec0]), hdone k _ hk (hI.put _ hi (Nat.le_refl _))⟩
    · exact ⟨some c, _, run_endLoop (P := P) hl (by simp [rec0]), hstop c k _ ((hIx c).put _ hi (Nat.le_refl _))⟩
end Go.Proofs.YtoelgcdjhekafaaDoor.Range
namespace Go.Proofs.YtoelgcdjhekafaaDoor.Mem
open Go.RowKit Go.Proofs.YtoelgcdjhekafaaDoor.Range
set_option linter.unusedVariables false

section
variable {F : Fence} {n : Nat} {P : Program} {ops : Array Oper} {rest : List Oper} {o : Oper} {a : Act} {w : World} {Q : Exit → Act → World → Prop}
theorem wpListIn_load_Row (hw : Region.wanted o (yielded ops a.tmps) = true) (ty : TypeId) (x : Operand) (ho : o.op = .load ty x) (g : Nat) (hx : a.eval x = .pointer (some ⟨g, 0, none⟩)) (t : TypeId) (k : IntKind) (zs : List Int) (hr : Row w g t k zs)
    (m : Nat) (e : TypeId) (hu : P.underlying ty = some (.array m e)) (hi : (P.info? ty).map (·.size) = some m) (hn : zs.length = m)
    (h : wpListIn F n P ops Q rest (a.put o.dst (.agg (arr k zs))) w) : wpListIn F n P ops Q (o :: rest) a w := by
  refine wpListIn_step fun K hK => ?_
  rw [if_pos hw]
  unfold Oper.wpIn
  refine ⟨fun f hf => by simp [Oper.about, ho] at hf, ?_⟩
  rw [Oper.semAt_plain F _ _ (by rw [ho]; intro c hc'; cases hc')]
  unfold execOp
  simp only [ho, hx, Instr.loadAt, Instr.sureAddr, Sem.run_bind, Sem.run_pure, Result.andThen_ok, run_loadVar_row w g t ty (arr k zs) (0, 0) _ hr.2 hu rfl (by rw [hi, arr_size, hn])]
  exact hK _ _ h
theorem wpListIn_load_arr (hw : Region.wanted o (yielded ops a.tmps) = true) (ty : TypeId) (x : Operand) (ho : o.op = .load ty x) (g : Nat) (hx : a.eval x = .pointer (some ⟨g, 0, none⟩)) (t : TypeId) (fr : Nat × Nat) (k : IntKind) (zs : List Int) (hr : w.heap[g]? = some (.cells (arr k zs) t fr))
    (m : Nat) (e : TypeId) (hu : P.underlying ty = some (.array m e)) (hi : (P.info? ty).map (·.size) = some m) (hn : zs.length = m)
    (h : wpListIn F n P ops Q rest (a.put o.dst (.agg (arr k zs))) w) : wpListIn F n P ops Q (o :: rest) a w := by
  refine wpListIn_step fun K hK => ?_
  rw [if_pos hw]
  unfold Oper.wpIn
  refine ⟨fun f hf => by simp [Oper.about, ho] at hf, ?_⟩
  rw [Oper.semAt_plain F _ _ (by rw [ho]; intro c hc'; cases hc')]
  unfold execOp
  simp only [ho, hx, Instr.loadAt, Instr.sureAddr, Sem.run_bind, Sem.run_pure, Result.andThen_ok, run_loadVar_row w g t ty (arr k zs) fr _ hr hu rfl (by rw [hi, arr_size, hn])]
  exact hK _ _ h
theorem wpListIn_store_Row (hw : Region.wanted o (yielded ops a.tmps) = true) (ty : TypeId) (x y : Operand) (ho : o.op = .store ty x y) (g : Nat) (hx : a.eval x = .pointer (some ⟨g, 0, none⟩)) (t : TypeId) (k : IntKind) (old zs : List Int) (hy : a.eval y = .agg (arr k zs))
    (hr : Row w g t k old) (m : Nat) (hi : (P.info? ty).map (·.size) = some m) (hn : zs.length = m) (ho' : old.length = m)
    (h : wpListIn F n P ops Q rest (a.put o.dst undef) (w.setRow g (arr k zs))) : wpListIn F n P ops Q (o :: rest) a w := by
  refine wpListIn_step fun K hK => ?_
  rw [if_pos hw]
  unfold Oper.wpIn
  refine ⟨fun f hf => by simp [Oper.about, ho] at hf, ?_⟩
  rw [Oper.semAt_plain F _ _ (by rw [ho]; intro c hc'; cases hc')]
  unfold execOp
  simp only [ho, hx, hy, Instr.storeAt, Instr.sureAddr, Sem.run_bind, Sem.run_pure, Result.andThen_ok, run_storeVar_row w g t ty _ (arr k zs) hr.2 (by rw [hi, arr_size, hn]) (by simp [arr, ho', hn]) (arr_one k zs)]
  exact hK _ _ h
theorem wpListIn_copy_Row (hw : Region.wanted o (yielded ops a.tmps) = true) (d s : Operand) (dT sT : TypeId) (ho : o.op = .call { callee := .builtin .copy, args := #[d, s], argTypes := #[dT, sT] }) (e : TypeId) (hu : P.underlying dT = some (.slice e)) (hsz : (P.info? e).map (·.size) = some 1)
    (g off dLen dCap : Nat) (A : Option Addr) (sLen sCap : Nat) (hd : a.eval d = .slice (some ⟨g, off, none⟩) dLen dCap) (hs : a.eval s = .slice A sLen sCap)
    (t : TypeId) (k : IntKind) (cur xs : List Int) (hr : Row w g t k cur) (hx : 0 < sLen → ∃ b o2, A = some ⟨b, o2, none⟩ ∧ ∀ i, i < sLen → w.cell? ⟨b, o2 + i, none⟩ = some (.int k (xs.getD i 0))) (hxl : xs.length = sLen)
    (m : Nat) (hm : m = min sLen dLen) (h0 : 0 < m) (hfit : off + m ≤ cur.length)
    (h : wpListIn F n P ops Q rest (a.put o.dst (.int .i64 (m : Int))) (w.setRow g (arr k (cur.take off ++ (xs.take m ++ cur.drop (off + m)))))) : wpListIn F n P ops Q (o :: rest) a w := by
  have hml : m ≤ sLen := by omega
  obtain ⟨b, o2, rfl, hc⟩ := hx (by omega)
  have hlen : ((xs.take m).map (Value.int k)).length = m := by simp [hxl, hml]
  have hrun := run_copy_row (P := P) w dT sT o.type e g off dLen dCap ⟨b, o2, none⟩ sLen sCap (arr k cur) t ((xs.take m).map (Value.int k)) hu hsz hr.2 (by rw [hlen, hm])
    (fun j v hv => by
      have hj : j < m := by have := (List.getElem?_eq_some_iff.1 hv).1; omega
      have e1 : (Addr.mk b o2 none).add j = ⟨b, o2 + j, none⟩ := by unfold Addr.add; split <;> simp_all
      rw [e1, hc j (by omega), ← hv]
      simp [List.getD_eq_getElem?_getD, hj, show j < xs.length by omega])
    (by rw [hlen, arr_size]; exact hfit) (by intro v hv; obtain ⟨z, _, rfl⟩ := List.mem_map.1 hv; rfl)
  have hcells : ((arr k cur).toList.take off ++ (xs.take m).map (Value.int k) ++ (arr k cur).toList.drop (off + ((xs.take m).map (Value.int k)).length)).toArray = arr k (cur.take off ++ (xs.take m ++ cur.drop (off + m))) := by
    rw [hlen]
    simp [arr, List.map_take, List.map_drop]
  rw [hcells, hlen] at hrun
  refine wpListIn_step fun K hK => ?_
  rw [if_pos hw]
  unfold Oper.wpIn
  refine ⟨?_, ?_⟩
  · simp [Oper.about, ho, resolve, Target.leads, Sem.run_pure]
  · rw [Oper.semAt_plain F _ _ (by rw [ho]; intro c hc'; cases hc')]
    simp [execOp, ho, resolve, invoke, builtin, hd, hs, hrun, Result.andThen]
    exact hK _ _ h
end

/-- of the blocks of cells, at most those of S are not as they were -/
structure Only (S : Nat → Prop) (w w' : World) : Prop where
  size : w.heap.size ≤ w'.heap.size
  block : ∀ (i : Nat) (o : Obj), ¬ S i → w.heap[i]? = some o → o.isCells = true → w'.heap[i]? = some o
section
variable {S S' : Nat → Prop} {w w' w'' : World}
theorem Only.refl (S : Nat → Prop) (w : World) : Only S w w := ⟨Nat.le_refl _, fun _ _ _ h _ => h⟩
theorem Only.trans (h : Only S w w') (k : Only S w' w'') : Only S w w'' := ⟨Nat.le_trans h.size k.size, fun i o hi ho hc => k.block i o hi (h.block i o hi ho hc) hc⟩
theorem Only.mono (h : Only S w w') (hS : ∀ i, S i → S' i) : Only S' w w' := ⟨h.size, fun i o hi => h.block i o (fun e => hi (hS i e))⟩
theorem Only.of_grown {row : Option Nat} (hg : w.grownBy w' row) (hr : ∀ r, row = some r → S r) : Only S w w' :=
  ⟨hg.size, fun i o hi ho _ => (hg.block i (Array.getElem?_eq_some_iff.1 ho).1 (fun e => hi (hr i e.symm))).trans ho⟩
theorem Only.of_below (h : Below w.heap.size w w') : Only S w w' := ⟨h.size, fun i o _ ho _ => (h.block i (Array.getElem?_eq_some_iff.1 ho).1).trans ho⟩
theorem Only.put (W : World) (l : Nat) (o o' : Obj) (h : W.heap[l]? = some o) (hc : o.isCells = false) : Only S W (W.putObj l o') :=
  ⟨by simp, fun i q _ hq hqc => by
    by_cases e : i = l
    · subst e; rw [h] at hq; cases hq; rw [hc] at hqc; cases hqc
    · exact (World.putObj_heap_other e).trans hq⟩
theorem Only.cell (h : Only S w w') {p : Addr} {v : Value} (hp : ¬ S p.block) (hc : w.cell? p = some v) : w'.cell? p = some v := by
  obtain ⟨o, ho, hcs⟩ := cells_of_cell hc
  exact (World.cell?_of_block ((h.block _ o hp ho hcs).trans ho.symm)).trans hc
theorem Only.row (h : Only S w w') {g : Nat} {t : TypeId} {k : IntKind} {zs : List Int} (hg : ¬ S g) (hr : Row w g t k zs) : Row w' g t k zs := ⟨hr.1, h.block g _ hg hr.2 rfl⟩

/-- a slice that reads as numbers, at a block that is none of S -/
def IntsN (w : World) (k : IntKind) (S : Nat → Prop) (A : Option Addr) (n : Nat) (zs : List Int) : Prop :=
  zs.length = n ∧ (∀ z ∈ zs, (Lit.int k z).wf = true) ∧ (0 < n → ∃ b off, A = some ⟨b, off, none⟩ ∧ ¬ S b ∧ ∀ i, i < n → w.cell? ⟨b, off + i, none⟩ = some (.int k (zs.getD i 0)))
theorem IntsN.only {k : IntKind} {A : Option Addr} {n : Nat} {zs : List Int} (h : IntsN w k S A n zs) (ho : Only S w w') : IntsN w' k S A n zs :=
  ⟨h.1, h.2.1, fun hn => by
    obtain ⟨b, off, e, hb, hc⟩ := h.2.2 hn
    exact ⟨b, off, e, hb, fun i hi => ho.cell (p := ⟨b, off + i, none⟩) hb (hc i hi)⟩⟩
theorem IntsN.of {k : IntKind} {A : Option Addr} {n B : Nat} {zs : List Int} (h : Ints w k B A n zs) (hB : ∀ b, b < B → ¬ S b) : IntsN w k S A n zs :=
  ⟨h.1, h.2.1, fun hn => by
    obtain ⟨b, off, e, hb, hc⟩ := h.2.2 hn
    exact ⟨b, off, e, hB b hb, hc⟩⟩
theorem IntsN.row {t : TypeId} {k : IntKind} {g : Nat} {zs : List Int} (h : Row w g t k zs) (hg : ¬ S g) : IntsN w k S (some ⟨g, 0, none⟩) zs.length zs :=
  ⟨rfl, h.1, fun _ => ⟨g, 0, rfl, hg, fun i hi => by rw [Nat.zero_add]; exact h.cell hi⟩⟩
/-- what is left of it behind its first m -/
theorem IntsN.cut {k : IntKind} {b off n m cap : Nat} {zs : List Int} (h : IntsN w k S (some ⟨b, off, none⟩) n zs) (hm : m ≤ n) (hc : n ≤ cap) :
    IntsN w k S (if cap = m then some ⟨b, off, none⟩ else some ⟨b, off + m, none⟩) (n - m) (zs.drop m) := by
  refine ⟨by simp [h.1], fun z hz => h.2.1 z (List.mem_of_mem_drop hz), fun hn => ?_⟩
  obtain ⟨b', off', e, hb, hcell⟩ := h.2.2 (by omega)
  injection e with e
  injection e with e1 e2
  subst e1
  subst e2
  rw [if_neg (by omega)]
  refine ⟨b, off + m, rfl, hb, fun i hi => ?_⟩
  rw [Nat.add_assoc, hcell (m + i) (by omega)]
  simp [List.getD_eq_getElem?_getD, List.getElem?_drop]
end
end Go.Proofs.YtoelgcdjhekafaaDoor.Mem
namespace Go.Proofs.YtoelgcdjhekafaaDoor.Mem
open Go.RowKit Go.Shelf
set_option linter.unusedVariables false

/-- numbers laid over numbers, from place off on -/
def laidOver (cur : List Int) (off : Nat) (xs : List Int) : List Int := cur.take off ++ (xs ++ cur.drop (off + xs.length))
theorem laidOver_length (cur : List Int) (off : Nat) (xs : List Int) (h : off + xs.length ≤ cur.length) : (laidOver cur off xs).length = cur.length := by simp [laidOver]; omega
theorem laidOver_nil (cur : List Int) (off : Nat) : laidOver cur off [] = cur := by simp [laidOver]
theorem laidOver_mem {cur xs : List Int} {off : Nat} {z : Int} (h : z ∈ laidOver cur off xs) : z ∈ cur ∨ z ∈ xs := by
  rcases List.mem_append.1 h with h | h
  · exact .inl (List.mem_of_mem_take h)
  · rcases List.mem_append.1 h with h | h
    · exact .inr h
    · exact .inl (List.mem_of_mem_drop h)
theorem laidOver_get (cur : List Int) (off : Nat) (xs : List Int) (h : off + xs.length ≤ cur.length) (i : Nat) :
    (laidOver cur off xs).getD i 0 = if off ≤ i ∧ i < off + xs.length then xs.getD (i - off) 0 else cur.getD i 0 := by
  have ht : (cur.take off).length = off := by simp; omega
  simp only [laidOver, List.getD_eq_getElem?_getD]
  by_cases h1 : i < off
  · rw [List.getElem?_append_left (by omega), if_neg (by omega), List.getElem?_take, if_pos h1]
  · rw [List.getElem?_append_right (by omega), ht]
    by_cases h2 : i < off + xs.length
    · rw [List.getElem?_append_left (by omega), if_pos (by omega)]
    · rw [List.getElem?_append_right (by omega), if_neg (by omega), List.getElem?_drop]
      congr 2
      omega

theorem wpList_copy_Row {P : Program} {ops : Array Oper} {rest : List Oper} {o : Oper} {a : Act} {w : World} {Q : Exit → Act → World → Prop}
    (hgd : o.guard = none) (d s : Operand) (dT sT : TypeId) (ho : o.op = .call { callee := .builtin .copy, args := #[d, s], argTypes := #[dT, sT] }) (e : TypeId) (hu : P.underlying dT = some (.slice e)) (hsz : (P.info? e).map (·.size) = some 1)
    (g off dLen dCap : Nat) (B : Nat) (A : Option Addr) (sLen sCap : Nat) (hd : a.eval d = .slice (some ⟨g, off, none⟩) dLen dCap) (hs : a.eval s = .slice A sLen sCap)
    (t : TypeId) (k : IntKind) (cur xs : List Int) (hr : Row w g t k cur) (hx : Ints w k B A sLen xs) (hfit : off + dLen ≤ cur.length)
    (h : ∀ w', Row w' g t k (laidOver cur off (xs.take (min sLen dLen))) → w.grownBy w' (some g) → Hid (w'.heap.size = w.heap.size) → wpList P ops Q rest (a.put o.dst (.int .i64 ((min sLen dLen : Nat) : Int))) w') : wpList P ops Q (o :: rest) a w := by
  obtain ⟨m, hm⟩ : ∃ m, min sLen dLen = m := ⟨_, rfl⟩
  rw [hm] at h
  have hlen : (xs.take m).length = m := by rw [List.length_take, hx.1]; omega
  by_cases h0 : m = 0
  · subst h0
    refine wpList_copy_nothing hgd d s dT sT ho e hu hsz _ A dLen dCap sLen sCap hd hs hm ?_
    exact h w (by rw [List.take_zero, laidOver_nil]; exact hr) (World.grownBy.refl _ _) (Lib.hid rfl)
  · obtain ⟨b, o2, rfl, _, hc⟩ := hx.2.2 (by omega)
    refine wpList_copy_own hgd d s dT sT ho e hu hsz g off dLen dCap ⟨b, o2, none⟩ sLen sCap hd hs (cur.map (Value.int k)).toArray t hr.2 ((xs.take m).map (Value.int k)) (by rw [List.length_map, hlen]; exact hm.symm)
      (fun j v hv => ?_) (by simp [hx.1]; omega) (by intro v hv; obtain ⟨z, _, rfl⟩ := List.mem_map.1 hv; rfl) ?_
    · have hj : j < m := by
        have := (List.getElem?_eq_some_iff.1 hv).1
        rw [List.length_map, hlen] at this
        exact this
      have e1 : (Addr.mk b o2 none).add j = ⟨b, o2 + j, none⟩ := by unfold Addr.add; split <;> simp_all
      rw [e1, hc j (by omega), ← hv]
      simp [List.getD_eq_getElem?_getD, hj, show j < xs.length by have := hx.1; omega]
    · have hcells : (((cur.map (Value.int k)).toArray.toList.take off ++ ((xs.take m).map (Value.int k) ++ (cur.map (Value.int k)).toArray.toList.drop (off + ((xs.take m).map (Value.int k)).length)))).toArray = arr k (laidOver cur off (xs.take m)) := by
        rw [List.length_map, hlen]
        simp [arr, laidOver, List.map_take, List.map_drop, hlen]
      rw [hcells, List.length_map, hlen]
      exact h _ (hr.setRow (fun z hz => by
        rcases laidOver_mem hz with h1 | h1
        · exact hr.1 z h1
        · exact hx.2.1 z (List.mem_of_mem_take h1))) (grown_setRow _ _ _) (Lib.hid (by simp))

section
variable {F : Fence} {n : Nat} {P : Program} {ops : Array Oper} {rest : List Oper} {o : Oper} {a : Act} {w : World} {Q : Exit → Act → World → Prop}
theorem run_alloc_arr (ty : TypeId) (k : IntKind) (m : Nat) (hz : (P.info? ty).bind (·.zero) = some (.agg (arr k (List.replicate m 0)))) (v : Value) :
    (Instr.alloc ty true v).run P w = .ok (.pointer (some ⟨w.heap.size, 0, none⟩)) (w.alloc (.cells (arr k (List.replicate m 0)) ty)) := by
  cases hi : P.info? ty with
  | none => simp [hi] at hz
  | some i =>
    simp only [hi, Option.bind_some] at hz
    simp [Instr.alloc, zeroValue, typeInfo, hi, hz, newVar, newRow, Value.cells]
theorem zeros_wf (k : IntKind) (m : Nat) : ∀ z ∈ List.replicate m (0 : Int), (Lit.int k z).wf = true := fun z hz => by rw [List.eq_of_mem_replicate hz]; cases k <;> decide
/-- a new array of zeros -/
theorem wpList_alloc_Row (hgd : o.guard = none) (ty : TypeId) (ho : o.op = .alloc ty) (k : IntKind) (m : Nat) (hz : (P.info? ty).bind (·.zero) = some (.agg (arr k (List.replicate m 0))))
    (h : ∀ w', Row w' w.heap.size ty k (List.replicate m 0) → w.grownBy w' none → Hid (w'.heap.size = w.heap.size + 1) → wpList P ops Q rest (a.put o.dst (.pointer (some ⟨w.heap.size, 0, none⟩))) w') : wpList P ops Q (o :: rest) a w := by
  refine wpList_plain hgd fun K hK => ?_
  unfold Oper.wp execOp
  simp only [ho, run_alloc_arr ty k m hz, Sem.run_bind, Sem.run_pure, Result.andThen_ok]
  exact hK _ _ (h _ (Row.new w ty (zeros_wf k m)) (World.grownBy_alloc w _ none) (Lib.hid (by simp)))
theorem wpListIn_alloc_Row (hw : Region.wanted o (yielded ops a.tmps) = true) (ty : TypeId) (ho : o.op = .alloc ty) (k : IntKind) (m : Nat) (hz : (P.info? ty).bind (·.zero) = some (.agg (arr k (List.replicate m 0))))
    (h : ∀ w', Row w' w.heap.size ty k (List.replicate m 0) → w.grownBy w' none → Hid (w'.heap.size = w.heap.size + 1) → wpListIn F n P ops Q rest (a.put o.dst (.pointer (some ⟨w.heap.size, 0, none⟩))) w') : wpListIn F n P ops Q (o :: rest) a w := by
  refine wpListIn_step fun K hK => ?_
  rw [if_pos hw]
  unfold Oper.wpIn
  refine ⟨fun f hf => by simp [Oper.about, ho] at hf, ?_⟩
  rw [Oper.semAt_plain F _ _ (by rw [ho]; intro c hc'; cases hc')]
  unfold execOp
  simp only [ho, run_alloc_arr ty k m hz, Sem.run_bind, Sem.run_pure, Result.andThen_ok]
  exact hK _ _ (h _ (Row.new w ty (zeros_wf k m)) (World.grownBy_alloc w _ none) (Lib.hid (by simp)))
/-- an array that came in by value, in a box of its own -/
theorem wpList_box_Row (hgd : o.guard = none) (ty : TypeId) (x : Operand) (ho : o.op = .box ty x) (k : IntKind) (zs : List Int) (hx : a.eval x = .agg (arr k zs)) (hwf : ∀ z ∈ zs, (Lit.int k z).wf = true)
    (h : ∀ w', Row w' w.heap.size ty k zs → w.grownBy w' none → Hid (w'.heap.size = w.heap.size + 1) → wpList P ops Q rest (a.put o.dst (.pointer (some ⟨w.heap.size, 0, none⟩))) w') : wpList P ops Q (o :: rest) a w := by
  refine wpList_plain hgd fun K hK => ?_
  unfold Oper.wp execOp
  simp only [ho, hx, Sem.run_bind, Instr.box, newVar, newRow, run_newObj_alloc, Sem.run_pure, Result.andThen_ok]
  exact hK _ _ (h _ (Row.new w ty hwf) (World.grownBy_alloc w _ none) (Lib.hid (by simp)))
theorem wpListIn_box_Row (hw : Region.wanted o (yielded ops a.tmps) = true) (ty : TypeId) (x : Operand) (ho : o.op = .box ty x) (k : IntKind) (zs : List Int) (hx : a.eval x = .agg (arr k zs)) (hwf : ∀ z ∈ zs, (Lit.int k z).wf = true)
    (h : ∀ w', Row w' w.heap.size ty k zs → w.grownBy w' none → Hid (w'.heap.size = w.heap.size + 1) → wpListIn F n P ops Q rest (a.put o.dst (.pointer (some ⟨w.heap.size, 0, none⟩))) w') : wpListIn F n P ops Q (o :: rest) a w := by
  refine wpListIn_step fun K hK => ?_
  rw [if_pos hw]
  unfold Oper.wpIn
  refine ⟨fun f hf => by simp [Oper.about, ho] at hf, ?_⟩
  rw [Oper.semAt_plain F _ _ (by rw [ho]; intro c hc'; cases hc')]
  unfold execOp
  simp only [ho, hx, Sem.run_bind, Instr.box, newVar, newRow, run_newObj_alloc, Sem.run_pure, Result.andThen_ok]
  exact hK _ _ (h _ (Row.new w ty hwf) (World.grownBy_alloc w _ none) (Lib.hid (by simp)))
theorem wpList_store_RowTo (hgd : o.guard = none) (ty : TypeId) (x y : Operand) (ho : o.op = .store ty x y) (g : Nat) (hx : a.eval x = .pointer (some ⟨g, 0, none⟩)) (t : TypeId) (k : IntKind) (old zs : List Int) (hy : a.eval y = .agg (arr k zs))
    (hr : Row w g t k old) (m : Nat) (hi : (P.info? ty).map (·.size) = some m) (hn : zs.length = m) (ho' : old.length = m) (hwf : ∀ z ∈ zs, (Lit.int k z).wf = true)
    (h : ∀ w', Row w' g t k zs → w.grownBy w' (some g) → Hid (w'.heap.size = w.heap.size) → wpList P ops Q rest (a.put o.dst undef) w') : wpList P ops Q (o :: rest) a w :=
  wpList_store_Row hgd ty x y ho g hx t k old zs hy hr m hi hn ho' (h _ (hr.setRow hwf) (grown_setRow _ _ _) (Lib.hid (by simp)))
theorem wpListIn_store_RowTo (hw : Region.wanted o (yielded ops a.tmps) = true) (ty : TypeId) (x y : Operand) (ho : o.op = .store ty x y) (g : Nat) (hx : a.eval x = .pointer (some ⟨g, 0, none⟩)) (t : TypeId) (k : IntKind) (old zs : List Int) (hy : a.eval y = .agg (arr k zs))
    (hr : Row w g t k old) (m : Nat) (hi : (P.info? ty).map (·.size) = some m) (hn : zs.length = m) (ho' : old.length = m) (hwf : ∀ z ∈ zs, (Lit.int k z).wf = true)
    (h : ∀ w', Row w' g t k zs → w.grownBy w' (some g) → Hid (w'.heap.size = w.heap.size) → wpListIn F n P ops Q rest (a.put o.dst undef) w') : wpListIn F n P ops Q (o :: rest) a w :=
  wpListIn_store_Row hw ty x y ho g hx t k old zs hy hr m hi hn ho' (h _ (hr.setRow hwf) (grown_setRow _ _ _) (Lib.hid (by simp)))
end
/-- a whole array as a slice -/
theorem run_slice_arr_all {P : Program} (t e : TypeId) (n g : Nat) (w : World) (ht : P.underlying t = some (.array n e)) (hs : (P.info? e).map (·.size) = some 1) (hn : 0 < n) :
    (Instr.sliceAt t (.pointer (some ⟨g, 0, none⟩)) none none none).run P w = .ok (.slice (some ⟨g, 0, none⟩) n n) w := by
  have he : P.elem t = e := by simp [Program.elem, ht]
  have hl : P.arrayLen t = n := by simp [Program.arrayLen, ht]
  have ht' : P.underlying t = some (.array (P.arrayLen t) (P.elem t)) := by rw [he, hl]; exact ht
  obtain ⟨inf, hi, h1⟩ := Option.map_eq_some_iff.1 hs
  rw [run_sliceAt_array_all w t ⟨g, 0, none⟩ ht', he, hl]
  have hz : (sizeOf e).run P w = .ok 1 w := by simp [sizeOf, typeInfo, hi, h1]
  rw [hz]
  simp [Result.andThen, slicedAt, Addr.add]
end Go.Proofs.YtoelgcdjhekafaaDoor.Mem
namespace Go.Proofs.YtoelgcdjhekafaaDoor.Held
open Go.RowKit
set_option linter.unusedVariables false

/-- every activation may run; r: of which round -/
def wideR (r : Option Nat) : Fence := { Fence.wide with round := r }
theorem wideR_none : wideR none = Fence.wide := rfl
theorem wideR_some (l : Nat) : wideR (some l) = Fence.wide.inRound l := rfl

section
variable {P : Program} {ops : Array Oper} {Q : Exit → Act → World → Prop} {n : Nat} {r : Option Nat}
theorem calls_wideR {f : FuncId} {args : Array Value} {w : World} {R : Ending → World → Prop} (h : Calls P f args w R) : CallsIn (wideR r) n P f args w R :=
  (callsIn_wide (n := n)).2 h
theorem rows_wideR {row : String} {args : Array Value} {w : World} {R : Value → World → Prop} (h : Rows P row args w R) : RowsIn (wideR r) n P row args w R := fun c cs _ => by
  obtain ⟨v, w', hR, hs⟩ := h c cs
  exact ⟨v, w', hR, stepsIn_wide.2 hs⟩
theorem opIn_of_op {o : Oper} (ho : ∀ c, o.op ≠ .defer c) {K : Act → World → Prop} {a : Act} {w : World} (h : o.wp P a w K Q) : o.wpIn (wideR r) n P a w K Q := by
  refine ⟨fun _ _ => trivial, ?_⟩
  rw [Oper.semAt_plain (wideR r) _ _ ho]
  unfold Oper.wp at h
  generalize (execOp a.eval o).run P w = x at h
  cases x with
  | ok y w' =>
    cases y with
    | value v => exact h
    | skip => exact h
    | «defer» d => exact h
    | enter f args =>
      refine ⟨fun hd => absurd (show false = true from hd) (by simp), (calls_wideR (r := r) h).mono fun e w'' he => ?_⟩
      cases e <;> exact he
    | row row args => exact ⟨fun hd => absurd (show false = true from hd) (by simp), rows_wideR h⟩
    | _ => exact h.elim
  | halt y w' => cases y <;> exact h
def noDefer (ops : Array Oper) : Bool := ops.all fun o => match o.op with | .defer _ => false | _ => true
theorem noDefer_spec (h : noDefer ops = true) {i : Nat} {o : Oper} (hi : ops[i]? = some o) : ∀ c, o.op ≠ .defer c := by
  intro c e
  have hlt := (Array.getElem?_eq_some_iff.1 hi).1
  have := (Array.all_eq_true.1 h) i hlt
  rw [(Array.getElem?_eq_some_iff.1 hi).2, e] at this
  cases this
theorem opsIn_of_op (hd : noDefer ops = true) (hq : ∀ a w, ¬ Q .outgrown a w) {i : Nat} {K : Act → World → Prop} {a : Act} {w : World} (h : wpOp P ops Q i K a w) : wpOpIn (wideR r) n P ops Q i K a w := by
  unfold wpOp at h
  unfold wpOpIn
  cases hi : ops[i]? with
  | none => simpa only [hi] using h
  | some o =>
    simp only [hi] at h ⊢
    split
    · rename_i hw
      simp only [hw, if_true] at h
      rcases h with h | ⟨_, a', w', hl⟩
      · exact opIn_of_op (noDefer_spec hd hi) h
      · exact (hq _ _ hl).elim
    · rename_i hw
      simp only [hw] at h
      exact ⟨fun _ _ => trivial, h⟩
theorem anyIn_of_any {md : Region.Mode} (hd : noDefer ops = true) (hq : ∀ a w, ¬ Q .outgrown a w) : ∀ (fuel : Nat) (listed : Array Bool) (a : Act) (w : World), wpAny P md ops Q fuel listed a w → wpAnyIn (wideR r) n P md ops Q fuel listed a w
  | 0, _, _, _, h => h
  | fuel + 1, _, _, _, h => ⟨h.1, fun i hi => wpOpIn_mono (fun a' w' h' => anyIn_of_any hd hq fuel _ a' w' h') (opsIn_of_op hd hq (h.2 i hi))⟩
theorem listIn_of_list (hd : noDefer ops = true) (hq : ∀ a w, ¬ Q .outgrown a w) : ∀ (l : List Oper) (a : Act) (w : World), (∀ o ∈ l, ∀ c, o.op ≠ .defer c) → wpList P ops Q l a w → wpListIn (wideR r) n P ops Q l a w
  | [], _, _, _, h => h
  | o :: rest, a, w, hl, h => by
    unfold wpList at h
    unfold wpListIn
    split
    · rename_i hw
      simp only [hw, if_true] at h
      rcases h with h | ⟨_, a', w', hx⟩
      · exact Oper.wpIn_mono (fun a' w' h' => listIn_of_list hd hq rest a' w' (fun o ho => hl o (List.mem_cons_of_mem _ ho)) h') (opIn_of_op (hl o List.mem_cons_self) h)
      · exact (hq _ _ hx).elim
    · rename_i hw
      simp only [hw] at h
      exact ⟨fun _ _ => trivial, listIn_of_list hd hq rest _ w (fun o ho => hl o (List.mem_cons_of_mem _ ho)) h⟩

/-- a region that draws its order, within a round or an iterator -/
theorem wpIn_region_heldR {F : Fence} (hF : F = wideR r) {S : World → Prop} {id : Nat} {a : Act} {w : World} (hm : P.follows .mixedOrders = true) (hd : noDefer ops = true) (hq : ∀ a w, ¬ Q .outgrown a w)
    (h : wpAnyH P .any ops Q S ops.size (Array.replicate ops.size false) a { w with drawn := w.drawn + 1 }) : (Code.region id ops true).wpIn F n P Q a w := by
  subst hF
  exact wpIn_region_any hm (anyIn_of_any hd hq _ _ _ _ (wpAny_of_held _ _ _ _ h))
/-- a region of one order, within a round or an iterator -/
theorem wpIn_region_plainR {F : Fence} (hF : F = wideR r) {id : Nat} {l : List Oper} {a : Act} {w : World} (hd : noDefer l.toArray = true) (hq : ∀ a w, ¬ Q .outgrown a w)
    (h : wpList P l.toArray Q l a w) : (Code.region id l.toArray false).wpIn F n P Q a w := by
  subst hF
  refine wpIn_region_lit (listIn_of_list hd hq l a w (fun o ho c e => ?_) h)
  obtain ⟨i, hi, rfl⟩ := List.mem_iff_getElem.1 ho
  exact noDefer_spec hd (i := i) (o := l[i]) (by simp [hi]) c e
end

section
variable {P : Program} {ops : Array Oper} {Q : Exit → Act → World → Prop} {S : World → Prop}
/-- a load, carried out -/
theorem op_load (i : Nat) (d : Option Tmp) {o : Oper} {a : Act} {w : World} {K : Act → World → Prop} (ty : TypeId) {x : Operand} (p : Addr) (v : Value) (hi : ops[i]? = some o) (hd : o.dst = d) (hw : Region.wanted o (yielded ops a.tmps) = true)
    (ho : o.op = .load ty x) (hx : a.eval x = .pointer (some p)) (hr : (loadVar ty p).run P w = .ok v w) (h : K (a.put d v) w) : wpOp P ops Q i K a w := by
  subst hd
  refine op_wp i hi hw ?_
  unfold Oper.wp execOp
  simp only [ho, hx, Instr.loadAt, Instr.sureAddr, Sem.run_bind, Sem.run_pure, Result.andThen_ok, hr]
  exact h
/-- a new array of zeros -/
theorem op_alloc_Row (i : Nat) (d : Option Tmp) {o : Oper} {a : Act} {w : World} {K : Act → World → Prop} (ty : TypeId) (k : IntKind) (m : Nat) (hi : ops[i]? = some o) (hd : o.dst = d) (hw : Region.wanted o (yielded ops a.tmps) = true)
    (ho : o.op = .alloc ty) (hz : (P.info? ty).bind (·.zero) = some (.agg (Mem.arr k (List.replicate m 0))))
    (h : ∀ g w', Mem.Row w' g ty k (List.replicate m 0) → Below w.heap.size w w' → Hid (w.heap.size ≤ g) → K (a.put d (.pointer (some ⟨g, 0, none⟩))) w') : wpOp P ops Q i K a w := by
  subst hd
  refine op_wp i hi hw ?_
  unfold Oper.wp execOp
  simp only [ho, Mem.run_alloc_arr ty k m hz, Sem.run_bind, Sem.run_pure, Result.andThen_ok]
  exact h _ _ (Mem.Row.new w ty (Mem.zeros_wf k m)) ((Below.refl _ w).alloc (Nat.le_refl _) _) (Lib.hid (Nat.le_refl _))
end
end Go.Proofs.YtoelgcdjhekafaaDoor.Held
namespace Go.Proofs.YtoelgcdjhekafaaDoor.Held
open Go.RowKit
/-- a type of one cell that is neither a struct nor an array -/
def plainT (P : Program) (ty : TypeId) : Bool := match P.underlying ty with | some (.struct _) => false | some (.array _ _) => false | some _ => true | none => false
theorem run_loadVar_cell {P : Program} (ty : TypeId) (p : Addr) (w : World) (v : Value) (hp : plainT P ty = true) (hc : w.cell? p = some v) : (loadVar ty p).run P w = .ok v w := by
  unfold plainT at hp
  cases hu : P.underlying ty with
  | none => rw [hu] at hp; cases hp
  | some d =>
    rw [hu] at hp
    cases d <;> first | (cases hp; done) | simp [loadVar, isAgg, run_underlying hu, Sem.run_bind, Result.andThen, hc]
section
variable {P : Program} {S : World → Prop} {ρ : Operand → Value} {o : Oper}
theorem y_load {ty : TypeId} {x : Operand} {p : Addr} {v : Value} (ho : o.op = .load ty x) (hx : ρ x = .pointer (some p)) (hp : plainT P ty = true) (hc : ∀ w, S w → w.cell? p = some v) : ∀ w, S w → (execOp ρ o).run P w = .ok (.value v) w := fun w hw => by
  simp only [execOp, ho, hx, Instr.loadAt, Instr.sureAddr, Sem.run_bind, Sem.run_pure, Result.andThen_ok, run_loadVar_cell ty p w v hp (hc w hw)]
end
/-- a whole array stored, the new world a letter -/
theorem op_store_RowL {P : Program} {ops : Array Oper} {Q : Exit → Act → World → Prop} (i : Nat) (d : Option Tmp) {o : Oper} {a : Act} {w : World} {K : Act → World → Prop} (ty : TypeId) {x y : Operand} (g : Nat) (t : TypeId) (k : IntKind) (old zs : List Int) (hi : ops[i]? = some o) (hd : o.dst = d) (hw : Region.wanted o (yielded ops a.tmps) = true)
    (ho : o.op = .store ty x y) (hx : a.eval x = .pointer (some ⟨g, 0, none⟩)) (hy : a.eval y = .agg (Mem.arr k zs)) (hrow : Mem.Row w g t k old) (n : Nat) (hsz : (P.info? ty).map (·.size) = some n) (hn : zs.length = n) (ho' : old.length = n) (hwf : ∀ z ∈ zs, (Lit.int k z).wf = true)
    (h : ∀ w', Mem.Row w' g t k zs → w.grownBy w' (some g) → K (a.put d undef) w') : wpOp P ops Q i K a w :=
  op_store_Row i d ty g t k old zs hi hd hw ho hx hy hrow n hsz hn ho' (h _ (hrow.setRow hwf) (Mem.grown_setRow _ _ _))
/-- numbers, as the values of a list -/
theorem ints_of_vals {w : World} {B : Nat} {A : Option Addr} {n : Nat} {k : IntKind} {zs : List Int} (h : Mem.Vals w B A n (zs.map (Value.int k))) (hwf : ∀ z ∈ zs, (Lit.int k z).wf = true) : Mem.Ints w k B A n zs :=
  ⟨by simpa using h.1, hwf, fun h0 => by
    obtain ⟨b, off, e, hb, hc⟩ := h.2.2 h0
    refine ⟨b, off, e, hb, fun i hi => ?_⟩
    have hl : i < zs.length := by have := h.1; simp at this; omega
    rw [hc i hi]
    simp [List.getD_eq_getElem?_getD, hl]⟩
end Go.Proofs.YtoelgcdjhekafaaDoor.Held
namespace Go.Proofs.YtoelgcdjhekafaaDoor.Held
open Go.RowKit Go.Proofs.YtoelgcdjhekafaaDoor.Mem
set_option linter.unusedVariables false

theorem run_slice_arr_h {P : Program} (t e : TypeId) (n g h : Nat) (w : World) (ht : P.underlying t = some (.array n e)) (hs : (P.info? e).map (·.size) = some 1) (h0 : 0 < n) (hn : h ≤ n) :
    (Instr.sliceAt t (.pointer (some ⟨g, 0, none⟩)) none (some (.int .i64 (h : Int))) none).run P w = .ok (.slice (some ⟨g, 0, none⟩) h n) w := by
  have hz : (sizeOf e).run P w = .ok 1 w := by
    cases hq : P.info? e with
    | none => simp [hq] at hs
    | some q => simp [hq] at hs; simp [sizeOf, typeInfo, hq, hs]
  have ea : (Addr.mk g 0 none).add 0 = ⟨g, 0, none⟩ := by unfold Addr.add; split <;> simp_all
  simp [Instr.sliceAt, Instr.sureAddr, run_underlying ht, Instr.sliceBounds, run_sliceBound, hz, Sem.run_bind, Result.andThen, ea, (by omega : (h : Int) ≤ n)]

section
variable {P : Program} {S : World → Prop} {ρ : Operand → Value} {o : Oper}
theorem y_min {x y : Operand} {k : IntKind} {a b r : Int} {ts : Array TypeId} (ho : o.op = .call { callee := .builtin .min, args := #[x, y], argTypes := ts }) (hx : ρ x = .int k a) (hy : ρ y = .int k b) (hr : (if b < a then b else a) = r) :
    ∀ w, S w → (execOp ρ o).run P w = .ok (.value (.int k r)) w := fun w _ => by
  unfold execOp
  simp [ho, resolve, invoke, builtin, hx, hy, run_min_int2, hr]
end

section
variable {P : Program} {ops : Array Oper} {Q : Exit → Act → World → Prop}
theorem op_append_fits (i : Nat) (d : Option Tmp) {o : Oper} {a : Act} {w : World} {K : Act → World → Prop} {s x : Operand} (ts : TypeId) (hi : ops[i]? = some o) (hd : o.dst = d) (hw : Region.wanted o (yielded ops a.tmps) = true)
    (ho : o.op = .call { callee := .builtin .append, args := #[s, x], argTypes := #[ts, ts] }) (base : Nat) (e : TypeId) (k : IntKind) (bytes : Nat) (ht : P.underlying ts = some (.slice e))
    (hinfo : (P.info? e).map (fun i => (i.zero, i.size, i.bytes)) = some (some (.int k 0), 1, bytes)) (g cap len : Nat) (zs : List Int) (hs : a.eval s = .slice (some ⟨g, 0, none⟩) len cap) (hl : zs.length = len)
    (hown : Mem.Own w base e k (.slice (some ⟨g, 0, none⟩) len cap) zs) (B : Nat) (A : Option Addr) (m c : Nat) (xs : List Int) (hx : a.eval x = .slice A m c) (hr : Ints w k B A m xs) (L : Nat) (hL : len + m = L) (hfit : L ≤ cap)
    (h : ∀ w', Mem.Own w' base e k (.slice (some ⟨g, 0, none⟩) L cap) (zs ++ xs) → w.grownBy w' (some g) → K (a.put d (.slice (some ⟨g, 0, none⟩) L cap)) w') : wpOp P ops Q i K a w := by
  subst hd
  subst hl
  subst hL
  refine op_wp i hi hw ?_
  obtain ⟨w', hrun, h2, h3⟩ := run_append_ints_fits (P := P) w base ts o.type e k bytes ht hinfo g cap zs hown B A m c xs hr hfit
  exact Lib.wp_append_run w s x ts ts ho _ _ hs hx _ w' hrun (h w' h2 h3)
/-- a store of a value of one cell into a box -/
theorem op_store_box (i : Nat) (d : Option Tmp) {o : Oper} {a : Act} {w : World} {K : Act → World → Prop} (ty : TypeId) {x y : Operand} (g : Nat) (t : TypeId) (old v : Value) (hi : ops[i]? = some o) (hd : o.dst = d) (hw : Region.wanted o (yielded ops a.tmps) = true)
    (ho : o.op = .store ty x y) (hx : a.eval x = .pointer (some ⟨g, 0, none⟩)) (hy : a.eval y = v) (hb : w.heap[g]? = some (.cells #[old] t (0, 0))) (hsz : (P.info? ty).map (·.size) = some 1) (h1 : v.cells = #[v]) (ho1 : v.oneCell' = true)
    (h : ∀ w', w'.heap[g]? = some (.cells #[v] t (0, 0)) → w.grownBy w' (some g) → K (a.put d undef) w') : wpOp P ops Q i K a w := by
  subst hd
  refine op_wp i hi hw ?_
  have hz : (sizeOf ty).run P w = .ok 1 w := by
    cases hq : P.info? ty with
    | none => simp [hq] at hsz
    | some q => simp [hq] at hsz; simp [sizeOf, typeInfo, hq, hsz]
  have ea : (Addr.mk g 0 none).add 0 = ⟨g, 0, none⟩ := by unfold Addr.add; split <;> simp_all
  have hrun : (storeVar ty ⟨g, 0, none⟩ v).run P w = .ok () (w.setCell ⟨g, 0, none⟩ v) := by
    simp [storeVar, hz, h1, Sem.run_bind, Result.andThen, storeCells, run_store P w _ v _ ho1, ea, cell_of_one hb, free_of_one hb]
  unfold Oper.wp execOp
  simp only [ho, hx, hy, Instr.storeAt, Instr.sureAddr, Sem.run_bind, Sem.run_pure, Result.andThen_ok, hrun]
  exact h _ (one_setCell hb) (grown_setCell _ _ _ _)
end

section
variable {F : Fence} {n : Nat} {P : Program} {ops : Array Oper} {rest : List Oper} {o : Oper} {a : Act} {w : World} {Q : Exit → Act → World → Prop}
/-- a value of one cell in a box of its own, the new world a letter -/
theorem wpListIn_box_cell (hw : Region.wanted o (yielded ops a.tmps) = true) (ty : TypeId) (x : Operand) (ho : o.op = .box ty x) (v : Value) (hx : a.eval x = v) (h1 : v.cells = #[v])
    (h : ∀ w', w'.heap[w.heap.size]? = some (.cells #[v] ty (0, 0)) → w.grownBy w' none → Hid (w'.heap.size = w.heap.size + 1) → wpListIn F n P ops Q rest (a.put o.dst (.pointer (some ⟨w.heap.size, 0, none⟩))) w') : wpListIn F n P ops Q (o :: rest) a w := by
  refine wpListIn_step fun K hK => ?_
  rw [if_pos hw]
  unfold Oper.wpIn
  refine ⟨fun f hf => by simp [Oper.about, ho] at hf, ?_⟩
  rw [Oper.semAt_plain F _ _ (by rw [ho]; intro c hc'; cases hc')]
  unfold execOp
  simp only [ho, hx, Sem.run_bind, Instr.box, newVar, newRow, run_newObj_alloc, Sem.run_pure, Result.andThen_ok, h1]
  exact hK _ _ (h _ (heap_alloc_new w _) (World.grownBy_alloc w _ none) (Lib.hid (by simp)))
theorem wpList_box_cell (hgd : o.guard = none) (ty : TypeId) (x : Operand) (ho : o.op = .box ty x) (v : Value) (hx : a.eval x = v) (h1 : v.cells = #[v])
    (h : ∀ w', w'.heap[w.heap.size]? = some (.cells #[v] ty (0, 0)) → w.grownBy w' none → Hid (w'.heap.size = w.heap.size + 1) → wpList P ops Q rest (a.put o.dst (.pointer (some ⟨w.heap.size, 0, none⟩))) w') : wpList P ops Q (o :: rest) a w := by
  refine wpList_plain hgd fun K hK => ?_
  unfold Oper.wp execOp
  simp only [ho, hx, Sem.run_bind, Instr.box, newVar, newRow, run_newObj_alloc, Sem.run_pure, Result.andThen_ok, h1]
  exact hK _ _ (h _ (heap_alloc_new w _) (World.grownBy_alloc w _ none) (Lib.hid (by simp)))
theorem run_alloc_one {P : Program} (ty : TypeId) (z : Value) (hz : (P.info? ty).bind (·.zero) = some z) (h1 : z.cells = #[z]) (v : Value) (w : World) :
    (Instr.alloc ty true v).run P w = .ok (.pointer (some ⟨w.heap.size, 0, none⟩)) (w.alloc (.cells #[z] ty)) := by
  cases hi : P.info? ty with
  | none => simp [hi] at hz
  | some i =>
    simp only [hi, Option.bind_some] at hz
    simp [Instr.alloc, zeroValue, typeInfo, hi, hz, newVar, newRow, h1]
/-- a new variable of one cell, the new world a letter -/
theorem wpListIn_alloc_cell (hw : Region.wanted o (yielded ops a.tmps) = true) (ty : TypeId) (ho : o.op = .alloc ty) (z : Value) (hz : (P.info? ty).bind (·.zero) = some z) (h1 : z.cells = #[z])
    (h : ∀ w', w'.heap[w.heap.size]? = some (.cells #[z] ty (0, 0)) → w.grownBy w' none → Hid (w'.heap.size = w.heap.size + 1) → wpListIn F n P ops Q rest (a.put o.dst (.pointer (some ⟨w.heap.size, 0, none⟩))) w') : wpListIn F n P ops Q (o :: rest) a w := by
  refine wpListIn_step fun K hK => ?_
  rw [if_pos hw]
  unfold Oper.wpIn
  refine ⟨fun f hf => by simp [Oper.about, ho] at hf, ?_⟩
  rw [Oper.semAt_plain F _ _ (by rw [ho]; intro c hc'; cases hc')]
  unfold execOp
  simp only [ho, run_alloc_one ty z hz h1, Sem.run_bind, Sem.run_pure, Result.andThen_ok]
  exact hK _ _ (h _ (heap_alloc_new w _) (World.grownBy_alloc w _ none) (Lib.hid (by simp)))
theorem run_store_box {P : Program} {w : World} (ty : TypeId) (g : Nat) (t : TypeId) (old v : Value) (hb : w.heap[g]? = some (.cells #[old] t (0, 0))) (hsz : (P.info? ty).map (·.size) = some 1) (h1 : v.cells = #[v]) (ho1 : v.oneCell' = true) :
    (storeVar ty ⟨g, 0, none⟩ v).run P w = .ok () (w.setCell ⟨g, 0, none⟩ v) := by
  have hz : (sizeOf ty).run P w = .ok 1 w := by
    cases hq : P.info? ty with
    | none => simp [hq] at hsz
    | some q => simp [hq] at hsz; simp [sizeOf, typeInfo, hq, hsz]
  have ea : (Addr.mk g 0 none).add 0 = ⟨g, 0, none⟩ := by unfold Addr.add; split <;> simp_all
  simp [storeVar, hz, h1, Sem.run_bind, Result.andThen, storeCells, run_store P w _ v _ ho1, ea, cell_of_one hb, free_of_one hb]
/-- a store into a box, the new world a letter -/
theorem wpListIn_store_box (hw : Region.wanted o (yielded ops a.tmps) = true) (ty : TypeId) (x y : Operand) (ho : o.op = .store ty x y) (g : Nat) (hx : a.eval x = .pointer (some ⟨g, 0, none⟩)) (t : TypeId) (old v : Value) (hy : a.eval y = v)
    (hb : w.heap[g]? = some (.cells #[old] t (0, 0))) (hsz : (P.info? ty).map (·.size) = some 1) (h1 : v.cells = #[v]) (ho1 : v.oneCell' = true)
    (h : ∀ w', w'.heap[g]? = some (.cells #[v] t (0, 0)) → w.grownBy w' (some g) → wpListIn F n P ops Q rest (a.put o.dst undef) w') : wpListIn F n P ops Q (o :: rest) a w := by
  refine wpListIn_step fun K hK => ?_
  rw [if_pos hw]
  unfold Oper.wpIn
  refine ⟨fun f hf => by simp [Oper.about, ho] at hf, ?_⟩
  rw [Oper.semAt_plain F _ _ (by rw [ho]; intro c hc'; cases hc')]
  unfold execOp
  simp only [ho, hx, hy, Instr.storeAt, Instr.sureAddr, Sem.run_bind, Sem.run_pure, Result.andThen_ok, run_store_box ty g t old v hb hsz h1 ho1]
  exact hK _ _ (h _ (one_setCell hb) (grown_setCell _ _ _ _))
end

/-- a round's one variable, in its slot -/
theorem zip_one (p : Tmp) (v : Value) (t : Array Value) : ((#[p].zip #[v]).foldl (fun t (p, v) => t.setIfInBounds p v) t) = t.setIfInBounds p v := by simp
theorem zip_two (p q : Tmp) (u v : Value) (t : Array Value) : ((#[p, q].zip #[u, v]).foldl (fun t (p, v) => t.setIfInBounds p v) t) = (t.setIfInBounds p u).setIfInBounds q v := by simp

/-- what lies in a block of cells stays at a step that turns none -/
theorem ne_of_cells {w : World} {g : Nat} {cs : Array Value} {t : TypeId} {fr : Nat × Nat} {row : Option Nat} (h : w.heap[g]? = some (.cells cs t fr)) (hr : ∀ r, row = some r → ∃ o : Obj, w.heap[r]? = some o ∧ o.isCells = false) : some g ≠ row := fun e => by
  obtain ⟨o, ho, hc⟩ := hr g e.symm
  rw [h] at ho
  cases ho
  cases hc
theorem keep_cells {w w' : World} {g : Nat} {cs : Array Value} {t : TypeId} {fr : Nat × Nat} {row : Option Nat} (h : w.heap[g]? = some (.cells cs t fr)) (hg : w.grownBy w' row) (hr : some g ≠ row) : w'.heap[g]? = some (.cells cs t fr) :=
  (hg.block g (Array.getElem?_eq_some_iff.1 h).1 hr).trans h
theorem _root_.Go.Proofs.YtoelgcdjhekafaaDoor.Mem.Own.cells_ {w : World} {base : Nat} {t : TypeId} {k : IntKind} {g n c : Nat} {zs : List Int} (h : Mem.Own w base t k (.slice (some ⟨g, 0, none⟩) n c) zs) : ∃ cs, w.heap[g]? = some (.cells cs t (0, 0)) := by
  rcases h.2.2 with ⟨e, _⟩ | ⟨g', cap, cur, e, _, hgg, _⟩
  · cases e
  · injection e with e1
    injection e1 with e1
    injection e1 with e1
    subst e1
    exact ⟨cur, hgg⟩
theorem others_of_grown {w w' : World} {g : Nat} {cs : Array Value} {t : TypeId} {fr : Nat × Nat} (h : w.heap[g]? = some (.cells cs t fr)) (hg : w.grownBy w' (some g)) : KeepsOthers w w' := KeepsOthers.of_grownBy hg (fun j o e ho => by cases e; rw [h] at ho; cases ho; rfl)
theorem others_of_new {w w' : World} (hg : w.grownBy w' none) : KeepsOthers w w' := KeepsOthers.of_grownBy hg (fun j o e ho => by cases e)
end Go.Proofs.YtoelgcdjhekafaaDoor.Held
namespace Go.Proofs.YtoelgcdjhekafaaDoor.Held
open Go.RowKit Go.Proofs.YtoelgcdjhekafaaDoor.Mem
set_option linter.unusedVariables false

section
variable {P : Program} {S : World → Prop} {ρ : Operand → Value} {o : Oper}
theorem y_text {src dst e : TypeId} {x : Operand} {B : Nat} {A : Option Addr} {n c : Nat} {zs : List Int} (ho : o.op = .convert src dst x) (hx : ρ x = .slice A n c) (hs : P.underlying src = some (.slice e)) (he : P.underlying e = some (.int .u8)) (hd : P.underlying dst = some .string)
    (hi : ∀ w, S w → Ints w .u8 B A n zs) : ∀ w, S w → (execOp ρ o).run P w = .ok (.value (.string (strOfNums zs))) w := fun w hw => by
  simp [execOp, ho, hx, run_text w src dst e hs he hd B A n c zs (hi w hw)]
theorem y_eqs {t ty : TypeId} {x y : Operand} {s : ByteArray} (ho : o.op = .binOp .eql t x y ty) (hx : ρ x = .string s) (hy : ρ y = .string s) (ht : P.underlying t = some .string) :
    ∀ w, S w → (execOp ρ o).run P w = .ok (.value (.bool true)) w := y_bin ho hx hy (fun w => by simp [eqGuard]) (fun w => by simp [binOp, Op.stringOp])
theorem y_len_ {t : TypeId} {x : Operand} {A : Option Addr} {n c : Nat} {r : Int} (ho : o.op = .call { callee := .builtin .len, args := #[x], argTypes := #[t] }) (hx : ρ x = .slice A n c) (ht : P.underlying t = some (.slice (P.elem t))) (hr : (n : Int) = r) :
    ∀ w, S w → (execOp ρ o).run P w = .ok (.value (.int .i64 r)) w := by subst hr; exact y_len ho hx ht
theorem y_eqi {t ty : TypeId} {x y : Operand} {k : IntKind} {a : Int} (ho : o.op = .binOp .eql t x y ty) (hx : ρ x = .int k a) (hy : ρ y = .int k a) :
    ∀ w, S w → (execOp ρ o).run P w = .ok (.value (.bool true)) w := y_bin ho hx hy (fun w => by simp [eqGuard]) (fun w => by simp [binOp, Op.intCmp])
theorem y_eqn {t ty : TypeId} {x y : Operand} {k : IntKind} {a b : Int} (ho : o.op = .binOp .eql t x y ty) (hx : ρ x = .int k a) (hy : ρ y = .int k b) (hab : a ≠ b) :
    ∀ w, S w → (execOp ρ o).run P w = .ok (.value (.bool false)) w := y_bin ho hx hy (fun w => by simp [eqGuard]) (fun w => by simp [binOp, Op.intCmp, hab])
/-- two arrays of the same numbers, said apart -/
theorem y_eql2 {t e ty : TypeId} {x y : Operand} {k : IntKind} {zs ys : List Int} {n : Nat} (ho : o.op = .binOp .eql t x y ty) (hx : ρ x = .agg (arr k zs)) (hy : ρ y = .agg (arr k ys)) (he' : zs = ys) (hq : P.eqGuardType P.depth t = false) (ht : P.underlying t = some (.array n e)) (he : P.underlying e = some (.int k)) (hs : (P.info? e).map (·.size) = some 1) (hn : zs.length = n) :
    ∀ w, S w → (execOp ρ o).run P w = .ok (.value (.bool true)) w := by subst he'; exact y_eql ho hx hy hq ht he hs hn
end

section
variable {P : Program} {S : World → Prop} {ρ : Operand → Value} {o : Oper}
theorem y_pickF {c x y : Operand} {v : Value} (ho : o.op = .pick c x y) (hc : ρ c = .bool false) (hv : ρ y = v) : ∀ w, S w → (execOp ρ o).run P w = .ok (.value v) w := fun w _ => by simp [execOp, ho, hv, hc, asBool]
theorem y_not {x : Operand} {b r : Bool} {t : TypeId} (ho : o.op = .unOp .not t x) (hx : ρ x = .bool b) (hr : (!b) = r) : ∀ w, S w → (execOp ρ o).run P w = .ok (.value (.bool r)) w := fun w _ => by subst hr; simp [execOp, ho, hx, Op.unary]
theorem y_eqb {t ty : TypeId} {x y : Operand} {a b r : Bool} (ho : o.op = .binOp .eql t x y ty) (hx : ρ x = .bool a) (hy : ρ y = .bool b) (hr : (a == b) = r) (ht : P.underlying t = some .bool) :
    ∀ w, S w → (execOp ρ o).run P w = .ok (.value (.bool r)) w := y_bin ho hx hy (fun w => by simp [eqGuard]) (fun w => by subst hr; simp [binOp, run_equal_bool _ t a b ht])
end
section
variable {P : Program} {ops : Array Oper} {Q : Exit → Act → World → Prop} {md : Region.Mode} {S : World → Prop}
/-- what a guard shuts out is passed over -/
theorem skip (i : Nat) (d : Option Tmp) {oi : Oper} {fuel : Nat} {listed : Array Bool} {a : Act} {w : World} (hi : ops[i]? = some oi) (hd : oi.dst = d)
    (hs : Region.noSelect ops = true) (hf : Region.free md ops listed i = true) (hr : (Region.ready md ops listed).contains i = true)
    (hQ : ∀ c a w, Q (.panic c) (a.put d undef) w → Q (.panic c) a w) (hw : Region.wanted oi (yielded ops a.tmps) = false) (hS : S w)
    (h : wpAnyH P md ops Q S fuel (listed.setIfInBounds i true) (a.put d undef) w) : wpAnyH P md ops Q S (fuel + 1) listed a w := by
  subst hd
  exact wpAnyH_take hi hs hf hr hQ (.inr ⟨hw, rfl⟩) hS h
end

/-- a new list of numbers, as a row of its own, the new world a letter -/
theorem wpList_build_row {P : Program} {ops : Array Oper} {rest : List Oper} {o : Oper} {a : Act} {w : World} {Q : Exit → Act → World → Prop} (hgd : o.guard = none) (t e : TypeId) (len : Nat) (parts : Array (Nat × Operand)) (ho : o.op = .buildSlice t len parts) (k : IntKind) (bytes : Nat) (zs : List Int)
    (hu : P.underlying t = some (.slice e)) (hinfo : (P.info? e).map (fun i => (i.zero, i.size, i.bytes)) = some (some (.int k 0), 1, bytes)) (hp : (parts.map fun (i, x) => (i, a.eval x)).toList = ((zs.map (Value.int k)).zipIdx 0).map fun x => (x.2, x.1))
    (hl : zs.length = len) (h0 : 0 < len) (hlen : len ≤ 1000) (hwf : ∀ z ∈ zs, (Lit.int k z).wf = true)
    (h : ∀ w', Row w' w.heap.size e k zs → w.grownBy w' none → Hid (w'.heap.size = w.heap.size + 1) → wpList P ops Q rest (a.put o.dst (.slice (some ⟨w.heap.size, 0, none⟩) len len)) w') : wpList P ops Q (o :: rest) a w := by
  refine wpList_plain hgd fun K hK => ?_
  obtain ⟨ie, hie, hz, hsz, _⟩ := info_parts hinfo
  have hl' : (zs.map (Value.int k)).length = len := by simpa using hl
  have h' := hK _ _ (h _ (Row.new w e hwf) (World.grownBy_alloc w _ none) (Lib.hid (by simp)))
  unfold arr at h'
  have h1 : ∀ v ∈ zs.map (Value.int k), v.cells = #[v] := by intro v hv; obtain ⟨z, _, rfl⟩ := List.mem_map.1 hv; rfl
  generalize zs.map (Value.int k) = vs at hp hl' h' h1
  subst hl'
  refine Go.wp_buildSlice t e vs.length parts ho vs.toArray ie (.int k 0) hu hie hz (by rw [hsz]; omega) (by rw [hsz]; omega) ?_ h'
  rw [hp]
  simp only [hsz]
  exact Go.Great.fill_flat vs _ h1 (by simp)
end Go.Proofs.YtoelgcdjhekafaaDoor.Held
namespace Go.Proofs.YtoelgcdjhekafaaDoor.Help
open Go.RowKit Go.Proofs.YtoelgcdjhekafaaDoor.Mem
set_option linter.unusedVariables false

theorem info_u8 : (Tryd.prog.info? 5).map (fun i => (i.zero, i.size, i.bytes)) = some (some (.int .u8 0), 1, 1) := by kernel_rfl

/-- nothing has turned, but for a count of draws -/
def Still (w w' : World) : Prop := ∃ m, w' = w.drewN m
section
variable {w w' w'' : World}
theorem Still.refl (w : World) : Still w w := ⟨0, rfl⟩
theorem Still.drewN (h : Still w w') (n : Nat) : Still w (w'.drewN n) := by obtain ⟨m, rfl⟩ := h; exact ⟨m + n, by simp⟩
theorem Still.trans (h : Still w w') (k : Still w' w'') : Still w w'' := by obtain ⟨m, rfl⟩ := h; obtain ⟨n, rfl⟩ := k; exact ⟨m + n, by simp⟩
theorem Still.below (h : Still w w') (B : Nat) : Below B w w' := by obtain ⟨m, rfl⟩ := h; exact below_drewN (Below.refl _ _) m
theorem Still.size (h : Still w w') : w'.heap.size = w.heap.size := by obtain ⟨m, rfl⟩ := h; rfl
theorem Still.cell (h : Still w w') (p : Addr) : w'.cell? p = w.cell? p := by obtain ⟨m, rfl⟩ := h; rfl
theorem Still.heap (h : Still w w') : w'.heap = w.heap := by obtain ⟨m, rfl⟩ := h; rfl
theorem Still.ints (h : Still w w') {k : IntKind} {B n : Nat} {A : Option Addr} {zs : List Int} (hi : Ints w k B A n zs) : Ints w' k B A n zs := hi.below (h.below B)
theorem Still.own (h : Still w w') {base : Nat} {t : TypeId} {k : IntKind} {v : Value} {zs : List Int} (hi : Mem.Own w base t k v zs) : Mem.Own w' base t k v zs := hi.below (h.below _)
end

theorem bytes_any (B B' : Nat) (A A' : Option Addr) (n n' c c' : Nat) (zs zs' : List Int) (w : World) (h : Ints w .u8 B A n zs) (h' : Ints w .u8 B' A' n' zs') :
    Calls Tryd.prog 18 #[.slice A n c, .slice A' n' c'] w fun e w' => e = .returned (.bool (decide (zs = zs'))) ∧ w = w' := by
  have t1 := run_text (P := Tryd.prog) w 34 9 5 Tryd.underlying34 Tryd.underlying5 Tryd.underlying9 B A n c zs h
  have t2 := run_text (P := Tryd.prog) w 34 9 5 Tryd.underlying34 Tryd.underlying5 Tryd.underlying9 B' A' n' c' zs' h'
  have X := Lib.hid (text_inj h.2.1 h'.2.1)
  clear h h'
  go_enter Tryd.func18, Tryd.ntmps18
  go_wp2
  go_ret
  exact ⟨ret_bool (by rw [Bool.eq_iff_iff]; simp only [beq_iff_eq, decide_eq_true_iff]; exact X.out), rfl⟩

theorem take_step {xs ys : List Int} {k : Nat} (hx : k < xs.length) (hy : k < ys.length) (h : xs.take k = ys.take k) (e : xs.getD k 0 = ys.getD k 0) : xs.take (k + 1) = ys.take (k + 1) := by
  rw [List.take_add_one, List.take_add_one, h]
  simp only [List.getD_eq_getElem?_getD, List.getElem?_eq_getElem hx, List.getElem?_eq_getElem hy, Option.getD_some] at e
  rw [List.getElem?_eq_getElem hx, List.getElem?_eq_getElem hy, e]

end Go.Proofs.YtoelgcdjhekafaaDoor.Help
namespace Go.Proofs.YtoelgcdjhekafaaDoor.Held
open Go.RowKit Go.Proofs.YtoelgcdjhekafaaDoor.Mem
set_option linter.unusedVariables false

section
variable {P : Program} {ops : Array Oper} {Q : Exit → Act → World → Prop}
/-- make([]T, n), n said by a constant -/
theorem op_make_Row (i : Nat) (d : Option Tmp) {o : Oper} {a : Act} {w : World} {K : Act → World → Prop} (t e : TypeId) (k : IntKind) (bytes n : Nat) {l c : Operand} (kl kc : IntKind) (hi : ops[i]? = some o) (hd : o.dst = d) (hw : Region.wanted o (yielded ops a.tmps) = true)
    (ho : o.op = .makeSlice t l c) (hu : P.underlying t = some (.slice e)) (hinfo : (P.info? e).map (fun i => (i.zero, i.size, i.bytes)) = some (some (.int k 0), 1, bytes)) (hl : a.eval l = .int kl (n : Int)) (hc : a.eval c = .int kc (n : Int)) (hb : bytes * n ≤ 281474976710656) (hn : n ≤ 9223372036854775807)
    (h : ∀ g w', Row w' g e k (List.replicate n 0) → Below w.heap.size w w' → Hid (w.heap.size ≤ g) → K (a.put d (.slice (some ⟨g, 0, none⟩) n n)) w') : wpOp P ops Q i K a w := by
  subst hd
  refine op_wp i hi hw ?_
  have hrun := Go.run_make_row' (P := P) t e (.int k 0) bytes hu hinfo rfl kl kc n hb hn w
  unfold Oper.wp execOp
  simp only [ho, hl, hc, hrun, Sem.run_bind, Sem.run_pure, Result.andThen_ok]
  refine h _ _ ?_ ((Below.refl _ w).alloc (Nat.le_refl _) _) (Lib.hid (Nat.le_refl _))
  rw [made_zeros]
  exact Row.new w e (zeros_wf k n)
/-- append of numbers that read as a list, onto what the call owns -/
theorem op_append_ints (i : Nat) (d : Option Tmp) {o : Oper} {a : Act} {w : World} {K : Act → World → Prop} {s x : Operand} (ts : TypeId) (hi : ops[i]? = some o) (hd : o.dst = d) (hw : Region.wanted o (yielded ops a.tmps) = true)
    (ho : o.op = .call { callee := .builtin .append, args := #[s, x], argTypes := #[ts, ts] }) (base : Nat) (e : TypeId) (k : IntKind) (bytes : Nat) (ht : P.underlying ts = some (.slice e))
    (hinfo : (P.info? e).map (fun i => (i.zero, i.size, i.bytes)) = some (some (.int k 0), 1, bytes)) (v : Value) (zs : List Int) (hs : a.eval s = v) (hown : Mem.Own w base e k v zs)
    (B : Nat) (A : Option Addr) (m c : Nat) (xs : List Int) (hx : a.eval x = .slice A m c) (hr : Ints w k B A m xs) (hlen : zs.length + m ≤ 17592186044416) (hby : bytes ≤ 8) (hbase : base ≤ w.heap.size)
    (h : ∀ A' n' c' w', Mem.Own w' base e k (.slice A' n' c') (zs ++ xs) → w.grownBy w' v.ownBlock → n' ≤ c' → c' ≤ maxLen → Hid ((zs ++ xs).length = n') → Ints w' k w'.heap.size A' n' (zs ++ xs) → K (a.put d (.slice A' n' c')) w') : wpOp P ops Q i K a w := by
  subst hd
  refine op_wp i hi hw ?_
  obtain ⟨v', w', hrun, h2, h3, _⟩ := run_append_ints (P := P) w base ts o.type e k bytes ht hinfo v zs hown B A m c xs hr hlen hby hbase
  obtain ⟨A', c', rfl, h4, h5, h6⟩ := h2.form
  exact Lib.wp_append_run w s x ts ts ho _ _ hs hx _ w' hrun (h _ _ _ w' h2 h3 h4 h5 (Lib.hid rfl) h6)
end
section
variable {P : Program} {S : World → Prop} {ρ : Operand → Value} {o : Oper}
theorem y_nes {t ty : TypeId} {x y : Operand} {s : ByteArray} (ho : o.op = .binOp .neq t x y ty) (hx : ρ x = .string s) (hy : ρ y = .string s) :
    ∀ w, S w → (execOp ρ o).run P w = .ok (.value (.bool false)) w := y_bin ho hx hy (fun w => by simp [eqGuard]) (fun w => by simp [binOp, Op.stringOp])
end
/-- like texts are alike -/
theorem bytes_same (B B' : Nat) (A A' : Option Addr) (n n' c c' : Nat) (zs zs' : List Int) (w : World) (h : Ints w .u8 B A n zs) (h' : Ints w .u8 B' A' n' zs') (e : zs = zs') :
    Calls Tryd.prog 18 #[.slice A n c, .slice A' n' c'] w fun e w' => e = .returned (.bool true) ∧ Below w.heap.size w w' :=
  (Help.bytes_any B B' A A' n n' c c' zs zs' w h h').mono fun _ _ ⟨h1, h2⟩ => ⟨by rw [h1]; simp [e], h2 ▸ Below.refl _ _⟩
end Go.Proofs.YtoelgcdjhekafaaDoor.Held
namespace Go.Proofs.YtoelgcdjhekafaaDoor.Held
open Go.RowKit Go.Proofs.YtoelgcdjhekafaaDoor.Mem
set_option linter.unusedVariables false
section
variable {P : Program} {ops : Array Oper} {Q : Exit → Act → World → Prop}
/-- append onto what the call owns; rows apart from it stay, and stay apart -/
theorem op_append_keep (i : Nat) (d : Option Tmp) {o : Oper} {a : Act} {w : World} {K : Act → World → Prop} {s x : Operand} (ts : TypeId) (hi : ops[i]? = some o) (hd : o.dst = d) (hw : Region.wanted o (yielded ops a.tmps) = true)
    (ho : o.op = .call { callee := .builtin .append, args := #[s, x], argTypes := #[ts, ts] }) (base : Nat) (e : TypeId) (k : IntKind) (bytes : Nat) (ht : P.underlying ts = some (.slice e))
    (hinfo : (P.info? e).map (fun i => (i.zero, i.size, i.bytes)) = some (some (.int k 0), 1, bytes)) (v : Value) (zs : List Int) (hs : a.eval s = v) (hown : Mem.Own w base e k v zs)
    (B : Nat) (A : Option Addr) (m c : Nat) (xs : List Int) (hx : a.eval x = .slice A m c) (hr : Ints w k B A m xs) (hlen : zs.length + m ≤ 17592186044416) (hby : bytes ≤ 8) (hbase : base ≤ w.heap.size)
    (h : ∀ A' n' c' w', Mem.Own w' base e k (.slice A' n' c') (zs ++ xs) → w.grownBy w' v.ownBlock → n' ≤ c' → c' ≤ maxLen → Hid ((zs ++ xs).length = n') → Ints w' k w'.heap.size A' n' (zs ++ xs) →
      (∀ p t q ys, Row w p t q ys → some p ≠ v.ownBlock → Row w' p t q ys ∧ some p ≠ (Value.slice A' n' c').ownBlock) → K (a.put d (.slice A' n' c')) w') : wpOp P ops Q i K a w := by
  subst hd
  refine op_wp i hi hw ?_
  obtain ⟨v', w', hrun, h2, h3, h3'⟩ := run_append_ints (P := P) w base ts o.type e k bytes ht hinfo v zs hown B A m c xs hr hlen hby hbase
  obtain ⟨A', c', rfl, h4, h5, h6⟩ := h2.form
  refine Lib.wp_append_run w s x ts ts ho _ _ hs hx _ w' hrun (h _ _ _ w' h2 h3 h4 h5 (Lib.hid rfl) h6 fun p t q ys hrow hne => ⟨hrow.grown h3 hne, ?_⟩)
  rcases h3' with e1 | e1
  · rw [e1]; exact hne
  · rw [e1]
    intro e2
    injection e2 with e2
    have := hrow.lt
    omega
/-- a new list of numbers, as a row of its own -/
theorem op_build_Row (i : Nat) (d : Option Tmp) {o : Oper} {a : Act} {w : World} {K : Act → World → Prop} (t e : TypeId) (len : Nat) {parts : Array (Nat × Operand)} (k : IntKind) (bytes : Nat) (zs : List Int) (hi : ops[i]? = some o) (hd : o.dst = d) (hw : Region.wanted o (yielded ops a.tmps) = true)
    (ho : o.op = .buildSlice t len parts) (hu : P.underlying t = some (.slice e)) (hinfo : (P.info? e).map (fun i => (i.zero, i.size, i.bytes)) = some (some (.int k 0), 1, bytes))
    (hp : (parts.map fun (i, x) => (i, a.eval x)).toList = ((zs.map (Value.int k)).zipIdx 0).map fun x => (x.2, x.1)) (hl : zs.length = len) (h0 : 0 < len) (hlen : len ≤ 1000) (hwf : ∀ z ∈ zs, (Lit.int k z).wf = true)
    (h : ∀ p w', Row w' p e k zs → Below w.heap.size w w' → Hid (w.heap.size ≤ p) → K (a.put d (.slice (some ⟨p, 0, none⟩) len len)) w') : wpOp P ops Q i K a w := by
  subst hd
  refine op_wp i hi hw ?_
  obtain ⟨ie, hie, hz, hsz, _⟩ := info_parts hinfo
  have hl' : (zs.map (Value.int k)).length = len := by simpa using hl
  have h' := h w.heap.size _ (Row.new w e hwf) ((Below.refl _ w).alloc (Nat.le_refl _) _) (Lib.hid (Nat.le_refl _))
  unfold arr at h'
  have h1 : ∀ v ∈ zs.map (Value.int k), v.cells = #[v] := by intro v hv; obtain ⟨z, _, rfl⟩ := List.mem_map.1 hv; rfl
  generalize zs.map (Value.int k) = vs at hp hl' h' h1
  subst hl'
  refine Go.wp_buildSlice t e vs.length parts ho vs.toArray ie (.int k 0) hu hie hz (by rw [hsz]; omega) (by rw [hsz]; omega) ?_ h'
  rw [hp]
  simp only [hsz]
  exact Go.Great.fill_flat vs _ h1 (by simp)
end
theorem apart_new {w : World} {base p : Nat} {t : TypeId} {k : IntKind} {v : Value} {zs : List Int} (h : Mem.Own w base t k v zs) (hp : w.heap.size ≤ p) : some p ≠ v.ownBlock := fun e => by
  have := (h.2.lt p e.symm).2
  omega
end Go.Proofs.YtoelgcdjhekafaaDoor.Held
namespace Go.Proofs.YtoelgcdjhekafaaDoor.Mem
open Go.RowKit
set_option linter.unusedVariables false

/-- as 'Own', the row being marked behind its cells or not at all -/
def OwnM (w : World) (base : Nat) (t : TypeId) (k : IntKind) (v : Value) (zs : List Int) : Prop :=
  (∀ z ∈ zs, (Lit.int k z).wf = true) ∧ ((v = .slice none 0 0 ∧ zs = []) ∨ ∃ (g cap : Nat) (cur : Array Value) (fz : Nat × Nat), v = .slice (some ⟨g, 0, none⟩) zs.length cap ∧ base ≤ g ∧ w.heap[g]? = some (.cells cur t fz) ∧ (fz = (0, 0) ∨ cap ≤ fz.1) ∧
    zs.length ≤ cap ∧ cap ≤ maxLen ∧ cur.size = cap ∧ cur.toList.take zs.length = zs.map (Value.int k))
section
variable {w w' : World} {base : Nat} {t : TypeId} {k : IntKind} {v : Value} {zs : List Int}
theorem OwnM.nil (w : World) (base : Nat) (t : TypeId) (k : IntKind) : OwnM w base t k (.slice none 0 0) [] := ⟨by simp, .inl ⟨rfl, rfl⟩⟩
theorem OwnM.of (h : Own w base t k v zs) : OwnM w base t k v zs := by
  refine ⟨h.1, ?_⟩
  rcases h.2.2 with ⟨e, h0⟩ | ⟨g, cap, cur, e, hb, hg, hn, hm, hs, ht⟩
  · exact .inl ⟨e, List.eq_nil_of_length_eq_zero h0⟩
  · exact .inr ⟨g, cap, cur, (0, 0), e, hb, hg, .inl rfl, hn, hm, by simpa using hs, by simpa using ht⟩
theorem OwnM.lt (h : OwnM w base t k v zs) : ∀ b, v.ownBlock = some b → base ≤ b ∧ b < w.heap.size := fun b hb => by
  rcases h.2 with ⟨rfl, _⟩ | ⟨g, cap, cur, fz, rfl, hg, hc, _⟩
  · cases hb
  · cases hb
    exact ⟨hg, (Array.getElem?_eq_some_iff.1 hc).1⟩
theorem OwnM.obj (h : OwnM w base t k v zs) {b : Nat} (hb : v.ownBlock = some b) : ∃ cs fz, w.heap[b]? = some (.cells cs t fz) := by
  rcases h.2 with ⟨rfl, _⟩ | ⟨g, cap, cur, fz, rfl, hg, hc, _⟩
  · cases hb
  · cases hb
    exact ⟨_, _, hc⟩
theorem OwnM.ne (h : OwnM w base t k v zs) {row : Option Nat} (hr : ∀ r, row = some r → ∃ o : Obj, w.heap[r]? = some o ∧ o.isCells = false) : v.ownBlock = none ∨ v.ownBlock ≠ row := by
  cases hb : v.ownBlock with
  | none => exact .inl rfl
  | some b =>
    refine .inr fun e => ?_
    obtain ⟨o, ho, hc⟩ := hr b e.symm
    obtain ⟨cs, fz, h1⟩ := h.obj hb
    rw [h1] at ho
    cases ho
    cases hc
theorem OwnM.kept {row : Option Nat} (h : OwnM w base t k v zs) (hg : w.grownBy w' row) (hne : v.ownBlock = none ∨ v.ownBlock ≠ row) : OwnM w' base t k v zs := by
  refine ⟨h.1, ?_⟩
  rcases h.2 with h0 | ⟨g, cap, cur, fz, rfl, hb, hc, rest⟩
  · exact .inl h0
  · refine .inr ⟨g, cap, cur, fz, rfl, hb, (hg.block g (Array.getElem?_eq_some_iff.1 hc).1 ?_).trans hc, rest⟩
    rcases hne with h1 | h1
    · cases h1
    · exact h1
theorem OwnM.below (h : OwnM w base t k v zs) (hb : Below w.heap.size w w') : OwnM w' base t k v zs := h.kept (grown_of_below hb none) (by cases v.ownBlock <;> simp)
theorem OwnM.less (h : OwnM w base t k v zs) {b : Nat} (hb : b ≤ base) : OwnM w b t k v zs := by
  refine ⟨h.1, ?_⟩
  rcases h.2 with h0 | ⟨g, cap, cur, fz, rfl, hg, rest⟩
  · exact .inl h0
  · exact .inr ⟨g, cap, cur, fz, rfl, Nat.le_trans hb hg, rest⟩
theorem OwnM.form (h : OwnM w base t k v zs) : ∃ A c, v = .slice A zs.length c ∧ zs.length ≤ c ∧ c ≤ maxLen ∧ Ints w k w.heap.size A zs.length zs := by
  rcases h.2 with ⟨rfl, rfl⟩ | ⟨g, cap, cur, fz, rfl, hg, hc, hf, hn, hm, hs, ht⟩
  · exact ⟨none, 0, rfl, Nat.le_refl _, by simp [maxLen], Ints.nil _ _ _ _⟩
  · refine ⟨some ⟨g, 0, none⟩, cap, rfl, hn, hm, rfl, h.1, fun _ => ⟨g, 0, rfl, (Array.getElem?_eq_some_iff.1 hc).1, fun i hi => ?_⟩⟩
    rw [Nat.zero_add, cell_of_row w g i cur t fz hc]
    have e : cur.toList[i]? = (cur.toList.take zs.length)[i]? := by rw [List.getElem?_take, if_pos hi]
    rw [Array.getElem?_toList] at e
    rw [e, ht, List.getElem?_map, List.getD_eq_getElem?_getD, List.getElem?_eq_getElem hi]
    rfl
theorem OwnM.ints {A : Option Addr} {n c : Nat} (h : OwnM w base t k (.slice A n c) zs) (hl : zs.length = n) : Ints w k w.heap.size A n zs := by
  obtain ⟨A', c', e, _, _, hi⟩ := h.form
  injection e with e1 e2 _
  subst e1
  rw [hl] at hi
  exact hi
/-- its head, if there is something -/
theorem OwnM.head {A : Option Addr} {n c : Nat} (h : OwnM w base t k (.slice A n c) zs) (h0 : 0 < n) : ∃ g, A = some ⟨g, 0, none⟩ ∧ base ≤ g ∧ w.rangeAt g 0 (zs.map (Value.int k)) := by
  obtain ⟨A', c', e, h1, h2, hi⟩ := h.form
  rcases h.2 with ⟨e', _⟩ | ⟨g, cap, cur, fz, e', hg, _⟩
  · cases e'; omega
  · injection e' with e1 e2 e3
    injection e with f1 f2 f3
    subst e1
    subst f1
    refine ⟨g, rfl, hg, fun j v hv => ?_⟩
    have hj : j < zs.length := by simpa using (List.getElem?_eq_some_iff.1 hv).1
    obtain ⟨b, off, q, _, hc⟩ := hi.at_ hj
    cases q
    rw [hc, ← hv]
    simp [List.getD_eq_getElem?_getD, hj]
theorem OwnM.caps {A : Option Addr} {n c : Nat} (h : OwnM w base t k (.slice A n c) zs) : zs.length = n ∧ n ≤ c ∧ c ≤ maxLen := by
  obtain ⟨A', c', e, h1, h2, _⟩ := h.form
  injection e with e1 e2 e3
  subst e2
  subst e3
  exact ⟨rfl, h1, h2⟩
end
theorem addr_add (g o j : Nat) : (Addr.mk g o none).add j = ⟨g, o + j, none⟩ := by unfold Addr.add; split <;> simp_all

/-- one number appended, within the room that is there -/
theorem run_append_fits_one {P : Program} (w : World) (ts ty e : TypeId) (k : IntKind) (i : TypeInfo) (ht : P.underlying ts = some (.slice e)) (hi : P.info? e = some i) (hs : i.size = 1) (g n cap : Nat) (cur : Array Value) (fz : Nat × Nat)
    (hg : w.heap[g]? = some (.cells cur e fz)) (hf : fz = (0, 0) ∨ cap ≤ fz.1) (hc : cur.size = cap) (hn : n + 1 ≤ cap) (ad : Addr) (c : Nat) (z : Int) (hz : w.cell? ad = some (.int k z)) (had : ad.add 0 = ad) :
    (Builtin.append_ #[ts, ts] ty #[.slice (some ⟨g, 0, none⟩) n cap, .slice (some ad) 1 c]).run P w = .ok (.slice (some ⟨g, 0, none⟩) (n + 1) cap) (w.setCell ⟨g, n, none⟩ (.int k z)) := by
  have hl := run_firstCells_some (P := P) w 1 1 ad 1 c [.int k z] rfl (fun j u hu => by
    cases j with
    | zero => simp at hu; subst hu; rw [had]; exact hz
    | succ j => simp at hu)
  have hcell : w.cell? ⟨g, n, none⟩ = some (cur[n]'(by omega)) := by rw [cell_of_row w g n cur e fz hg, Array.getElem?_eq_getElem]
  have hfr : w.frozen? ⟨g, n, none⟩ = false := by
    simp only [World.frozen?, hg]
    rcases hf with rfl | h
    · simp
    · simp only [Bool.and_eq_false_iff, decide_eq_false_iff_not]
      left
      omega
  simp [Builtin.append_, run_underlying ht, sizeOf, typeInfo, hi, hs, Builtin.lenOf, hn, hl, addr_add, storeCells, run_store P w ⟨g, n, none⟩ (.int k z) _ rfl, hcell, hfr]

theorem run_append_oneM {P : Program} (w : World) (base : Nat) (ts ty e : TypeId) (k : IntKind) (bytes : Nat) (ht : P.underlying ts = some (.slice e))
    (hinfo : (P.info? e).map (fun i => (i.zero, i.size, i.bytes)) = some (some (.int k 0), 1, bytes)) (v : Value) (zs : List Int) (hown : OwnM w base e k v zs)
    (p c : Nat) (z : Int) (hr : w.cell? ⟨p, 0, none⟩ = some (.int k z)) (hwf : (Lit.int k z).wf = true) (hlen : zs.length + 1 ≤ 17592186044416) (hby : bytes ≤ 8) (hbase : base ≤ w.heap.size) :
    ∃ v' w', (Builtin.append_ #[ts, ts] ty #[v, .slice (some ⟨p, 0, none⟩) 1 c]).run P w = .ok v' w' ∧ OwnM w' base e k v' (zs ++ [z]) ∧ w.grownBy w' v.ownBlock ∧
      (v'.ownBlock = v.ownBlock ∨ v'.ownBlock = some w.heap.size) := by
  have hI : Ints w k w.heap.size (some ⟨p, 0, none⟩) 1 [z] := ⟨rfl, fun y hy => by rw [List.mem_singleton.1 hy]; exact hwf, fun _ => ⟨p, 0, rfl, World.block_lt_of_cell? w _ hr, fun i hi => by
    obtain rfl : i = 0 := by omega
    exact hr⟩⟩
  have hwf' : ∀ y ∈ zs ++ [z], (Lit.int k y).wf = true := fun y hy => by
    rcases List.mem_append.1 hy with h | h
    · exact hown.1 y h
    · rw [List.mem_singleton.1 h]; exact hwf
  rcases hown.2 with ⟨rfl, rfl⟩ | ⟨g, cap, cur, fz, rfl, hb, hg, hf, hn, hm, hs, htake⟩
  · obtain ⟨v', w', h1, h2, h3, h4⟩ := run_append_ints (P := P) w base ts ty e k bytes ht hinfo _ [] (Own.nil w base e k) w.heap.size _ 1 c [z] hI (by simp) hby hbase
    exact ⟨v', w', h1, OwnM.of h2, h3, h4⟩
  · obtain ⟨i, hi, hz, hsz, hbb⟩ := info_parts hinfo
    by_cases hroom : zs.length + 1 ≤ cap
    · refine ⟨_, _, run_append_fits_one w ts ty e k i ht hi hsz g zs.length cap cur fz hg hf hs hroom ⟨p, 0, none⟩ c z hr (addr_add _ _ _), ⟨hwf', .inr ⟨g, cap, cur.setIfInBounds zs.length (.int k z), fz, by simp, hb, ?_, hf, by simpa using hroom, hm, by simpa using hs, ?_⟩⟩, grown_setCell w g _ _, .inl rfl⟩
      · simp [World.setCell, Array.getElem?_modify, hg]
      · rw [List.length_append, List.length_singleton, Array.toList_setIfInBounds, List.take_succ_eq_append_getElem (by simp; omega), List.take_set_of_le (Nat.le_refl _), htake]
        simp
    · have holds : ∀ j u, (zs.map (Value.int k))[j]? = some u → w.cell? ((⟨g, 0, none⟩ : Addr).add j) = some u := fun j u hu => by
        have hj : j < zs.length := by simpa using (List.getElem?_eq_some_iff.1 hu).1
        rw [addr_add, Nat.zero_add, cell_of_row w g j cur e fz hg, ← Array.getElem?_toList, ← hu, ← htake, List.getElem?_take, if_pos hj]
      have hr2 := run_append_grow (P := P) w ts ty e i (.int k 0) ht hi hz ⟨g, 0, none⟩ zs.length cap (zs.map (Value.int k)) (by simp [hsz]) holds ⟨p, 0, none⟩ 1 c [.int k z] (by simp [hsz]) (fun j u hu => by
        cases j with
        | zero => simp at hu; subst hu; rw [addr_add]; exact hr
        | succ j => simp at hu) (by omega) (by omega) (growslice_fits (by omega) (by rw [hbb]; exact Nat.le_trans (Nat.mul_le_mul hlen hby) (by omega)))
      have hge := grownCap_ge w (zs.length + 1) cap e
      have hcm : grownCap w (zs.length + 1) cap e ≤ maxLen := grownCap_le_maxLen w (zs.length + 1) cap e (by simp only [maxLen]; omega)
      refine ⟨_, _, hr2, ⟨hwf', .inr ⟨w.heap.size, _, _, (0, 0), by simp, hbase, heap_alloc_new w.drew _, .inl rfl, by simpa using hge, hcm, ?_, ?_⟩⟩, ⟨rfl, rfl, rfl, by simp, fun k hk _ => Below.heap_alloc w.drew _ k hk⟩, .inr rfl⟩
      · simp only [Array.size_append, List.size_toArray, size_zeroCells, List.length_map, List.length_singleton, Value.cells]
        simp
        omega
      · simp only [Array.toList_append, List.append_assoc, List.length_append, List.length_singleton]
        rw [← List.append_assoc, List.take_left' (by simp)]
        simp
/-- a text, turned into bytes of the call's own -/
theorem own_text (w : World) (e : TypeId) (s : ByteArray) (zs : List Int) (hs : s.data.toList.map (fun b => (b.toNat : Int)) = zs) (hm : s.size ≤ 1048576) : OwnM (Lib.bytesWorld w e s) w.heap.size e .u8 (.slice (some ⟨w.heap.size, 0, none⟩) s.size (grownCap w s.size 0 e)) zs := by
  have hl : zs.length = s.size := by rw [← hs, List.length_map]; rfl
  have hge := grownCap_ge w s.size 0 e
  have hsz : (Lib.bytesCells w e s).size = grownCap w s.size 0 e := by
    simp only [Lib.bytesCells, Array.size_append, Array.size_map, Array.size_replicate]
    have : s.data.size = s.size := rfl
    omega
  refine ⟨fun z hz => ?_, .inr ⟨w.heap.size, grownCap w s.size 0 e, Lib.bytesCells w e s, ((Lib.bytesCells w e s).size, (Lib.bytesCells w e s).size + 1), by rw [hl], Nat.le_refl _, ?_, .inr (by simp [hsz]), by rw [hl]; exact hge, grownCap_le_maxLen w s.size 0 e (by simp only [maxLen]; omega), hsz, ?_⟩⟩
  · rw [← hs] at hz
    obtain ⟨b, _, rfl⟩ := List.mem_map.1 hz
    have := b.toNat_lt
    simp [Lit.wf, IntKind.min, IntKind.max, IntKind.signed, IntKind.bits]
    omega
  · simp [Lib.bytesWorld, World.freeze, World.alloc, World.drew, -World.alloc_eq, -World.drew_eq, Array.getElem_modify]
  · rw [hl]
    simp only [Lib.bytesCells, Array.toList_append, Array.toList_map, ← hs]
    rw [List.take_left' (by rw [List.length_map]; rfl), List.map_map]
    rfl
end Go.Proofs.YtoelgcdjhekafaaDoor.Mem
namespace Go.Proofs.YtoelgcdjhekafaaDoor.Ky
open Go.RowKit Go.Shelf Go.Proofs.YtoelgcdjhekafaaDoor.Mem Go.Proofs.YtoelgcdjhekafaaDoor.Help Go.Proofs.YtoelgcdjhekafaaDoor
set_option linter.unusedVariables false
attribute [local irreducible] wpList wpListIn Calls

theorem run_cat {P : Program} (t : TypeId) (xs ys zs : List UInt8) (hz : xs ++ ys = zs) (hl : zs.length ≤ 1048576) (w : World) : (binOp .add t (.string ⟨xs.toArray⟩) (.string ⟨ys.toArray⟩)).run P w = .ok (.string ⟨zs.toArray⟩) w := by
  subst hz
  have e : (⟨xs.toArray⟩ : ByteArray) ++ ⟨ys.toArray⟩ = ⟨(xs ++ ys).toArray⟩ := by
    ext1
    simp [ByteArray.data_append]
  have h1 : (⟨xs.toArray⟩ : ByteArray).size = xs.length := by simp [ByteArray.size]
  have h2 : (⟨ys.toArray⟩ : ByteArray).size = ys.length := by simp [ByteArray.size]
  rw [List.length_append] at hl
  have h3 : ((⟨xs.toArray⟩ : ByteArray).size : Int) + ((⟨ys.toArray⟩ : ByteArray).size : Int) ≤ 9223372036854775807 := by rw [h1, h2]; omega
  simp [binOp, Op.stringOp, h3, e, IntKind.max, IntKind.signed, IntKind.bits]
theorem str_num (x : Nat) (hx : x < 10) : strOfNums [48 + (x : Int)] = ⟨[UInt8.ofNat (48 + x)].toArray⟩ := by
  unfold strOfNums
  have e : (48 + (x : Int)).toNat = 48 + x := by omega
  simp [e]
section
variable {P : Program} {S : World → Prop} {ρ : Operand → Value} {o : Oper}
/-- texts, one behind the other -/
theorem y_cat {t ty : TypeId} {x y : Operand} {xs ys zs : List UInt8} (ho : o.op = .binOp .add t x y ty) (hx : ρ x = .string ⟨xs.toArray⟩) (hy : ρ y = .string ⟨ys.toArray⟩) (hz : xs ++ ys = zs) (hl : zs.length ≤ 1048576) :
    ∀ w, S w → (execOp ρ o).run P w = .ok (.value (.string ⟨zs.toArray⟩)) w := Held.y_bin ho hx hy (fun w => by simp [eqGuard]) (fun w => run_cat t xs ys zs hz hl w)
end
section
variable {P : Program} {ops : Array Oper} {Q : Exit → Act → World → Prop}
/-- an operation that yields v, carried out -/
theorem op_val (i : Nat) (d : Option Tmp) {o : Oper} {a : Act} {w : World} {K : Act → World → Prop} (v : Value) (hi : ops[i]? = some o) (hd : o.dst = d) (hw : Region.wanted o (yielded ops a.tmps) = true)
    (hr : (execOp a.eval o).run P w = .ok (.value v) w) (h : K (a.put d v) w) : wpOp P ops Q i K a w := by
  subst hd
  refine Held.op_wp i hi hw ?_
  unfold Oper.wp
  rw [hr]
  exact h
theorem wpList_cat {rest : List Oper} {o : Oper} {a : Act} {w : World} (hgd : o.guard = none) (t ty : TypeId) (x y : Operand) (ho : o.op = .binOp .add t x y ty) (xs ys zs : List UInt8) (hx : a.eval x = .string ⟨xs.toArray⟩) (hy : a.eval y = .string ⟨ys.toArray⟩) (hz : xs ++ ys = zs) (hl : zs.length ≤ 1048576)
    (h : wpList P ops Q rest (a.put o.dst (.string ⟨zs.toArray⟩)) w) : wpList P ops Q (o :: rest) a w := by
  refine wpList_plain hgd fun K hK => ?_
  unfold Oper.wp
  rw [y_cat (S := fun _ => True) ho hx hy hz hl w trivial]
  exact hK _ _ h
end
theorem dec_length (u : Nat) (h : u < 18446744073709551616) : (Lib.decDigits u).length ≤ 20 := by
  rw [Lib.decDigits_length]
  by_cases h0 : u = 0
  · subst h0; rw [Lib.nDigits_small (by omega)]; omega
  · have := Lib.numDigits_eq u (by omega) h
    split at this <;> omega
theorem dec_big {u : Nat} (h : ¬ u < 10) : Lib.decDigits u = Lib.decDigits (u / 10) ++ [UInt8.ofNat (48 + u % 10)] := by rw [Lib.decDigits, dif_neg h]

set_option maxRecDepth 100000 in
set_option maxHeartbeats 4000000 in
theorem digits_any : ∀ (n u : Nat), u < n → u < 18446744073709551616 → ∀ w : World,
    Calls Tryd.prog 33 #[.int .u64 (u : Int)] w fun e w' => e = .returned (.string ⟨(Lib.decDigits u).toArray⟩) ∧ Below w.heap.size w w'
  | 0, u, h, _, w => absurd h (by omega)
  | n + 1, u, hn, hu, w => by
    by_cases h10 : u < 10
    · have hlt : (u : Int) < 10 := by omega
      have W1 : IntKind.u64.wrap (48 + (u : Int)) = 48 + (u : Int) := by rw [IntKind.wrap_u64]; omega
      have W2 : IntKind.u8.wrap (48 + (u : Int)) = 48 + (u : Int) := by rw [IntKind.wrap_u8]; omega
      have hwz : ∀ z ∈ [48 + (u : Int)], (Lit.int .u8 z).wf = true := fun z hz => by rw [List.mem_singleton.1 hz]; simp [Lit.wf, IntKind.min, IntKind.max, IntKind.signed, IntKind.bits]; omega
      have HS := Lib.hid (str_num u h10)
      go_enter Tryd.func33, Tryd.ntmps33
      go_wp2_with (first
        | (refine Held.wpList_build_row (w := w) rfl 34 5 1 _ rfl .u8 1 [48 + (u : Int)] Tryd.underlying34 info_u8 (by simp [Act.eval]) rfl (by omega) (by omega) hwz ?_; intro w1 r1 g1 z1; have hrun := run_text (P := Tryd.prog) w1 34 9 5 Tryd.underlying34 Tryd.underlying5 Tryd.underlying9 w1.heap.size _ 1 1 _ (r1.ints (n := 1) (by simp)); rw [show [48 + (u : Int)].take 1 = [48 + (u : Int)] from rfl, HS.out] at hrun))
      have b1 : Below w.heap.size w w1 := (Below.refl _ w).grown g1 (Nat.le_refl _) (by simp)
      go_ret
      exact ⟨by simp [Lib.decDigits_one h10], b1⟩
    · have hlt : ¬ (u : Int) < 10 := by omega
      have IH := digits_any n (u / 10) (by omega) (by omega)
      obtain ⟨q, hq⟩ : ∃ q, u / 10 = q := ⟨_, rfl⟩
      obtain ⟨r, hr⟩ : ∃ r, u % 10 = r := ⟨_, rfl⟩
      have hr10 : r < 10 := by omega
      have HD := Lib.hid (show Lib.decDigits q ++ [UInt8.ofNat (48 + r)] = Lib.decDigits u by rw [← hq, ← hr]; exact (dec_big h10).symm)
      have HL := Lib.hid (Nat.le_trans (dec_length u hu) (show 20 ≤ 1048576 by omega))
      rw [hq] at IH
      have W0 : IntKind.u64.wrap ((u : Int).tdiv 10) = (q : Int) := by rw [IntKind.wrap_u64, Int.tdiv_eq_ediv_of_nonneg (by omega)]; omega
      have W1 : (u : Int).tmod 10 = (r : Int) := by rw [Int.tmod_eq_emod_of_nonneg (by omega)]; omega
      have W2 : IntKind.u64.wrap (48 + (r : Int)) = 48 + (r : Int) := by rw [IntKind.wrap_u64]; omega
      have W3 : IntKind.u8.wrap (48 + (r : Int)) = 48 + (r : Int) := by rw [IntKind.wrap_u8]; omega
      have hwz : ∀ z ∈ [48 + (r : Int)], (Lit.int .u8 z).wf = true := fun z hz => by rw [List.mem_singleton.1 hz]; simp [Lit.wf, IntKind.min, IntKind.max, IntKind.signed, IntKind.bits]; omega
      have HS := Lib.hid (str_num r hr10)
      clear hq hr
      go_enter Tryd.func33, Tryd.ntmps33
      go_wp2_with fail
      refine wp_region_held (S := fun W => Below w.heap.size w W) (by kernel_rfl) ?_
      change wpAnyH _ _ _ _ _ _ _ _ w.drew
      have c0_0 := (Below.refl w.heap.size w).drew
      refine Held.take (v := .int .u64 (u : Int)) 0 (some 10) rfl rfl (by kernel_rfl) (by kernel_rfl) (by kernel_rfl) (fun _ _ _ h => h) rfl (Held.y_move rfl rfl) c0_0 ?_
      simp only [Act.put, List.setIfInBounds_toArray, List.set_cons_zero, List.set_cons_succ]
      refine Held.take (v := .int .u64 (q : Int)) 1 (some 11) rfl rfl (by kernel_rfl) (by kernel_rfl) (by kernel_rfl) (fun _ _ _ h => h) rfl (Held.y_int rfl rfl rfl (Held.run_quo 23 .u64 (by omega) W0)) c0_0 ?_
      simp only [Act.put, List.setIfInBounds_toArray, List.set_cons_zero, List.set_cons_succ]
      refine Held.take (v := .int .u64 (u : Int)) 3 (some 13) rfl rfl (by kernel_rfl) (by kernel_rfl) (by kernel_rfl) (fun _ _ _ h => h) rfl (Held.y_move rfl rfl) c0_0 ?_
      simp only [Act.put, List.setIfInBounds_toArray, List.set_cons_zero, List.set_cons_succ]
      refine Held.take (v := .int .u64 (r : Int)) 4 (some 14) rfl rfl (by kernel_rfl) (by kernel_rfl) (by kernel_rfl) (fun _ _ _ h => h) rfl (Held.y_int rfl rfl rfl (Held.run_rem 23 .u64 (by omega) W1)) c0_0 ?_
      simp only [Act.put, List.setIfInBounds_toArray, List.set_cons_zero, List.set_cons_succ]
      refine Held.take (v := .int .u64 (48 + (r : Int))) 5 (some 15) rfl rfl (by kernel_rfl) (by kernel_rfl) (by kernel_rfl) (fun _ _ _ h => h) rfl (Held.y_int rfl rfl rfl (Held.run_add 23 .u64 W2)) c0_0 ?_
      simp only [Act.put, List.setIfInBounds_toArray, List.set_cons_zero, List.set_cons_succ]
      refine Held.take (v := .int .u8 (48 + (r : Int))) 6 (some 16) rfl rfl (by kernel_rfl) (by kernel_rfl) (by kernel_rfl) (fun _ _ _ h => h) rfl (Held.y_convert rfl rfl (by kernel_rfl) Tryd.underlying5 W3) c0_0 ?_
      simp only [Act.put, List.setIfInBounds_toArray, List.set_cons_zero, List.set_cons_succ]
      refine Held.two 2 7 (by kernel_rfl) ?_ ?_
      · refine Held.op_call 2 (some 12) 33 #[.int .u64 (q : Int)] rfl rfl rfl rfl (enters_of Tryd.func33 (by kernel_rfl) rfl) (by simp [Act.eval]) (IH w.drew) ?_
        rintro e x1 ⟨rfl, b1⟩
        have c0_1 := c0_0.trans (b1.mono c0_0.size)
        refine ⟨_, rfl, c0_1, ?_⟩
        simp only [Act.put, List.setIfInBounds_toArray, List.set_cons_zero, List.set_cons_succ]
        refine Held.one 7 (by kernel_rfl) ?_
        refine Held.op_build_Row 7 (some 17) 34 5 1 .u8 1 [48 + (r : Int)] rfl rfl rfl rfl Tryd.underlying34 info_u8 (by simp [Act.eval]) rfl (by omega) (by omega) hwz ?_
        intro p x2 rR bb hp
        have b2 : Below x1.heap.size x1 x2 := ⟨bb.os, bb.tape, bb.output, bb.size, bb.block⟩
        have c0_2 := c0_1.trans (b2.mono c0_1.size)
        refine ⟨c0_2, ?_⟩
        simp only [Act.put, List.setIfInBounds_toArray, List.set_cons_zero, List.set_cons_succ]
        refine Held.one 8 (by kernel_rfl) ?_
        have hrun := run_text (P := Tryd.prog) x2 34 9 5 Tryd.underlying34 Tryd.underlying5 Tryd.underlying9 x2.heap.size _ 1 1 _ (rR.ints (n := 1) (by simp))
        rw [show [48 + (r : Int)].take 1 = [48 + (r : Int)] from rfl, HS.out] at hrun
        refine op_val 8 (some 18) (.string ⟨[UInt8.ofNat (48 + r)].toArray⟩) rfl rfl rfl (by simp [execOp, Act.eval, hrun]) ?_
        obtain ⟨x3, hx3⟩ : ∃ x, x = x2 := ⟨_, rfl⟩
        rw [← hx3] at c0_2 rR ⊢
        have c0_3 := c0_2
        clear hrun hx3
        refine ⟨c0_3, ?_⟩
        simp only [Act.put, List.setIfInBounds_toArray, List.set_cons_zero, List.set_cons_succ]
        refine Held.take (v := .string ⟨(Lib.decDigits u).toArray⟩) 9 (some 19) rfl rfl (by kernel_rfl) (by kernel_rfl) (by kernel_rfl) (fun _ _ _ h => h) rfl (y_cat rfl rfl rfl HD.out HL.out) c0_3 ?_
        simp only [Act.put, List.setIfInBounds_toArray, List.set_cons_zero, List.set_cons_succ]
        refine Held.take (v := .string ⟨(Lib.decDigits u).toArray⟩) 10 (some 2) rfl rfl (by kernel_rfl) (by kernel_rfl) (by kernel_rfl) (fun _ _ _ h => h) rfl (Held.y_assign rfl rfl) c0_3 ?_
        simp only [Act.put, List.setIfInBounds_toArray, List.set_cons_zero, List.set_cons_succ]
        refine wpAnyH_done (by kernel_rfl) ?_ _
        go_wp2_with fail
        go_ret
        exact ⟨rfl, c0_3⟩
      · refine Held.op_build_Row 7 (some 17) 34 5 1 .u8 1 [48 + (r : Int)] rfl rfl rfl rfl Tryd.underlying34 info_u8 (by simp [Act.eval]) rfl (by omega) (by omega) hwz ?_
        intro p x1 rR bb hp
        have b1 : Below w.drew.heap.size w.drew x1 := ⟨bb.os, bb.tape, bb.output, bb.size, bb.block⟩
        have c0_1 := c0_0.trans (b1.mono c0_0.size)
        refine ⟨c0_1, ?_⟩
        simp only [Act.put, List.setIfInBounds_toArray, List.set_cons_zero, List.set_cons_succ]
        refine Held.two 2 8 (by kernel_rfl) ?_ ?_
        · refine Held.op_call 2 (some 12) 33 #[.int .u64 (q : Int)] rfl rfl rfl rfl (enters_of Tryd.func33 (by kernel_rfl) rfl) (by simp [Act.eval]) (IH x1) ?_
          rintro e x2 ⟨rfl, b2⟩
          have c0_2 := c0_1.trans (b2.mono c0_1.size)
          have rR := rR.below b2 rR.lt
          refine ⟨_, rfl, c0_2, ?_⟩
          simp only [Act.put, List.setIfInBounds_toArray, List.set_cons_zero, List.set_cons_succ]
          refine Held.one 8 (by kernel_rfl) ?_
          have hrun := run_text (P := Tryd.prog) x2 34 9 5 Tryd.underlying34 Tryd.underlying5 Tryd.underlying9 x2.heap.size _ 1 1 _ (rR.ints (n := 1) (by simp))
          rw [show [48 + (r : Int)].take 1 = [48 + (r : Int)] from rfl, HS.out] at hrun
          refine op_val 8 (some 18) (.string ⟨[UInt8.ofNat (48 + r)].toArray⟩) rfl rfl rfl (by simp [execOp, Act.eval, hrun]) ?_
          obtain ⟨x3, hx3⟩ : ∃ x, x = x2 := ⟨_, rfl⟩
          rw [← hx3] at c0_2 rR ⊢
          have c0_3 := c0_2
          clear hrun hx3
          refine ⟨c0_3, ?_⟩
          simp only [Act.put, List.setIfInBounds_toArray, List.set_cons_zero, List.set_cons_succ]
          refine Held.take (v := .string ⟨(Lib.decDigits u).toArray⟩) 9 (some 19) rfl rfl (by kernel_rfl) (by kernel_rfl) (by kernel_rfl) (fun _ _ _ h => h) rfl (y_cat rfl rfl rfl HD.out HL.out) c0_3 ?_
          simp only [Act.put, List.setIfInBounds_toArray, List.set_cons_zero, List.set_cons_succ]
          refine Held.take (v := .string ⟨(Lib.decDigits u).toArray⟩) 10 (some 2) rfl rfl (by kernel_rfl) (by kernel_rfl) (by kernel_rfl) (fun _ _ _ h => h) rfl (Held.y_assign rfl rfl) c0_3 ?_
          simp only [Act.put, List.setIfInBounds_toArray, List.set_cons_zero, List.set_cons_succ]
          refine wpAnyH_done (by kernel_rfl) ?_ _
          go_wp2_with fail
          go_ret
          exact ⟨rfl, c0_3⟩
        · have hrun := run_text (P := Tryd.prog) x1 34 9 5 Tryd.underlying34 Tryd.underlying5 Tryd.underlying9 x1.heap.size _ 1 1 _ (rR.ints (n := 1) (by simp))
          rw [show [48 + (r : Int)].take 1 = [48 + (r : Int)] from rfl, HS.out] at hrun
          refine op_val 8 (some 18) (.string ⟨[UInt8.ofNat (48 + r)].toArray⟩) rfl rfl rfl (by simp [execOp, Act.eval, hrun]) ?_
          obtain ⟨x2, hx2⟩ : ∃ x, x = x1 := ⟨_, rfl⟩
          rw [← hx2] at c0_1 rR ⊢
          have c0_2 := c0_1
          clear hrun hx2
          refine ⟨c0_2, ?_⟩
          simp only [Act.put, List.setIfInBounds_toArray, List.set_cons_zero, List.set_cons_succ]
          refine Held.one 2 (by kernel_rfl) ?_
          refine Held.op_call 2 (some 12) 33 #[.int .u64 (q : Int)] rfl rfl rfl rfl (enters_of Tryd.func33 (by kernel_rfl) rfl) (by simp [Act.eval]) (IH x2) ?_
          rintro e x3 ⟨rfl, b3⟩
          have c0_3 := c0_2.trans (b3.mono c0_2.size)
          have rR := rR.below b3 rR.lt
          refine ⟨_, rfl, c0_3, ?_⟩
          simp only [Act.put, List.setIfInBounds_toArray, List.set_cons_zero, List.set_cons_succ]
          refine Held.take (v := .string ⟨(Lib.decDigits u).toArray⟩) 9 (some 19) rfl rfl (by kernel_rfl) (by kernel_rfl) (by kernel_rfl) (fun _ _ _ h => h) rfl (y_cat rfl rfl rfl HD.out HL.out) c0_3 ?_
          simp only [Act.put, List.setIfInBounds_toArray, List.set_cons_zero, List.set_cons_succ]
          refine Held.take (v := .string ⟨(Lib.decDigits u).toArray⟩) 10 (some 2) rfl rfl (by kernel_rfl) (by kernel_rfl) (by kernel_rfl) (fun _ _ _ h => h) rfl (Held.y_assign rfl rfl) c0_3 ?_
          simp only [Act.put, List.setIfInBounds_toArray, List.set_cons_zero, List.set_cons_succ]
          refine wpAnyH_done (by kernel_rfl) ?_ _
          go_wp2_with fail
          go_ret
          exact ⟨rfl, c0_3⟩

theorem digits_at (u : Nat) (hu : u < 18446744073709551616) (w : World) :
    Calls Tryd.prog 33 #[.int .u64 (u : Int)] w fun e w' => e = .returned (.string ⟨(Lib.decDigits u).toArray⟩) ∧ Below w.heap.size w w' := digits_any (u + 1) u (by omega) hu w
theorem itoa_length (v : Int) (h : -9223372036854775808 ≤ v ∧ v ≤ 9223372036854775807) : (Lib.itoa v).length ≤ 21 := by
  unfold Lib.itoa
  split
  · have := dec_length v.natAbs (by omega)
    rw [List.length_cons]
    omega
  · have := dec_length v.toNat (by omega)
    omega
set_option maxRecDepth 100000 in
theorem number_any (v : Int) (h : -9223372036854775808 ≤ v ∧ v ≤ 9223372036854775807) (w : World) :
    Calls Tryd.prog 32 #[.int .i64 v] w fun e w' => e = .returned (.string ⟨(Lib.itoa v).toArray⟩) ∧ Below w.heap.size w w' := by
  have HL := Lib.hid (Nat.le_trans (itoa_length v h) (show 21 ≤ 1048576 by omega))
  by_cases hneg : v < 0
  · obtain ⟨u, hu⟩ : ∃ u : Nat, v.natAbs = u := ⟨_, rfl⟩
    have HI := Lib.hid (show [45] ++ Lib.decDigits u = Lib.itoa v by rw [← hu]; unfold Lib.itoa; rw [if_pos hneg]; rfl)
    have W1 : IntKind.i64.wrap (v + 1) = v + 1 := by rw [IntKind.wrap_i64]; omega
    have W2 : IntKind.i64.wrap (-(v + 1)) = -(v + 1) := by rw [IntKind.wrap_i64]; omega
    have W3 : IntKind.u64.wrap (-(v + 1)) = -(v + 1) := by rw [IntKind.wrap_u64]; omega
    have W4 : IntKind.u64.wrap (-(v + 1) + 1) = (u : Int) := by rw [IntKind.wrap_u64]; omega
    have hb : u < 18446744073709551616 := by omega
    clear hu
    go_enter Tryd.func32, Tryd.ntmps32
    go_wp2_with fail
    refine (digits_at u hb _).mono ?_
    rintro e w1 ⟨rfl, b1⟩
    go_wp2_with (refine wpList_cat rfl 9 9 _ _ rfl [45] (Lib.decDigits u) (Lib.itoa v) rfl rfl HI.out HL.out ?_)
    go_ret
    exact ⟨rfl, b1⟩
  · obtain ⟨u, hu⟩ : ∃ u : Nat, v.toNat = u := ⟨_, rfl⟩
    have HI := Lib.hid (show Lib.decDigits u = Lib.itoa v by rw [← hu]; unfold Lib.itoa; rw [if_neg hneg])
    have W3 : IntKind.u64.wrap v = (u : Int) := by rw [IntKind.wrap_u64]; omega
    have hb : u < 18446744073709551616 := by omega
    clear hu
    go_enter Tryd.func32, Tryd.ntmps32
    go_wp2_with fail
    refine (digits_at u hb _).mono ?_
    rintro e w1 ⟨rfl, b1⟩
    go_wp2_with fail
    go_ret
    exact ⟨by rw [HI.out]; rfl, b1⟩
end Go.Proofs.YtoelgcdjhekafaaDoor.Ky
