/-
  Words for slices of numbers in memory, and small facts about them: no program here. No conditions beyond those stated.
  Slices that a call itself has made: what they hold, what append and a store make of them: no program here. No conditions beyond those stated.
  Arrays of numbers, in blocks of their own and by value: no program here. No conditions beyond those stated.
  Two arrays of the same integers are alike, by the model's own '=='.
  Slices of values of one cell each (slices of slices among them): no program here. No conditions beyond those stated.
  append(s, make([]T, m)...) onto what the call owns, for numbers: no program here. No conditions beyond those stated.
-/
import Derived.WalkKit
import Derived.ProofKit
import Derived.OpenShut
import Derived.Below
import Derived.Lib.Hide
import Derived.Deep.Draws
import Derived.Deep.QuietTactic
import Derived.BigQuiet
import Derived.Laws.OwnMore
import Derived.Maps.AppendAt
import Derived.OwnWalk
import Derived.RegionTactic
import Derived.Laws.BytesArg
import Derived.Laws.Rows
import Derived.Laws.Tables
import Derived.ChangeKeysEq
import Derived.Deep.OwnRows
import Derived.Laws.Slices
import Derived.Laws.StructEq
import Derived.Lib.AppendZerosOnto
namespace Go.Proofs.Ytjelacblnjbfgaa.Mem
open Go.RowKit

theorem ret_int {k : IntKind} {a b : Int} (h : a = b) : Ending.returned (.int k a) = .returned (.int k b) := by rw [h]
theorem ret_bool {a b : Bool} (h : a = b) : Ending.returned (.bool a) = .returned (.bool b) := by rw [h]

/-- a call that leaves the world alone, inside a region whose order is open -/
theorem quiet_same {P : Program} {f : FuncId} {args : Array Value} {w : World} {n : Nat} {v : Value}
    (h : Calls P f args (w.drewN n) fun e w' => e = .returned v ∧ w.drewN n = w') : Calls P f args (w.drewN n) fun e w'' => e = .returned v ∧ ∃ m, w'' = w.drewN m :=
  h.mono fun _ _ ⟨he, hm⟩ => ⟨he, n, hm.symm⟩

theorem below_drewN {B : Nat} {a w : World} (h : Below B a w) (n : Nat) : Below B a (w.drewN n) := ⟨h.os, h.tape, h.output, h.size, h.block⟩

/-- the slice at A, of n numbers of kind k, below block B, reads as the list zs -/
def Ints (w : World) (k : IntKind) (B : Nat) (A : Option Addr) (n : Nat) (zs : List Int) : Prop :=
  zs.length = n ∧ (∀ z ∈ zs, (Lit.int k z).wf = true) ∧ (0 < n → ∃ b off, A = some ⟨b, off, none⟩ ∧ b < B ∧ ∀ i, i < n → w.cell? ⟨b, off + i, none⟩ = some (.int k (zs.getD i 0)))

section
variable {w w' : World} {k : IntKind} {B B' n : Nat} {A : Option Addr} {zs : List Int}
theorem Ints.nil (w : World) (k : IntKind) (B : Nat) (A : Option Addr) : Ints w k B A 0 [] := ⟨rfl, by simp, fun h => absurd h (by omega)⟩
theorem Ints.keep (h : Ints w k B A n zs) (hk : ∀ p : Addr, p.block < B → w'.cell? p = w.cell? p) : Ints w' k B A n zs :=
  ⟨h.1, h.2.1, fun hn => by
    obtain ⟨b, off, e, hb, hc⟩ := h.2.2 hn
    exact ⟨b, off, e, hb, fun i hi => (hk ⟨b, off + i, none⟩ hb).trans (hc i hi)⟩⟩
theorem Ints.more (h : Ints w k B A n zs) (hB : B ≤ B') : Ints w k B' A n zs :=
  ⟨h.1, h.2.1, fun hn => by
    obtain ⟨b, off, e, hb, hc⟩ := h.2.2 hn
    exact ⟨b, off, e, by omega, hc⟩⟩
theorem Ints.below (h : Ints w k B A n zs) (hb : Below B w w') : Ints w' k B A n zs := h.keep fun _ hp => hb.cell hp
theorem Ints.drew (h : Ints w k B A n zs) : Ints w.drew k B A n zs := h
theorem Ints.drewN (h : Ints w k B A n zs) (m : Nat) : Ints (w.drewN m) k B A n zs := h
theorem Ints.alloc (h : Ints w k B A n zs) (hB : B ≤ w.heap.size) (o : Obj) : Ints (w.alloc o) k B A n zs := h.keep fun p hp => World.cell?_alloc_lt w o p (by omega)
theorem Ints.setCell (h : Ints w k B A n zs) {p : Addr} (hB : B ≤ p.block) (u : Value) : Ints (w.setCell p u) k B A n zs :=
  h.keep fun q hq => World.cell?_setCell_other w p q u (fun e => by subst e; omega)
theorem Ints.range (h : Ints w k B A n zs) {i : Nat} (hi : i < n) : (Lit.int k (zs.getD i 0)).wf = true := by
  have hl : i < zs.length := by have := h.1; omega
  rw [List.getD_eq_getElem?_getD, List.getElem?_eq_getElem hl]
  exact h.2.1 _ (List.getElem_mem hl)
theorem Ints.at_ (h : Ints w k B A n zs) {i : Nat} (hi : i < n) : ∃ b off, A = some ⟨b, off, none⟩ ∧ b < B ∧ w.cell? ⟨b, off + i, none⟩ = some (.int k (zs.getD i 0)) := by
  obtain ⟨b, off, e, hb, hc⟩ := h.2.2 (by omega)
  exact ⟨b, off, e, hb, hc i hi⟩
end

theorem wf_u8 {z : Int} (h : (Lit.int .u8 z).wf = true) : 0 ≤ z ∧ z ≤ 255 := by simpa [Lit.wf, IntKind.min, IntKind.max, IntKind.signed, IntKind.bits] using h
theorem wf_u64 {z : Int} (h : (Lit.int .u64 z).wf = true) : 0 ≤ z ∧ z ≤ 18446744073709551615 := by simpa [Lit.wf, IntKind.min, IntKind.max, IntKind.signed, IntKind.bits] using h
theorem wf_i64 {z : Int} (h : (Lit.int .i64 z).wf = true) : -9223372036854775808 ≤ z ∧ z ≤ 9223372036854775807 := by simpa [Lit.wf, IntKind.min, IntKind.max, IntKind.signed, IntKind.bits] using h

/-- what the frame of a proof says of a slice that came in, as 'Ints' -/
theorem ints_of_row {kd : IntKind} {w : World} {a : Option Addr} {len cap : Nat} {zs : List Int}
    (h : (a = none ∧ len = 0 ∧ cap = 0 ∧ zs = []) ∨
      ∃ x, a = some x ∧ len ≤ cap ∧ cap ≤ maxLen ∧ zs.length = cap ∧ (∀ i, i < zs.length → w.cell? (x.add i) = some (.int kd (zs.getD i 0))) ∧ ∀ n ∈ zs, (Lit.int kd n).wf = true) :
    Ints w kd w.heap.size a len (zs.take len) ∧ len ≤ cap ∧ cap ≤ maxLen := by
  rcases h with ⟨rfl, rfl, rfl, rfl⟩ | ⟨x, rfl, hl, hm, hz, hc, hw⟩
  · exact ⟨Ints.nil _ _ _ _, Nat.le_refl _, by simp [maxLen]⟩
  · refine ⟨⟨by rw [List.length_take]; omega, fun z hzm => hw z (List.mem_of_mem_take hzm), fun hn => ?_⟩, hl, hm⟩
    obtain ⟨b, off, spot⟩ := x
    have h0 := hc 0 (by omega)
    have hspot : spot = none := by simpa [Addr.add] using World.cell?_spot h0
    subst hspot
    have hlt : b < w.heap.size := by simpa [Addr.add] using World.block_lt_of_cell? w _ h0
    refine ⟨b, off, rfl, hlt, fun i hi => ?_⟩
    have := hc i (by omega)
    have e : (Addr.mk b off none).add i = ⟨b, off + i, none⟩ := by unfold Addr.add; split <;> simp_all
    rw [e] at this
    rw [this]
    congr 2
    simp only [List.getD_eq_getElem?_getD, List.getElem?_take, hi, if_true]
end Go.Proofs.Ytjelacblnjbfgaa.Mem
namespace Go.Proofs.Ytjelacblnjbfgaa.Mem
open Go.RowKit

/-- the slice v, of the call's own blocks from base on, elements of type t and kind k, owns the numbers zs -/
def Own (w : World) (base : Nat) (t : TypeId) (k : IntKind) (v : Value) (zs : List Int) : Prop :=
  (∀ z ∈ zs, (Lit.int k z).wf = true) ∧ w.ownsRow base t 1 v zs.length (zs.map (Value.int k))

section
variable {w w' : World} {base : Nat} {t : TypeId} {k : IntKind} {v : Value} {zs : List Int}
theorem Own.nil (w : World) (base : Nat) (t : TypeId) (k : IntKind) : Own w base t k (.slice none 0 0) [] := ⟨by simp, World.ownsRow_nil _ _ _ _⟩
theorem Own.drewN (h : Own w base t k v zs) (n : Nat) : Own (w.drewN n) base t k v zs := h
theorem Own.alloc (h : Own w base t k v zs) (o : Obj) : Own (w.alloc o) base t k v zs := ⟨h.1, h.2.alloc o⟩
theorem Own.kept (h : Own w base t k v zs) {row : Option Nat} (hg : w.grownBy w' row) (hne : v.ownBlock = none ∨ v.ownBlock ≠ row) : Own w' base t k v zs := ⟨h.1, h.2.kept hg hne⟩
theorem grown_of_below (h : Below w.heap.size w w') (row : Option Nat) : w.grownBy w' row := ⟨h.os, h.tape, h.output, h.size, fun i hi _ => h.block i hi⟩
theorem Own.below (h : Own w base t k v zs) (hb : Below w.heap.size w w') : Own w' base t k v zs :=
  h.kept (grown_of_below hb none) (by cases v.ownBlock <;> simp)
theorem Own.less (h : Own w base t k v zs) {b : Nat} (hb : b ≤ base) : Own w b t k v zs := by
  refine ⟨h.1, h.2.1, ?_⟩
  rcases h.2.2 with hn | ⟨g, cap, cur, e, hg, r⟩
  · exact .inl hn
  · exact .inr ⟨g, cap, cur, e, by omega, r⟩

theorem Own.form (h : Own w base t k v zs) : ∃ A c, v = .slice A zs.length c ∧ zs.length ≤ c ∧ c ≤ maxLen ∧ Ints w k w.heap.size A zs.length zs := by
  rcases h.2.2 with ⟨rfl, hn⟩ | ⟨g, cap, cur, rfl, hb, hg, hnc, hcm, hcs, ht⟩
  · have : zs = [] := List.eq_nil_of_length_eq_zero hn
    subst this
    exact ⟨none, 0, rfl, Nat.le_refl _, by simp [maxLen], Ints.nil _ _ _ _⟩
  · refine ⟨_, cap, rfl, hnc, hcm, rfl, h.1, fun _ => ⟨g, 0, rfl, (Array.getElem?_eq_some_iff.1 hg).1, fun i hi => ?_⟩⟩
    have hc := h.2.cells (g := g) rfl i (.int k (zs.getD i 0)) (by simp [List.getD_eq_getElem?_getD, hi])
    have e : (Addr.mk g 0 none).add i = ⟨g, 0 + i, none⟩ := by unfold Addr.add; split <;> simp_all
    rwa [e] at hc

theorem Own.ints {A : Option Addr} {n c : Nat} (h : Own w base t k (.slice A n c) zs) (hl : zs.length = n) : Ints w k w.heap.size A n zs := by
  obtain ⟨A', c', e, _, _, hi⟩ := h.form
  injection e with e1 e2 _
  subst e1
  rw [hl] at hi
  exact hi

/-- what is owned, cell by cell -/
theorem Own.at_ (h : Own w base t k v zs) (hn : 0 < zs.length) : ∃ g c, v = .slice (some ⟨g, 0, none⟩) zs.length c ∧ base ≤ g ∧ g < w.heap.size ∧ zs.length ≤ c ∧ c ≤ maxLen ∧
    (∀ i, i < zs.length → w.cell? ⟨g, i, none⟩ = some (.int k (zs.getD i 0))) ∧ (∀ i, w.frozen? ⟨g, i, none⟩ = false) := by
  rcases h.2.2 with ⟨rfl, hn'⟩ | ⟨g, cap, cur, rfl, hb, hg, hnc, hcm, hcs, ht⟩
  · omega
  · refine ⟨g, cap, rfl, hb, (Array.getElem?_eq_some_iff.1 hg).1, hnc, hcm, fun i hi => ?_, fun i => by simp [World.frozen?, hg]⟩
    have hc := h.2.cells (g := g) rfl i (.int k (zs.getD i 0)) (by simp [List.getD_eq_getElem?_getD, hi])
    have e : (Addr.mk g 0 none).add i = ⟨g, i, none⟩ := by unfold Addr.add; split <;> simp_all
    rwa [e] at hc

/-- a store into what is owned -/
theorem Own.set {g c : Nat} (h : Own w base t k (.slice (some ⟨g, 0, none⟩) zs.length c) zs) (i : Nat) {z : Int} (hz : (Lit.int k z).wf = true) :
    Own (w.setCell ⟨g, i, none⟩ (.int k z)) base t k (.slice (some ⟨g, 0, none⟩) zs.length c) (zs.set i z) := by
  refine ⟨fun y hy => ?_, by simp, ?_⟩
  · rcases List.mem_or_eq_of_mem_set hy with h1 | h1
    · exact h.1 y h1
    · rw [h1]; exact hz
  · rcases h.2.2 with ⟨e, _⟩ | ⟨g', cap, cur, e, hb, hg, hnc, hcm, hcs, ht⟩
    · cases e
    · injection e with e1 _ e3
      injection e1 with e1
      injection e1 with e1
      subst e1
      subst e3
      refine .inr ⟨g, c, cur.setIfInBounds i (.int k z), by simp, hb, ?_, by simpa using hnc, hcm, by simpa using hcs, ?_⟩
      · simp [World.setCell, Array.getElem?_modify, hg]
      · rw [Array.toList_setIfInBounds, List.take_set, List.length_set]
        rw [ht]
        simp [List.map_set]

theorem grown_setCell (w : World) (g i : Nat) (u : Value) : w.grownBy (w.setCell ⟨g, i, none⟩ u) (some g) :=
  ⟨rfl, rfl, rfl, by simp [World.setCell], fun j _ hne => Below.heap_setCell w _ u j (fun e => hne (by rw [e]))⟩

theorem Below.of_grown {B : Nat} {a : World} (h : Below B a w) {row : Option Nat} (hg : w.grownBy w' row) (hB : B ≤ w.heap.size) (hr : ∀ g, row = some g → B ≤ g) : Below B a w' := h.grown hg hB hr
end

/-- append, of numbers that read as a list (nil or not), onto what the call owns -/
theorem run_append_ints {P : Program} (w : World) (base : Nat) (ts ty e : TypeId) (k : IntKind) (bytes : Nat) (ht : P.underlying ts = some (.slice e))
    (hinfo : (P.info? e).map (fun i => (i.zero, i.size, i.bytes)) = some (some (.int k 0), 1, bytes)) (v : Value) (zs : List Int) (hown : Own w base e k v zs)
    (B : Nat) (A : Option Addr) (m c : Nat) (xs : List Int) (hr : Ints w k B A m xs) (hlen : zs.length + m ≤ 17592186044416) (hby : bytes ≤ 8) (hbase : base ≤ w.heap.size) :
    ∃ v' w', (Builtin.append_ #[ts, ts] ty #[v, .slice A m c]).run P w = .ok v' w' ∧ Own w' base e k v' (zs ++ xs) ∧ w.grownBy w' v.ownBlock ∧
      (v'.ownBlock = v.ownBlock ∨ v'.ownBlock = some w.heap.size) := by
  obtain ⟨i, hi, hz, hsz, hb⟩ := info_parts hinfo
  have hwf : ∀ z ∈ zs ++ xs, (Lit.int k z).wf = true := by
    intro z hz'
    rcases List.mem_append.1 hz' with h | h
    · exact hown.1 z h
    · exact hr.2.1 z h
  have hxl := hr.1
  rcases A with _ | ad
  · have hm : m = 0 := by
      rcases Nat.eq_zero_or_pos m with h0 | h0
      · exact h0
      · obtain ⟨_, _, h, _⟩ := hr.2.2 h0
        cases h
    subst hm
    have hx : xs = [] := List.eq_nil_of_length_eq_zero hxl
    subst hx
    refine ⟨v, w, ?_, by simpa using hown, World.grownBy.refl w _, .inl rfl⟩
    rcases hown.2.2 with ⟨rfl, _⟩ | ⟨g, cap, cur, rfl, _, _, hnc, _⟩
    · simp [Builtin.append_, run_underlying ht, sizeOf, typeInfo, hi, Builtin.lenOf, Builtin.firstCells]
    · simp [Builtin.append_, run_underlying ht, sizeOf, typeInfo, hi, Builtin.lenOf, Builtin.firstCells, hnc, storeCells]
  · have hcells : ∀ j u, (xs.map (Value.int k))[j]? = some u → w.cell? (ad.add j) = some u := by
      intro j u hu
      have hj : j < m := by
        have := (List.getElem?_eq_some_iff.1 hu).1
        simp at this
        omega
      obtain ⟨b, off, h, _, hc⟩ := hr.at_ hj
      injection h with h
      subst h
      have e : (Addr.mk b off none).add j = ⟨b, off + j, none⟩ := by unfold Addr.add; split <;> simp_all
      rw [e, hc, ← hu]
      simp [List.getD_eq_getElem?_getD, show j < xs.length by omega]
    obtain ⟨v', w', hrun, h2, h3, _, h5⟩ := run_append_own_at (P := P) w base ts ty e i (.int k 0) 1 bytes ht hi hz hsz hb rfl (by omega) v zs.length (zs.map (Value.int k)) hown.2 ad m c
      (xs.map (Value.int k)) (by simp [hxl]) hcells (by intro u hu; obtain ⟨z, _, rfl⟩ := List.mem_map.1 hu; rfl) (by simp only [maxLen]; omega)
      (Nat.le_trans (Nat.mul_le_mul hlen hby) (by omega)) hbase
    refine ⟨v', w', hrun, ⟨hwf, ?_⟩, h3, h5⟩
    rw [List.length_append, List.map_append, hxl]
    exact h2

section
variable {P : Program} (w : World) {ops : Array Oper} {rest : List Oper} {o : Oper} {a : Act}
theorem wp_append_ints {K : Act → World → Prop} {Q : Exit → Act → World → Prop} (s x : Operand) (ts : TypeId)
    (ho : o.op = .call { callee := .builtin .append, args := #[s, x], argTypes := #[ts, ts] }) (base : Nat) (e : TypeId) (k : IntKind) (bytes : Nat) (ht : P.underlying ts = some (.slice e))
    (hinfo : (P.info? e).map (fun i => (i.zero, i.size, i.bytes)) = some (some (.int k 0), 1, bytes)) (v : Value) (zs : List Int) (hs : a.eval s = v) (hown : Own w base e k v zs)
    (B : Nat) (A : Option Addr) (m c : Nat) (xs : List Int) (hx : a.eval x = .slice A m c) (hr : Ints w k B A m xs) (hlen : zs.length + m ≤ 17592186044416) (hby : bytes ≤ 8) (hbase : base ≤ w.heap.size)
    (h : ∀ v' w', Own w' base e k v' (zs ++ xs) → w.grownBy w' v.ownBlock → (v'.ownBlock = v.ownBlock ∨ v'.ownBlock = some w.heap.size) → K (a.put o.dst v') w') : o.wp P a w K Q := by
  obtain ⟨v', w', hrun, h2, h3, h4⟩ := run_append_ints (P := P) w base ts o.type e k bytes ht hinfo v zs hown B A m c xs hr hlen hby hbase
  unfold Oper.wp execOp
  simp only [ho, resolve, invoke, builtin, Sem.run_bind, Sem.run_pure, Result.andThen_ok, List.map_toArray, List.map_cons, List.map_nil, hs, hx, hrun]
  exact h v' w' h2 h3 h4

theorem wpList_append_ints {Q : Exit → Act → World → Prop} (hw : Region.wanted o (yielded ops a.tmps) = true) (s x : Operand) (ts : TypeId)
    (ho : o.op = .call { callee := .builtin .append, args := #[s, x], argTypes := #[ts, ts] }) (base : Nat) (e : TypeId) (k : IntKind) (bytes : Nat) (ht : P.underlying ts = some (.slice e))
    (hinfo : (P.info? e).map (fun i => (i.zero, i.size, i.bytes)) = some (some (.int k 0), 1, bytes)) (v : Value) (zs : List Int) (hs : a.eval s = v) (hown : Own w base e k v zs)
    (B : Nat) (A : Option Addr) (m c : Nat) (xs : List Int) (hx : a.eval x = .slice A m c) (hr : Ints w k B A m xs) (hlen : zs.length + m ≤ 17592186044416) (hby : bytes ≤ 8) (hbase : base ≤ w.heap.size)
    (h : ∀ v' w', Own w' base e k v' (zs ++ xs) → w.grownBy w' v.ownBlock → (v'.ownBlock = v.ownBlock ∨ v'.ownBlock = some w.heap.size) → wpList P ops Q rest (a.put o.dst v') w') :
    wpList P ops Q (o :: rest) a w :=
  wpList_step fun _ hK => by
    rw [if_pos hw]
    exact wp_append_ints w s x ts ho base e k bytes ht hinfo v zs hs hown B A m c xs hx hr hlen hby hbase fun v' w' h2 h3 h4 => hK _ _ (h v' w' h2 h3 h4)

theorem step_append_ints {K : Act → World → Prop} {Q : Exit → Act → World → Prop} {E : Prop} (hgd : o.guard = none) (s x : Operand) (ts : TypeId)
    (ho : o.op = .call { callee := .builtin .append, args := #[s, x], argTypes := #[ts, ts] }) (base : Nat) (e : TypeId) (k : IntKind) (bytes : Nat) (ht : P.underlying ts = some (.slice e))
    (hinfo : (P.info? e).map (fun i => (i.zero, i.size, i.bytes)) = some (some (.int k 0), 1, bytes)) (v : Value) (zs : List Int) (hs : a.eval s = v) (hown : Own w base e k v zs)
    (B : Nat) (A : Option Addr) (m c : Nat) (xs : List Int) (hx : a.eval x = .slice A m c) (hr : Ints w k B A m xs) (hlen : zs.length + m ≤ 17592186044416) (hby : bytes ≤ 8) (hbase : base ≤ w.heap.size)
    (h : ∀ v' w', Own w' base e k v' (zs ++ xs) → w.grownBy w' v.ownBlock → (v'.ownBlock = v.ownBlock ∨ v'.ownBlock = some w.heap.size) → K (a.put o.dst v') w') :
    if Region.wanted o (yielded ops a.tmps) = true then Oper.wp P o a w K Q else E := by
  have hw : Region.wanted o (yielded ops a.tmps) = true := by simp [Region.wanted, hgd]
  rw [if_pos hw]
  exact wp_append_ints w s x ts ho base e k bytes ht hinfo v zs hs hown B A m c xs hx hr hlen hby hbase h
end

/-- append within the room that is there -/
theorem run_append_ints_fits {P : Program} (w : World) (base : Nat) (ts ty e : TypeId) (k : IntKind) (bytes : Nat) (ht : P.underlying ts = some (.slice e))
    (hinfo : (P.info? e).map (fun i => (i.zero, i.size, i.bytes)) = some (some (.int k 0), 1, bytes)) (g cap : Nat) (zs : List Int) (hown : Own w base e k (.slice (some ⟨g, 0, none⟩) zs.length cap) zs)
    (B : Nat) (A : Option Addr) (m c : Nat) (xs : List Int) (hr : Ints w k B A m xs) (hfit : zs.length + m ≤ cap) :
    ∃ w', (Builtin.append_ #[ts, ts] ty #[.slice (some ⟨g, 0, none⟩) zs.length cap, .slice A m c]).run P w = .ok (.slice (some ⟨g, 0, none⟩) (zs.length + m) cap) w' ∧
      Own w' base e k (.slice (some ⟨g, 0, none⟩) (zs.length + m) cap) (zs ++ xs) ∧ w.grownBy w' (some g) := by
  obtain ⟨i, hi, hz, hsz, hb⟩ := info_parts hinfo
  have hwf : ∀ z ∈ zs ++ xs, (Lit.int k z).wf = true := by
    intro z hz'
    rcases List.mem_append.1 hz' with h | h
    · exact hown.1 z h
    · exact hr.2.1 z h
  have hxl := hr.1
  rcases A with _ | ad
  · have hm : m = 0 := by
      rcases Nat.eq_zero_or_pos m with h0 | h0
      · exact h0
      · obtain ⟨_, _, h, _⟩ := hr.2.2 h0
        cases h
    subst hm
    have hx : xs = [] := List.eq_nil_of_length_eq_zero hxl
    subst hx
    refine ⟨w, ?_, by simpa using hown, World.grownBy.refl w _⟩
    simp [Builtin.append_, run_underlying ht, sizeOf, typeInfo, hi, Builtin.lenOf, Builtin.firstCells, show zs.length ≤ cap by omega, storeCells]
  · have hcells : ∀ j u, (xs.map (Value.int k))[j]? = some u → w.cell? (ad.add j) = some u := by
      intro j u hu
      have hj : j < m := by
        have := (List.getElem?_eq_some_iff.1 hu).1
        simp at this
        omega
      obtain ⟨b, off, h, _, hc⟩ := hr.at_ hj
      injection h with h
      subst h
      have e : (Addr.mk b off none).add j = ⟨b, off + j, none⟩ := by unfold Addr.add; split <;> simp_all
      rw [e, hc, ← hu]
      simp [List.getD_eq_getElem?_getD, show j < xs.length by omega]
    obtain ⟨w', hrun, r1, r2⟩ := run_append_fits (P := P) w base ts ty e i 1 ht hi hsz g zs.length cap (zs.map (Value.int k)) hown.2 ad m c (xs.map (Value.int k)) (by simp [hxl]) hcells
      (by intro u hu; obtain ⟨z, _, rfl⟩ := List.mem_map.1 hu; rfl) hfit
    refine ⟨w', hrun, ⟨hwf, ?_⟩, r2⟩
    rw [List.length_append, List.map_append, hxl]
    exact r1

theorem wpList_append_ints_fits {P : Program} (w : World) {ops : Array Oper} {rest : List Oper} {o : Oper} {a : Act} {Q : Exit → Act → World → Prop} (hgd : o.guard = none) (s x : Operand) (ts : TypeId)
    (ho : o.op = .call { callee := .builtin .append, args := #[s, x], argTypes := #[ts, ts] }) (base : Nat) (e : TypeId) (k : IntKind) (bytes : Nat) (ht : P.underlying ts = some (.slice e))
    (hinfo : (P.info? e).map (fun i => (i.zero, i.size, i.bytes)) = some (some (.int k 0), 1, bytes)) (g cap : Nat) (zs : List Int) (hs : a.eval s = .slice (some ⟨g, 0, none⟩) zs.length cap)
    (hown : Own w base e k (.slice (some ⟨g, 0, none⟩) zs.length cap) zs)
    (B : Nat) (A : Option Addr) (m c : Nat) (xs : List Int) (hx : a.eval x = .slice A m c) (hr : Ints w k B A m xs) (hfit : zs.length + m ≤ cap)
    (h : ∀ w', Own w' base e k (.slice (some ⟨g, 0, none⟩) (zs.length + m) cap) (zs ++ xs) → w.grownBy w' (some g) → wpList P ops Q rest (a.put o.dst (.slice (some ⟨g, 0, none⟩) (zs.length + m) cap)) w') :
    wpList P ops Q (o :: rest) a w := by
  refine wpList_plain hgd fun _ hK => ?_
  obtain ⟨w', hrun, h2, h3⟩ := run_append_ints_fits (P := P) w base ts o.type e k bytes ht hinfo g cap zs hown B A m c xs hr hfit
  unfold Oper.wp execOp
  simp only [ho, resolve, invoke, builtin, Sem.run_bind, Sem.run_pure, Result.andThen_ok, List.map_toArray, List.map_cons, List.map_nil, hs, hx, hrun]
  exact hK _ _ (h w' h2 h3)

/-- block g is just the numbers zs -/
def Row (w : World) (g : Nat) (t : TypeId) (k : IntKind) (zs : List Int) : Prop := (∀ z ∈ zs, (Lit.int k z).wf = true) ∧ w.heap[g]? = some (.cells (zs.map (Value.int k)).toArray t (0, 0))
section
variable {w w' : World} {g : Nat} {t : TypeId} {k : IntKind} {zs : List Int}
theorem Row.lt (h : Row w g t k zs) : g < w.heap.size := (Array.getElem?_eq_some_iff.1 h.2).1
theorem Row.cell (h : Row w g t k zs) {i : Nat} (hi : i < zs.length) : w.cell? ⟨g, i, none⟩ = some (.int k (zs.getD i 0)) := by
  rw [cell_of_row w g i _ t (0, 0) h.2]
  simp [List.getD_eq_getElem?_getD, hi]
theorem Row.frozen (h : Row w g t k zs) (i : Nat) : w.frozen? ⟨g, i, none⟩ = false := by simp [World.frozen?, h.2]
theorem Row.below {B : Nat} (h : Row w g t k zs) (hb : Below B w w') (hg : g < B) : Row w' g t k zs := ⟨h.1, (hb.block g hg).trans h.2⟩
theorem Row.grown {row : Option Nat} (h : Row w g t k zs) (hb : w.grownBy w' row) (hg : some g ≠ row) : Row w' g t k zs := ⟨h.1, (hb.block g h.lt hg).trans h.2⟩
theorem Row.ints (h : Row w g t k zs) {n : Nat} (hn : n ≤ zs.length) : Ints w k w.heap.size (some ⟨g, 0, none⟩) n (zs.take n) :=
  ⟨by simp; omega, fun z hz => h.1 z (List.mem_of_mem_take hz), fun _ => ⟨g, 0, rfl, h.lt, fun i hi => by
    rw [Nat.zero_add, h.cell (by omega)]
    simp [List.getD_eq_getElem?_getD, hi]⟩⟩
theorem Row.own (h : Row w g t k zs) {base : Nat} (hb : base ≤ g) {n : Nat} (hn : n ≤ zs.length) (hm : zs.length ≤ maxLen) : Own w base t k (.slice (some ⟨g, 0, none⟩) n zs.length) (zs.take n) := by
  refine ⟨fun z hz => h.1 z (List.mem_of_mem_take hz), by simp, .inr ⟨g, zs.length, _, ?_, hb, h.2, ?_, hm, by simp, ?_⟩⟩
  · congr 1; simp; omega
  · simp; omega
  · simp only [Nat.mul_one]; rw [List.length_take, Nat.min_eq_left hn, List.map_take]
end

/-- block g has cap cells; the first k are those of L -/
def Fill (w : World) (g : Nat) (t : TypeId) (cap : Nat) (L : List Value) (k : Nat) : Prop :=
  ∃ cur : Array Value, w.heap[g]? = some (.cells cur t (0, 0)) ∧ cur.size = cap ∧ cur.toList.take k = L.take k
section
variable {w w' : World} {g : Nat} {t : TypeId} {cap : Nat} {L : List Value} {k : Nat}
theorem Fill.new (w : World) (t : TypeId) (cur : Array Value) (L : List Value) : Fill (w.alloc (.cells cur t)) w.heap.size t cur.size L 0 := ⟨cur, heap_alloc_new w _, rfl, by simp⟩
theorem Fill.lt (h : Fill w g t cap L k) : g < w.heap.size := by obtain ⟨cur, h, _⟩ := h; exact (Array.getElem?_eq_some_iff.1 h).1
theorem Fill.frozen (h : Fill w g t cap L k) (i : Nat) : w.frozen? ⟨g, i, none⟩ = false := by obtain ⟨cur, h, _⟩ := h; simp [World.frozen?, h]
theorem Fill.cell (h : Fill w g t cap L k) {i : Nat} (hi : i < cap) : ∃ u, w.cell? ⟨g, i, none⟩ = some u := by
  obtain ⟨cur, h, hs, _⟩ := h
  rw [cell_of_row w g i _ t (0, 0) h]
  exact ⟨cur[i], Array.getElem?_eq_getElem (by omega)⟩
theorem Fill.read (h : Fill w g t cap L k) {i : Nat} (hi : i < k) {u : Value} (hu : L[i]? = some u) : w.cell? ⟨g, i, none⟩ = some u := by
  obtain ⟨cur, h, hs, e⟩ := h
  rw [cell_of_row w g i _ t (0, 0) h]
  have := congrArg (fun l => l[i]?) e
  simp only [List.getElem?_take, hi, if_true] at this
  rw [hu] at this
  simpa using this
theorem Fill.step (h : Fill w g t cap L k) {u : Value} (hu : L[k]? = some u) (hk : k < cap) : Fill (w.setCell ⟨g, k, none⟩ u) g t cap L (k + 1) := by
  obtain ⟨cur, h, hs, e⟩ := h
  refine ⟨cur.setIfInBounds k u, by simp [World.setCell, Array.getElem?_modify, h], by simpa using hs, ?_⟩
  rw [Array.toList_setIfInBounds, List.take_add_one, List.take_add_one, hu, List.take_set, List.getElem?_set]
  simp only [Array.length_toList, hs, hk, if_true]
  rw [List.set_eq_of_length_le (by simp; omega), e]
theorem Fill.keep (h : Fill w g t cap L k) (hb : w'.heap[g]? = w.heap[g]?) : Fill w' g t cap L k := by
  obtain ⟨cur, h, hs, e⟩ := h
  exact ⟨cur, hb.trans h, hs, e⟩
theorem Fill.done (h : Fill w g t cap L k) (hk : cap ≤ k) (hl : L.length = cap) : w.heap[g]? = some (.cells L.toArray t (0, 0)) := by
  obtain ⟨cur, h, hs, e⟩ := h
  rw [List.take_of_length_le (by simp; omega), List.take_of_length_le (by omega)] at e
  rw [h, ← e]
theorem Own.fill {base n : Nat} {kd : IntKind} {zs : List Int} (h : Own w base t kd (.slice (some ⟨g, 0, none⟩) n cap) zs) {M : List Value} (hM : M.take n = zs.map (Value.int kd)) : Fill w g t cap M n := by
  rcases h.2.2 with ⟨e, _⟩ | ⟨g', cap', cur, e, hb, hg, hnc, hcm, hcs, ht⟩
  · cases e
  · injection e with e1 e2 e3
    injection e1 with e1
    injection e1 with e1
    subst e1
    subst e3
    refine ⟨cur, hg, by simpa using hcs, ?_⟩
    rw [hM, ← ht, e2, Nat.mul_one]
end

/-- bytes that read as a list, as a string -/
theorem run_text {P : Program} (w : World) (src dst e : TypeId) (hs : P.underlying src = some (.slice e)) (he : P.underlying e = some (.int .u8)) (hd : P.underlying dst = some .string)
    (B : Nat) (A : Option Addr) (n c : Nat) (zs : List Int) (h : Ints w .u8 B A n zs) :
    (convert src dst (.slice A n c)).run P w = .ok (.string (strOfNums zs)) w := by
  rcases A with _ | ad
  · have hn : n = 0 := by
      rcases Nat.eq_zero_or_pos n with h0 | h0
      · exact h0
      · obtain ⟨_, _, h, _⟩ := h.2.2 h0
        cases h
    subst hn
    have hz : zs = [] := List.eq_nil_of_length_eq_zero h.1
    subst hz
    rw [run_convert_bytes_string w src dst e none 0 c hs he hd]
    rfl
  · by_cases hn : 0 < n
    · obtain ⟨b, off, e1, _, hc⟩ := h.2.2 hn
      injection e1 with e1
      subst e1
      exact run_convert_bytes_arg w src e hs he b off n c zs h.1 hc dst hd
    · have hn : n = 0 := by omega
      subst hn
      have hz : zs = [] := List.eq_nil_of_length_eq_zero h.1
      subst hz
      rw [run_convert_bytes_string w src dst e (some ad) 0 c hs he hd]
      exact run_bytesToString w ad 0 c [] (by simp [loadCells, loadCellsFrom])

theorem text_inj {xs ys : List Int} (hx : ∀ z ∈ xs, (Lit.int .u8 z).wf = true) (hy : ∀ z ∈ ys, (Lit.int .u8 z).wf = true) : ((strOfNums xs).toList = (strOfNums ys).toList) ↔ xs = ys := by
  constructor
  · intro h1
    rw [ByteArray.toList_eq, ByteArray.toList_eq, strOfNums_data, strOfNums_data] at h1
    have hl : xs.length = ys.length := by simpa using congrArg List.length h1
    apply List.ext_getElem hl
    intro i h2 h3
    have := congrArg (fun l => l[i]?) h1
    simp only [List.getElem?_map, List.getElem?_eq_getElem h2, List.getElem?_eq_getElem h3, Option.map_some, Option.some.injEq] at this
    have bx := wf_u8 (hx _ (List.getElem_mem h2))
    have by' := wf_u8 (hy _ (List.getElem_mem h3))
    have e := congrArg UInt8.toNat this
    simp only [UInt8.toNat_ofNat'] at e
    omega
  · intro h; rw [h]
end Go.Proofs.Ytjelacblnjbfgaa.Mem
namespace Go.Proofs.Ytjelacblnjbfgaa.Mem
open Go.RowKit
set_option linter.unusedVariables false

/-- numbers as an array by value -/
def arr (k : IntKind) (zs : List Int) : Array Value := (zs.map (Value.int k)).toArray
theorem arr_size (k : IntKind) (zs : List Int) : (arr k zs).size = zs.length := by simp [arr]
theorem arr_get (k : IntKind) (zs : List Int) {i : Nat} (h : i < zs.length) : (arr k zs)[i]? = some (.int k (zs.getD i 0)) := by
  simp [arr, List.getD_eq_getElem?_getD, h]
theorem arr_one (k : IntKind) (zs : List Int) : (arr k zs).all (·.oneCell') = true := by
  rw [Array.all_eq_true_iff_forall_mem]
  intro v hv
  simp only [arr, List.mem_toArray, List.mem_map] at hv
  obtain ⟨z, _, rfl⟩ := hv
  rfl

theorem run_index_arr {P : Program} (t e : TypeId) (n : Nat) (k : IntKind) (zs : List Int) (i : Nat) (w : World) (ht : P.underlying t = some (.array n e)) (hs : (P.info? e).map (·.size) = some 1) (hp : P.plainKey e = true)
    (hn : zs.length = n) (hi : i < n) : (Instr.index t (.agg (arr k zs)) (.int .i64 (i : Int))).run P w = .ok (.int k (zs.getD i 0)) w := by
  have h1 : (0 : Int) ≤ (i : Int) ∧ (i : Int) < (n : Int) := by omega
  have hz : (sizeOf e).run P w = .ok 1 w := by
    cases hq : P.info? e with
    | none => simp [hq] at hs
    | some q => simp [hq] at hs; simp [sizeOf, typeInfo, hq, hs]
  have hpt := run_part_plain (P := P) w hp (xs := arr k zs) (off := i) (arr_get k zs (by omega))
  simp [Instr.index, run_underlying ht, asIntOf, h1, hz, hpt, Sem.run_bind, Result.andThen]
  omega

section
variable {w w' : World} {g : Nat} {t : TypeId} {k : IntKind} {zs : List Int}
theorem Row.set (h : Row w g t k zs) (i : Nat) {z : Int} (hz : (Lit.int k z).wf = true) : Row (w.setCell ⟨g, i, none⟩ (.int k z)) g t k (zs.set i z) := by
  refine ⟨fun y hy => ?_, ?_⟩
  · rcases List.mem_or_eq_of_mem_set hy with h1 | h1
    · exact h.1 y h1
    · rw [h1]; exact hz
  · have hg := h.2
    simp only [World.setCell, Array.getElem?_modify, hg, if_true, Option.map_some, Obj.cells.injEq, Option.some.injEq]
    refine ⟨?_, trivial, trivial⟩
    rw [List.map_set]
    simp
theorem Row.other (h : Row w g t k zs) {p : Addr} (hp : p.block ≠ g) (v : Value) : Row (w.setCell p v) g t k zs := ⟨h.1, (heap_setCell_other w p g v (fun e => hp e.symm)).trans h.2⟩
theorem Row.alloc (h : Row w g t k zs) (o : Obj) : Row (w.alloc o) g t k zs := ⟨h.1, (Below.heap_alloc w o g h.lt).trans h.2⟩
theorem Row.drewN (h : Row w g t k zs) (m : Nat) : Row (w.drewN m) g t k zs := h
theorem Row.new (w : World) (t : TypeId) (hz : ∀ z ∈ zs, (Lit.int k z).wf = true) : Row (w.alloc (.cells (arr k zs) t)) w.heap.size t k zs := ⟨hz, heap_alloc_new w _⟩
theorem Row.setRow {old : List Int} (h : Row w g t k old) (hz : ∀ z ∈ zs, (Lit.int k z).wf = true) : Row (w.setRow g (arr k zs)) g t k zs := ⟨hz, setRow_heap w g _ _ t (0, 0) h.2⟩
theorem Row.setRow_other (h : Row w g t k zs) {g' : Nat} (hg : g' ≠ g) (cs : Array Value) : Row (w.setRow g' cs) g t k zs := ⟨h.1, (Go.setRow_other w g' g cs hg.symm).trans h.2⟩
theorem grown_setRow (w : World) (g : Nat) (cs : Array Value) : w.grownBy (w.setRow g cs) (some g) :=
  ⟨rfl, rfl, rfl, by simp, fun j _ hne => setRow_other w g j cs (fun e => hne (by rw [e]))⟩
end

section
variable {P : Program} {ops : Array Oper} {rest : List Oper} {o : Oper} {a : Act} {w : World} {Q : Exit → Act → World → Prop}
theorem wpList_load_Row (hgd : o.guard = none) (ty : TypeId) (x : Operand) (ho : o.op = .load ty x) (g : Nat) (hx : a.eval x = .pointer (some ⟨g, 0, none⟩)) (t : TypeId) (k : IntKind) (zs : List Int) (hr : Row w g t k zs)
    (n : Nat) (e : TypeId) (hu : P.underlying ty = some (.array n e)) (hi : (P.info? ty).map (·.size) = some n) (hn : zs.length = n)
    (h : wpList P ops Q rest (a.put o.dst (.agg (arr k zs))) w) : wpList P ops Q (o :: rest) a w :=
  wpList_load_row hgd ty x ho g hx t (arr k zs) (0, 0) _ hr.2 hu rfl (by rw [hi, arr_size, hn]) h
theorem wpList_store_Row (hgd : o.guard = none) (ty : TypeId) (x y : Operand) (ho : o.op = .store ty x y) (g : Nat) (hx : a.eval x = .pointer (some ⟨g, 0, none⟩)) (t : TypeId) (k : IntKind) (old zs : List Int) (hy : a.eval y = .agg (arr k zs))
    (hr : Row w g t k old) (n : Nat) (hi : (P.info? ty).map (·.size) = some n) (hn : zs.length = n) (ho' : old.length = n)
    (h : wpList P ops Q rest (a.put o.dst undef) (w.setRow g (arr k zs))) : wpList P ops Q (o :: rest) a w :=
  wpList_store_row hgd ty x y ho g (arr k zs) hx hy t _ hr.2 (by rw [hi, arr_size, hn]) (by simp [arr, ho', hn]) (arr_one k zs) h
end

theorem run_slice_arr_lh {P : Program} (t e : TypeId) (n g l h : Nat) (w : World) (ht : P.underlying t = some (.array n e)) (hs : (P.info? e).map (·.size) = some 1) (hl : l < n) (hh : l ≤ h) (hn : h ≤ n) :
    (Instr.sliceAt t (.pointer (some ⟨g, 0, none⟩)) (some (.int .i64 (l : Int))) (some (.int .i64 (h : Int))) none).run P w = .ok (.slice (some ⟨g, l, none⟩) (h - l) (n - l)) w := by
  have hz : (sizeOf e).run P w = .ok 1 w := by
    cases hq : P.info? e with
    | none => simp [hq] at hs
    | some q => simp [hq] at hs; simp [sizeOf, typeInfo, hq, hs]
  have e0 : ¬ n = l := by omega
  have ea : (Addr.mk g 0 none).add l = ⟨g, l, none⟩ := by unfold Addr.add; split <;> simp_all
  simp [Instr.sliceAt, Instr.sureAddr, run_underlying ht, Instr.sliceBounds, run_sliceBound, hz, Sem.run_bind, Result.andThen, e0, ea, (by omega : (l : Int) ≤ h), (by omega : (h : Int) ≤ n)]
theorem run_slice_arr_l {P : Program} (t e : TypeId) (n g l : Nat) (w : World) (ht : P.underlying t = some (.array n e)) (hs : (P.info? e).map (·.size) = some 1) (hl : l < n) :
    (Instr.sliceAt t (.pointer (some ⟨g, 0, none⟩)) (some (.int .i64 (l : Int))) none none).run P w = .ok (.slice (some ⟨g, l, none⟩) (n - l) (n - l)) w := by
  have hz : (sizeOf e).run P w = .ok 1 w := by
    cases hq : P.info? e with
    | none => simp [hq] at hs
    | some q => simp [hq] at hs; simp [sizeOf, typeInfo, hq, hs]
  have e0 : ¬ n = l := by omega
  have ea : (Addr.mk g 0 none).add l = ⟨g, l, none⟩ := by unfold Addr.add; split <;> simp_all
  simp [Instr.sliceAt, Instr.sureAddr, run_underlying ht, Instr.sliceBounds, run_sliceBound, hz, Sem.run_bind, Result.andThen, e0, ea, (by omega : (l : Int) ≤ n)]

theorem wpList_build_Row {P : Program} {ops : Array Oper} {rest : List Oper} {o : Oper} {a : Act} {w : World} {Q : Exit → Act → World → Prop} (hg : o.guard = none) (t : TypeId) (parts : Array (Nat × Operand)) (ho : o.op = .build t parts) (k : IntKind) (zs : List Int)
    (hf : P.built t (parts.map fun (i, x) => (i, a.eval x)).toList = some (arr k zs)) (h : wpList P ops Q rest (a.put o.dst (.agg (arr k zs))) w) : wpList P ops Q (o :: rest) a w :=
  wpList_build hg t parts ho (by rw [hf]; rfl) (by rw [hf]; exact h)

theorem made_zeros (k : IntKind) (n : Nat) : madeCells #[Value.int k 0] n = arr k (List.replicate n 0) := by
  apply Array.ext
  · simp [madeCells, arr]
  · intro i h1 h2
    simp [madeCells, arr, Nat.mod_one]

theorem wpList_make_Row {P : Program} (w : World) {ops : Array Oper} {rest : List Oper} {o : Oper} {a : Act} {Q : Exit → Act → World → Prop} (hg : o.guard = none) (l c : Operand) (t : TypeId) (hop : o.op = Op.makeSlice t l c)
    (e : TypeId) (k : IntKind) (bytes : Nat) (ht : P.underlying t = some (.slice e)) (hinfo : (P.info? e).map (fun i => (i.zero, i.size, i.bytes)) = some (some (.int k 0), 1, bytes))
    (kl kc : IntKind) (N M : Int) (n : Nat) (hl : a.eval l = .int kl N) (hc : a.eval c = .int kc M) (hN : N = (n : Int)) (hM : M = (n : Int)) (hby : bytes ≤ 8) (hn : n ≤ 17592186044416)
    (hK : ∀ w', Row w' w.heap.size e k (List.replicate n 0) → w.grownBy w' none → w'.heap.size = w.heap.size + 1 → wpList P ops Q rest (a.put o.dst (.slice (some ⟨w.heap.size, 0, none⟩) n n)) w') :
    wpList P ops Q (o :: rest) a w := by
  obtain ⟨i, hi, hz, hs, hb⟩ := info_parts hinfo
  subst hN
  subst hM
  refine wpList_make_row w hg l c t hop e i (.int k 0) ht hi hz hs rfl kl kc n hl hc (by rw [hb]; exact Nat.le_trans (Nat.mul_le_mul hby hn) (by omega)) (by omega) ?_
  refine hK _ ?_ (World.grownBy_alloc w _ none) (by simp)
  rw [made_zeros]
  exact Row.new w e (fun z hz => by rw [List.eq_of_mem_replicate hz]; cases k <;> decide)

theorem results_Row {P : Program} {fn : Func} {p : Tmp} {ty : TypeId} (h : fn.results = #[.cell p ty]) (tmps : Array Value) (w : World) (g : Nat) (t : TypeId) (k : IntKind) (zs : List Int) (hp : tmps.getD p undef = .pointer (some ⟨g, 0, none⟩))
    (hr : Row w g t k zs) (n : Nat) (e : TypeId) (hu : P.underlying ty = some (.array n e)) (hi : (P.info? ty).map (·.size) = some n) (hn : zs.length = n) : (results fn tmps).run P w = .ok (.agg (arr k zs)) w :=
  results_cell_row h tmps w g t (arr k zs) (0, 0) _ hp hr.2 hu rfl (by rw [hi, arr_size, hn])
end Go.Proofs.Ytjelacblnjbfgaa.Mem
namespace Go
namespace Proofs.Ytjelacblnjbfgaa.Mem

theorem eql_arr {P : Program} (w : World) (t e : TypeId) (n : Nat) (k : IntKind) (zs : List Int) (ht : P.underlying t = some (.array n e)) (he : P.underlying e = some (.int k)) (hs : (P.info? e).map (·.size) = some 1) (hx : zs.length = n) :
    (binOp .eql t (.agg (arr k zs)) (.agg (arr k zs))).run P w = .ok (.bool true) w := by
  obtain ⟨inf, hi, h1⟩ := Option.map_eq_some_iff.1 hs
  have hc : P.cellsOf e = 1 := by simp [Program.cellsOf, hi, h1]
  have key : (Op.equalIn (9998 + 1 + 1) t (.agg (arr k zs)) (.agg (arr k zs))).run P w = .ok true w := by
    rw [run_equalIn_array w (9998 + 1) _ _ ht hi, hc]
    have hl : ∀ i ∈ List.range n, i < n := fun i hi => List.mem_range.1 hi
    generalize List.range n = l at hl ⊢
    induction l with
    | nil => simp [Op.eqItems]
    | cons i l ih =>
      have hi : i < n := hl i (by simp)
      have px : (part e (arr k zs) (i * 1)).run P w = .ok (.int k (zs.getD i 0)) w := by
        have := arr_get k zs (i := i) (by omega)
        simp [part, isAgg, run_underlying he, this]
      have pe : (Op.equalIn (9998 + 1) e (.int k (zs.getD i 0)) (.int k (zs.getD i 0))).run P w = .ok true w := by
        rw [run_equalIn_int w 9998 e k k _ _ he]
        simp
      rw [Op.eqItems]
      simp only [Sem.run_bind, px, pe, Result.andThen_ok, Bool.not_true, Bool.false_eq_true, if_false]
      exact ih fun j hj => hl j (by simp [hj])
  rw [run_eql_struct, show (10000 : Nat) = 9998 + 1 + 1 from rfl, key]
  rfl

end Proofs.Ytjelacblnjbfgaa.Mem
end Go
namespace Go.Proofs.Ytjelacblnjbfgaa.Mem
open Go.RowKit
set_option linter.unusedVariables false

/-- the slice at A, of n cells, below block B, reads as the list vs -/
def Vals (w : World) (B : Nat) (A : Option Addr) (n : Nat) (vs : List Value) : Prop :=
  vs.length = n ∧ (∀ v ∈ vs, v.oneCell' = true) ∧ (0 < n → ∃ b off, A = some ⟨b, off, none⟩ ∧ b < B ∧ ∀ i, i < n → w.cell? ⟨b, off + i, none⟩ = some (vs.getD i undef))

section
variable {w w' : World} {B B' n : Nat} {A : Option Addr} {vs : List Value}
theorem Vals.nil (w : World) (B : Nat) (A : Option Addr) : Vals w B A 0 [] := ⟨rfl, by simp, fun h => absurd h (by omega)⟩
theorem Vals.keep (h : Vals w B A n vs) (hk : ∀ p : Addr, p.block < B → w'.cell? p = w.cell? p) : Vals w' B A n vs :=
  ⟨h.1, h.2.1, fun hn => by
    obtain ⟨b, off, e, hb, hc⟩ := h.2.2 hn
    exact ⟨b, off, e, hb, fun i hi => (hk ⟨b, off + i, none⟩ hb).trans (hc i hi)⟩⟩
theorem Vals.more (h : Vals w B A n vs) (hB : B ≤ B') : Vals w B' A n vs :=
  ⟨h.1, h.2.1, fun hn => by
    obtain ⟨b, off, e, hb, hc⟩ := h.2.2 hn
    exact ⟨b, off, e, by omega, hc⟩⟩
theorem Vals.below (h : Vals w B A n vs) (hb : Below B w w') : Vals w' B A n vs := h.keep fun _ hp => hb.cell hp
theorem Vals.drewN (h : Vals w B A n vs) (m : Nat) : Vals (w.drewN m) B A n vs := h
theorem Vals.alloc (h : Vals w B A n vs) (hB : B ≤ w.heap.size) (o : Obj) : Vals (w.alloc o) B A n vs := h.keep fun p hp => World.cell?_alloc_lt w o p (by omega)
theorem Vals.at_ (h : Vals w B A n vs) {i : Nat} (hi : i < n) : ∃ b off, A = some ⟨b, off, none⟩ ∧ b < B ∧ w.cell? ⟨b, off + i, none⟩ = some (vs.getD i undef) := by
  obtain ⟨b, off, e, hb, hc⟩ := h.2.2 (by omega)
  exact ⟨b, off, e, hb, hc i hi⟩
end

theorem Vals.new (w : World) (t : TypeId) (vs : List Value) (h1 : ∀ v ∈ vs, v.oneCell' = true) : Vals (w.alloc (.cells vs.toArray t)) (w.heap.size + 1) (some ⟨w.heap.size, 0, none⟩) vs.length vs :=
  ⟨rfl, h1, fun hn => ⟨w.heap.size, 0, rfl, by omega, fun i hi => by
    rw [cell_of_row _ _ _ _ t (0, 0) (heap_alloc_new w _)]
    simp [List.getD_eq_getElem?_getD, hi]⟩⟩

theorem ownsRow_vals {w : World} {base : Nat} {e : TypeId} {A : Option Addr} {n c : Nat} {vs : List Value} (h : w.ownsRow base e 1 (.slice A n c) n vs) (h1 : ∀ v ∈ vs, v.oneCell' = true) : Vals w w.heap.size A n vs := by
  have hl : vs.length = n := by simpa using h.1
  refine ⟨hl, h1, fun hn => ?_⟩
  rcases h.2 with ⟨hv, h0⟩ | ⟨g, cap, cur, hv, hb, hg, hnc, hcm, hcs, ht⟩
  · omega
  · injection hv with e1 e2 e3
    subst e1
    refine ⟨g, 0, rfl, (Array.getElem?_eq_some_iff.1 hg).1, fun i hi => ?_⟩
    have hc := h.cells (g := g) rfl i (vs.getD i undef) (by simp [List.getD_eq_getElem?_getD, show i < vs.length by omega])
    have e : (Addr.mk g 0 none).add i = ⟨g, 0 + i, none⟩ := by unfold Addr.add; split <;> simp_all
    rwa [e] at hc

/-- append, of a list of values (nil or not), onto what the call owns -/
theorem run_append_vals {P : Program} (w : World) (base : Nat) (ts ty e : TypeId) (z : Value) (bytes : Nat) (ht : P.underlying ts = some (.slice e))
    (hinfo : (P.info? e).map (fun i => (i.zero, i.size, i.bytes)) = some (some z, 1, bytes)) (hzc : z.cells.size = 1) (v : Value) (n : Nat) (zs : List Value) (hown : w.ownsRow base e 1 v n zs)
    (B : Nat) (A : Option Addr) (m c : Nat) (xs : List Value) (hr : Vals w B A m xs) (hlen : n + m ≤ 1099511627776) (hby : bytes ≤ 64) (hbase : base ≤ w.heap.size) :
    ∃ v' w', (Builtin.append_ #[ts, ts] ty #[v, .slice A m c]).run P w = .ok v' w' ∧ w'.ownsRow base e 1 v' (n + m) (zs ++ xs) ∧ w.grownBy w' v.ownBlock ∧
      (v'.ownBlock = v.ownBlock ∨ v'.ownBlock = some w.heap.size) := by
  obtain ⟨i, hi, hz, hsz, hb⟩ := info_parts hinfo
  have hxl := hr.1
  rcases A with _ | ad
  · have hm : m = 0 := by
      rcases Nat.eq_zero_or_pos m with h0 | h0
      · exact h0
      · obtain ⟨_, _, h, _⟩ := hr.2.2 h0
        cases h
    subst hm
    have hx : xs = [] := List.eq_nil_of_length_eq_zero hxl
    subst hx
    refine ⟨v, w, ?_, by simpa using hown, World.grownBy.refl w _, .inl rfl⟩
    rcases hown.2 with ⟨rfl, hn0⟩ | ⟨g, cap, cur, rfl, _, _, hnc, _⟩
    · simp [Builtin.append_, run_underlying ht, sizeOf, typeInfo, hi, Builtin.lenOf, Builtin.firstCells]
    · simp [Builtin.append_, run_underlying ht, sizeOf, typeInfo, hi, Builtin.lenOf, Builtin.firstCells, hnc, storeCells]
  · have hcells : ∀ j u, xs[j]? = some u → w.cell? (ad.add j) = some u := by
      intro j u hu
      have hj : j < m := by
        have := (List.getElem?_eq_some_iff.1 hu).1
        omega
      obtain ⟨b, off, h, _, hc⟩ := hr.at_ hj
      injection h with h
      subst h
      have e : (Addr.mk b off none).add j = ⟨b, off + j, none⟩ := by unfold Addr.add; split <;> simp_all
      rw [e, hc, ← hu]
      simp [List.getD_eq_getElem?_getD, show j < xs.length by omega]
    obtain ⟨v', w', hrun, h2, h3, _, h5⟩ := run_append_own_at (P := P) w base ts ty e i z 1 bytes ht hi hz hsz hb hzc (by omega) v n zs hown ad m c
      xs (by simp [hxl]) hcells hr.2.1 (by simp only [maxLen]; omega) (Nat.le_trans (Nat.mul_le_mul hlen hby) (by omega)) hbase
    exact ⟨v', w', hrun, h2, h3, h5⟩

theorem wpList_append_vals {P : Program} (w : World) {ops : Array Oper} {rest : List Oper} {o : Oper} {a : Act} {Q : Exit → Act → World → Prop} (hgd : o.guard = none) (s x : Operand) (ts : TypeId)
    (ho : o.op = .call { callee := .builtin .append, args := #[s, x], argTypes := #[ts, ts] }) (base : Nat) (e : TypeId) (z : Value) (bytes : Nat) (ht : P.underlying ts = some (.slice e))
    (hinfo : (P.info? e).map (fun i => (i.zero, i.size, i.bytes)) = some (some z, 1, bytes)) (hzc : z.cells.size = 1) (v : Value) (n : Nat) (zs : List Value) (hs : a.eval s = v) (hown : w.ownsRow base e 1 v n zs)
    (B : Nat) (A : Option Addr) (m c : Nat) (xs : List Value) (hx : a.eval x = .slice A m c) (hr : Vals w B A m xs) (hlen : n + m ≤ 1099511627776) (hby : bytes ≤ 64) (hbase : base ≤ w.heap.size)
    (h : ∀ v' w', w'.ownsRow base e 1 v' (n + m) (zs ++ xs) → w.grownBy w' v.ownBlock → (v'.ownBlock = v.ownBlock ∨ v'.ownBlock = some w.heap.size) → wpList P ops Q rest (a.put o.dst v') w') :
    wpList P ops Q (o :: rest) a w := by
  obtain ⟨v', w', hrun, h2, h3, h4⟩ := run_append_vals (P := P) w base ts o.type e z bytes ht hinfo hzc v n zs hown B A m c xs hr hlen hby hbase
  exact Lib.wpList_append_run w hgd s x ts ts ho v (.slice A m c) hs hx v' w' hrun (h v' w' h2 h3 h4)

/-- room for n, made of nothing -/
theorem run_grow_nil {P : Program} (w : World) (t tn ty e : TypeId) (z : Value) (bytes : Nat) (kn : IntKind) (ht : P.underlying t = some (.slice e)) (htn : P.underlying tn = some (.int kn))
    (hinfo : (P.info? e).map (fun i => (i.zero, i.size, i.bytes)) = some (some z, 1, bytes)) (hzc : z.cells.size = 1) (n : Nat) (h0 : 0 < n) (hn : n ≤ 1099511627776) (hby : bytes ≤ 64) :
    ∃ cap w', (Builtin.append_ #[t, tn] ty #[.slice none 0 0, .int .i64 (n : Int)]).run P w = .ok (.slice (some ⟨w.heap.size, 0, none⟩) n cap) w' ∧ n ≤ cap ∧ w'.ownsRow w.heap.size e 1 (.slice (some ⟨w.heap.size, 0, none⟩) 0 cap) 0 [] ∧ w.grownBy w' none ∧ cap ≤ maxLen := by
  obtain ⟨i, hi, hz, hsz, hb⟩ := info_parts hinfo
  have hge := grownCap_ge w n 0 e
  have hle := grownCap_le_maxLen w n 0 e (by unfold maxLen; omega)
  have hrun := Lib.run_append_nil_zeros (P := P) w t tn ty e i z .i64 kn ht htn hi hz n h0 (by omega) (by omega) (by rw [hb]; exact Nat.le_trans (Nat.mul_le_mul hn hby) (by omega))
  refine ⟨_, _, hrun, hge, ⟨rfl, .inr ⟨w.heap.size, _, _, rfl, Nat.le_refl _, heap_alloc_new w.drew _, Nat.zero_le _, hle, ?_, rfl⟩⟩, ⟨rfl, rfl, rfl, by simp, fun k hk _ => Below.heap_alloc w.drew _ k hk⟩, hle⟩
  simp only [Array.size_append, size_zeroCells, hzc, Nat.mul_one]
  omega
end Go.Proofs.Ytjelacblnjbfgaa.Mem
namespace Go.Proofs.Ytjelacblnjbfgaa.Mem
open Go.RowKit
set_option linter.unusedVariables false

theorem zeroCells_one (z : Value) (hz : z.cells = #[z]) (n : Nat) : Builtin.zeroCells z.cells n = (List.replicate n z).toArray := by
  rw [hz]
  apply Array.ext
  · simp [Builtin.zeroCells]
  · intro i h1 h2
    simp [Builtin.zeroCells, Nat.mod_one]

theorem run_append_zeros {P : Program} (w : World) (base : Nat) (ts tn ty e : TypeId) (k kn kq : IntKind) (bytes : Nat) (ht : P.underlying ts = some (.slice e)) (htn : P.underlying tn = some (.int kn))
    (hinfo : (P.info? e).map (fun i => (i.zero, i.size, i.bytes)) = some (some (.int k 0), 1, bytes)) (v : Value) (zs : List Int) (hown : Own w base e k v zs)
    (m : Nat) (hlen : zs.length + m ≤ 17592186044416) (hby : bytes ≤ 8) (hbase : base ≤ w.heap.size) :
    ∃ v' w', (Builtin.append_ #[ts, tn] ty #[v, .int kq (m : Int)]).run P w = .ok v' w' ∧ Own w' base e k v' (zs ++ List.replicate m 0) ∧ w.grownBy w' v.ownBlock ∧ (v'.ownBlock = v.ownBlock ∨ v'.ownBlock = some w.heap.size) := by
  obtain ⟨i, hi, hz, hsz, hb⟩ := info_parts hinfo
  have hw0 : (Lit.int k 0).wf = true := by cases k <;> decide
  have hwf : ∀ z ∈ zs ++ List.replicate m 0, (Lit.int k z).wf = true := fun z hz' => by
    rcases List.mem_append.1 hz' with h | h
    · exact hown.1 z h
    · rw [List.eq_of_mem_replicate h]; exact hw0
  have hzc : (Value.int k 0).cells = #[Value.int k 0] := rfl
  have hwrap : IntKind.i64.wrap (m : Int) = (m : Int) := by rw [IntKind.wrap_i64]; omega
  have hw00 : IntKind.i64.wrap (0 : Int) = 0 := by decide
  have hmb : (m : Int) * (bytes : Int) ≤ 281474976710656 := by
    have h2 : m * bytes ≤ 140737488355328 := Nat.le_trans (Nat.mul_le_mul (by omega : m ≤ 17592186044416) hby) (by decide)
    rw [← Int.natCast_mul]
    omega
  have hll : (zs ++ List.replicate m (0 : Int)).length = zs.length + m := by simp
  -- what the growing arm leaves
  have grown : ∀ (old : Nat), old < zs.length + m → ∀ (row : Option Nat),
      (w.drew.alloc (.cells ((zs.map (Value.int k)).toArray ++ Builtin.zeroCells (Value.int k 0).cells m ++ Builtin.zeroCells (Value.int k 0).cells (grownCap w (zs.length + m) old e - (zs.length + m))) e)).ownsRow base e 1
        (.slice (some ⟨w.heap.size, 0, none⟩) (zs.length + m) (grownCap w (zs.length + m) old e)) (zs.length + m) ((zs ++ List.replicate m 0).map (Value.int k)) ∧
      w.grownBy (w.drew.alloc (.cells ((zs.map (Value.int k)).toArray ++ Builtin.zeroCells (Value.int k 0).cells m ++ Builtin.zeroCells (Value.int k 0).cells (grownCap w (zs.length + m) old e - (zs.length + m))) e)) row := by
    intro old ho row
    have hge := grownCap_ge w (zs.length + m) old e
    have hcm : grownCap w (zs.length + m) old e ≤ maxLen := grownCap_le_maxLen w (zs.length + m) old e (by simp only [maxLen]; omega)
    refine ⟨⟨by simp, .inr ⟨w.heap.size, _, _, rfl, hbase, heap_alloc_new w.drew _, hge, hcm, ?_, ?_⟩⟩, ⟨rfl, rfl, rfl, by simp, fun k hk _ => heap_alloc_old w.drew _ hk⟩⟩
    · simp only [Array.size_append, List.size_toArray, size_zeroCells, hzc, List.length_map, List.size_toArray, List.length_cons, List.length_nil]
      omega
    · rw [zeroCells_one _ hzc m]
      simp only [Array.toList_append, List.append_assoc, List.map_append, List.map_replicate]
      rw [← List.append_assoc, show (zs.length + m) * 1 = (zs.map (Value.int k) ++ List.replicate m (Value.int k 0)).length by simp]
      exact List.take_left
  rcases hown.2.2 with ⟨rfl, h0⟩ | ⟨g, cap, cur, rfl, hbg, hg, hnc, hcm, hcs, htake⟩
  · have hx : zs = [] := List.eq_nil_of_length_eq_zero h0
    subst hx
    by_cases hm : m = 0
    · subst hm
      refine ⟨.slice none 0 0, w, ?_, by simpa using Own.nil w base e k, ⟨rfl, rfl, rfl, Nat.le_refl _, fun _ _ _ => rfl⟩, .inl rfl⟩
      simp [Builtin.append_, run_underlying ht, run_underlying htn, sizeOf, typeInfo, hi, asInt, asIntOf, hw00]
    · have hr := Lib.run_append_nil_zeros (P := P) w ts tn ty e i (.int k 0) kq kn ht htn hi hz m (by omega) (by omega) (by omega) (by rw [hb]; exact Nat.le_trans (Nat.mul_le_mul (by simpa using hlen) hby) (by omega))
      have hgr := grown 0 (by simp; omega) (Value.ownBlock (.slice none 0 0))
      simp only [List.length_nil, Nat.zero_add, List.map_nil, List.nil_append] at hgr hlen ⊢
      have ea : ((#[] : Array Value) ++ Builtin.zeroCells (Value.int k 0).cells m) = Builtin.zeroCells (Value.int k 0).cells m := by simp
      simp only [ea] at hgr
      exact ⟨_, _, hr, ⟨by simpa using hwf, by simpa using hgr.1⟩, hgr.2, .inr rfl⟩
  · by_cases hroom : zs.length + m ≤ cap
    · have hcs' : cur.size = cap := by simpa using hcs
      have hst := run_storeCells_at P g zs.length e (List.replicate m (Value.int k 0)) 0 cur w hg (by simp; omega) (fun v hv => by rw [List.eq_of_mem_replicate hv]; rfl)
      simp only [Nat.add_zero, List.length_replicate] at hst
      have hrun : (Builtin.append_ #[ts, tn] ty #[.slice (some ⟨g, 0, none⟩) zs.length cap, .int kq (m : Int)]).run P w =
          .ok (.slice (some ⟨g, 0, none⟩) (zs.length + m) cap) (w.setRow g (cur.toList.take zs.length ++ List.replicate m (Value.int k 0) ++ cur.toList.drop (zs.length + m)).toArray) := by
        by_cases hm : m = 0
        · subst hm
          have e1 : cur.toList.take zs.length ++ List.replicate 0 (Value.int k 0) ++ cur.toList.drop (zs.length + 0) = cur.toList := by simp
          rw [e1]
          simp only [List.replicate_zero] at hst
          simp [Builtin.append_, run_underlying ht, run_underlying htn, sizeOf, typeInfo, hi, asInt, asIntOf, hw00, hnc, Addr.add_lit, storeCells] at hst ⊢
          first | exact hst | simpa using hst
        · have hmi : ¬ ((m : Int) < 0) := by omega
          have hb2 : ¬ (281474976710656 < (m : Int) * (bytes : Int)) := by omega
          have hmz : ¬ m = 0 := hm
          simp [Builtin.append_, run_underlying ht, run_underlying htn, sizeOf, typeInfo, zeroValue, hi, hz, hsz, hb, asInt, asIntOf, hwrap, hmi, hb2, hmz, hroom, zeroCells_one _ hzc, Addr.add_lit, hst]
      refine ⟨_, _, hrun, ⟨hwf, by rw [hll]; simp, .inr ⟨g, cap, _, by rw [hll], hbg, setRow_heap w g cur _ e _ hg, by rw [hll]; exact hroom, hcm, ?_, ?_⟩⟩, ⟨rfl, rfl, rfl, by simp, fun k _ hk => setRow_other w g k _ (fun e => hk (by simp [Value.ownBlock, e]))⟩, .inl rfl⟩
      · simp only [List.size_toArray, List.length_append, List.length_take, List.length_drop, Array.length_toList, List.length_replicate]
        omega
      · have ht' : cur.toList.take zs.length = zs.map (Value.int k) := by simpa using htake
        rw [ht', hll, show (zs.length + m) * 1 = (zs.map (Value.int k) ++ List.replicate m (Value.int k 0)).length by simp, List.map_append, List.map_replicate]
        exact List.take_left
    · have holds := hown.2.cells (g := g) rfl
      have hf := run_firstCells_some (P := P) w.drew i.size zs.length ⟨g, 0, none⟩ zs.length cap (zs.map (Value.int k)) (by simp [hsz]) (by simpa using holds)
      have hr := Lib.run_append_grow_zeros (P := P) w ts tn ty e i (.int k 0) kq kn ht htn hi hz (some ⟨g, 0, none⟩) zs.length cap _ hf m (by omega) (by omega) (by omega) (by omega)
        (by rw [hb]; exact Nat.le_trans (Nat.mul_le_mul (by omega : m ≤ 17592186044416) hby) (by omega)) (growslice_fits (by omega) (by rw [hb]; exact Nat.le_trans (Nat.mul_le_mul hlen hby) (by omega)))
      have hgr := grown cap (by omega) (Value.ownBlock (.slice (some ⟨g, 0, none⟩) zs.length cap))
      exact ⟨_, _, hr, ⟨hwf, by rw [hll]; exact hgr.1⟩, hgr.2, .inr rfl⟩
end Go.Proofs.Ytjelacblnjbfgaa.Mem
