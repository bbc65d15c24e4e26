/-
  Plain facts about the bits of unsigned numbers: no program here.
  The functions of package ct, each by its contract: what it returns for any numbers.
  Words for slices of numbers in memory, and small facts about them: no program here.
  Slices that a call itself has made: what they hold, what append and a store make of them: no program here.
  A map whose keys are strings that the call makes, read as a list of keys and what stands at each: made, looked up, stored into, ranged over; its elements of any kind that is told.
  A range over a function whose iterator keeps cells of its own, and whose body never leaves early: what the iterator is told of the rounds, and what the loop owes: no program here.
  A range over a function whose iterator keeps cells of its own, and whose body may leave early (or whose iterator never ends by itself): what the iterator is told of the rounds, counted, and what the loop owes: no program here.
  A range over a function whose iterator keeps blocks of its own and turns them between two yields, and whose body may leave early; it may itself stand in an iterator, or in a round of another loop: which blocks are the iterator's is carried along as a set.
-/
import Derived.WalkKit
import Derived.Test.YtbippmbcgkicaaaRows
import Derived.ProofKit
import Derived.OpenShut
import Derived.Lib.Hide
import Derived.Below
import Derived.Deep.Draws
import Derived.Deep.QuietTactic
import Derived.BigQuiet
import Derived.Laws.OwnMore
import Derived.Maps.AppendAt
import Derived.OwnWalk
import Derived.RegionTactic
import Derived.Laws.BytesArg
import Derived.Maps.RangeWalk
import Derived.Maps.OwnSet
import Derived.Sort.KeysCollected
import Derived.RangeFuncNested
import Derived.RangeFuncBound
import Derived.RangeFuncCalls
import Derived.RangeFuncLeaves
import Derived.Shelf.Abstract
import Derived.Shelf.RegionOpen
import Derived.OwnWalkIn
import Derived.TacticsInMore
import Derived.LoopNIn
import Derived.LoopIn
import Derived.RangeFuncWrites
set_option linter.unusedVariables false
namespace Go.Proofs.Ytbippmbcgkicaaa.Bit
open Go.RowKit
def low (x y : Int) : Int := if x < y then 1 else 0
def alike (x y : Int) : Int := if x = y then 1 else 0
end Go.Proofs.Ytbippmbcgkicaaa.Bit
namespace Go.Proofs.Ytbippmbcgkicaaa.Ct
open Go.RowKit Go.Proofs.Ytbippmbcgkicaaa.Bit
def oneI (b : Bool) : Int := if b = true then 1 else 0
end Go.Proofs.Ytbippmbcgkicaaa.Ct
namespace Go.Proofs.Ytbippmbcgkicaaa.Mem
open Go.RowKit
theorem ret_bool {a b : Bool} (h : a = b) : Ending.returned (.bool a) = .returned (.bool b) := by rw [h]
theorem quiet_same {P : Program} {f : FuncId} {args : Array Value} {w : World} {n : Nat} {v : Value}
    (h : Calls P f args (w.drewN n) fun e w' => e = .returned v ∧ w.drewN n = w') : Calls P f args (w.drewN n) fun e w'' => e = .returned v ∧ ∃ m, w'' = w.drewN m :=
  h.mono fun _ _ ⟨he, hm⟩ => ⟨he, n, hm.symm⟩
theorem below_drewN {B : Nat} {a w : World} (h : Below B a w) (n : Nat) : Below B a (w.drewN n) := ⟨h.os, h.tape, h.output, h.size, h.block⟩
def Ints (w : World) (k : IntKind) (B : Nat) (A : Option Addr) (n : Nat) (zs : List Int) : Prop :=
  zs.length = n ∧ (∀ z ∈ zs, (Lit.int k z).wf = true) ∧ (0 < n → ∃ b off, A = some ⟨b, off, none⟩ ∧ b < B ∧ ∀ i, i < n → w.cell? ⟨b, off + i, none⟩ = some (.int k (zs.getD i 0)))
section
variable {w w' : World} {k : IntKind} {B B' n : Nat} {A : Option Addr} {zs : List Int}
theorem Ints.nil (w : World) (k : IntKind) (B : Nat) (A : Option Addr) : Ints w k B A 0 [] := ⟨rfl, by simp, fun h => absurd h (by omega)⟩
theorem Ints.keep (h : Ints w k B A n zs) (hk : ∀ p : Addr, p.block < B → w'.cell? p = w.cell? p) : Ints w' k B A n zs :=
  ⟨h.1, h.2.1, fun hn => by
    obtain ⟨b, off, e, hb, hc⟩ := h.2.2 hn
    exact ⟨b, off, e, hb, fun i hi => (hk ⟨b, off + i, none⟩ hb).trans (hc i hi)⟩⟩
theorem Ints.more (h : Ints w k B A n zs) (hB : B ≤ B') : Ints w k B' A n zs :=
  ⟨h.1, h.2.1, fun hn => by
    obtain ⟨b, off, e, hb, hc⟩ := h.2.2 hn
    exact ⟨b, off, e, by omega, hc⟩⟩
theorem Ints.below (h : Ints w k B A n zs) (hb : Below B w w') : Ints w' k B A n zs := h.keep fun _ hp => hb.cell hp
theorem Ints.drew (h : Ints w k B A n zs) : Ints w.drew k B A n zs := h
theorem Ints.drewN (h : Ints w k B A n zs) (m : Nat) : Ints (w.drewN m) k B A n zs := h
theorem Ints.alloc (h : Ints w k B A n zs) (hB : B ≤ w.heap.size) (o : Obj) : Ints (w.alloc o) k B A n zs := h.keep fun p hp => World.cell?_alloc_lt w o p (by omega)
theorem Ints.setCell (h : Ints w k B A n zs) {p : Addr} (hB : B ≤ p.block) (u : Value) : Ints (w.setCell p u) k B A n zs :=
  h.keep fun q hq => World.cell?_setCell_other w p q u (fun e => by subst e; omega)
theorem Ints.range (h : Ints w k B A n zs) {i : Nat} (hi : i < n) : (Lit.int k (zs.getD i 0)).wf = true := by
  have hl : i < zs.length := by have := h.1; omega
  rw [List.getD_eq_getElem?_getD, List.getElem?_eq_getElem hl]
  exact h.2.1 _ (List.getElem_mem hl)
theorem Ints.at_ (h : Ints w k B A n zs) {i : Nat} (hi : i < n) : ∃ b off, A = some ⟨b, off, none⟩ ∧ b < B ∧ w.cell? ⟨b, off + i, none⟩ = some (.int k (zs.getD i 0)) := by
  obtain ⟨b, off, e, hb, hc⟩ := h.2.2 (by omega)
  exact ⟨b, off, e, hb, hc i hi⟩
end
theorem wf_u8 {z : Int} (h : (Lit.int .u8 z).wf = true) : 0 ≤ z ∧ z ≤ 255 := by simpa [Lit.wf, IntKind.min, IntKind.max, IntKind.signed, IntKind.bits] using h
theorem wf_i64 {z : Int} (h : (Lit.int .i64 z).wf = true) : -9223372036854775808 ≤ z ∧ z ≤ 9223372036854775807 := by simpa [Lit.wf, IntKind.min, IntKind.max, IntKind.signed, IntKind.bits] using h
theorem ints_of_row {kd : IntKind} {w : World} {a : Option Addr} {len cap : Nat} {zs : List Int}
    (h : (a = none ∧ len = 0 ∧ cap = 0 ∧ zs = []) ∨
      ∃ x, a = some x ∧ len ≤ cap ∧ cap ≤ maxLen ∧ zs.length = cap ∧ (∀ i, i < zs.length → w.cell? (x.add i) = some (.int kd (zs.getD i 0))) ∧ ∀ n ∈ zs, (Lit.int kd n).wf = true) :
    Ints w kd w.heap.size a len (zs.take len) ∧ len ≤ cap ∧ cap ≤ maxLen := by
  rcases h with ⟨rfl, rfl, rfl, rfl⟩ | ⟨x, rfl, hl, hm, hz, hc, hw⟩
  · exact ⟨Ints.nil _ _ _ _, Nat.le_refl _, by simp [maxLen]⟩
  · refine ⟨⟨by rw [List.length_take]; omega, fun z hzm => hw z (List.mem_of_mem_take hzm), fun hn => ?_⟩, hl, hm⟩
    obtain ⟨b, off, spot⟩ := x
    have h0 := hc 0 (by omega)
    have hspot : spot = none := by simpa [Addr.add] using World.cell?_spot h0
    subst hspot
    have hlt : b < w.heap.size := by simpa [Addr.add] using World.block_lt_of_cell? w _ h0
    refine ⟨b, off, rfl, hlt, fun i hi => ?_⟩
    have := hc i (by omega)
    have e : (Addr.mk b off none).add i = ⟨b, off + i, none⟩ := by unfold Addr.add; split <;> simp_all
    rw [e] at this
    rw [this]
    congr 2
    simp only [List.getD_eq_getElem?_getD, List.getElem?_take, hi, if_true]
end Go.Proofs.Ytbippmbcgkicaaa.Mem
namespace Go.Proofs.Ytbippmbcgkicaaa.Mem
open Go.RowKit
def Own (w : World) (base : Nat) (t : TypeId) (k : IntKind) (v : Value) (zs : List Int) : Prop :=
  (∀ z ∈ zs, (Lit.int k z).wf = true) ∧ w.ownsRow base t 1 v zs.length (zs.map (Value.int k))
section
variable {w w' : World} {base : Nat} {t : TypeId} {k : IntKind} {v : Value} {zs : List Int}
theorem Own.nil (w : World) (base : Nat) (t : TypeId) (k : IntKind) : Own w base t k (.slice none 0 0) [] := ⟨by simp, World.ownsRow_nil _ _ _ _⟩
theorem Own.drewN (h : Own w base t k v zs) (n : Nat) : Own (w.drewN n) base t k v zs := h
theorem Own.alloc (h : Own w base t k v zs) (o : Obj) : Own (w.alloc o) base t k v zs := ⟨h.1, h.2.alloc o⟩
theorem Own.kept (h : Own w base t k v zs) {row : Option Nat} (hg : w.grownBy w' row) (hne : v.ownBlock = none ∨ v.ownBlock ≠ row) : Own w' base t k v zs := ⟨h.1, h.2.kept hg hne⟩
theorem grown_of_below (h : Below w.heap.size w w') (row : Option Nat) : w.grownBy w' row := ⟨h.os, h.tape, h.output, h.size, fun i hi _ => h.block i hi⟩
theorem Own.below (h : Own w base t k v zs) (hb : Below w.heap.size w w') : Own w' base t k v zs :=
  h.kept (grown_of_below hb none) (by cases v.ownBlock <;> simp)
theorem Own.less (h : Own w base t k v zs) {b : Nat} (hb : b ≤ base) : Own w b t k v zs := by
  refine ⟨h.1, h.2.1, ?_⟩
  rcases h.2.2 with hn | ⟨g, cap, cur, e, hg, r⟩
  · exact .inl hn
  · exact .inr ⟨g, cap, cur, e, by omega, r⟩
theorem Own.form (h : Own w base t k v zs) : ∃ A c, v = .slice A zs.length c ∧ zs.length ≤ c ∧ c ≤ maxLen ∧ Ints w k w.heap.size A zs.length zs := by
  rcases h.2.2 with ⟨rfl, hn⟩ | ⟨g, cap, cur, rfl, hb, hg, hnc, hcm, hcs, ht⟩
  · have : zs = [] := List.eq_nil_of_length_eq_zero hn
    subst this
    exact ⟨none, 0, rfl, Nat.le_refl _, by simp [maxLen], Ints.nil _ _ _ _⟩
  · refine ⟨_, cap, rfl, hnc, hcm, rfl, h.1, fun _ => ⟨g, 0, rfl, (Array.getElem?_eq_some_iff.1 hg).1, fun i hi => ?_⟩⟩
    have hc := h.2.cells (g := g) rfl i (.int k (zs.getD i 0)) (by simp [List.getD_eq_getElem?_getD, hi])
    have e : (Addr.mk g 0 none).add i = ⟨g, 0 + i, none⟩ := by unfold Addr.add; split <;> simp_all
    rwa [e] at hc
theorem Own.ints {A : Option Addr} {n c : Nat} (h : Own w base t k (.slice A n c) zs) (hl : zs.length = n) : Ints w k w.heap.size A n zs := by
  obtain ⟨A', c', e, _, _, hi⟩ := h.form
  injection e with e1 e2 _
  subst e1
  rw [hl] at hi
  exact hi
theorem Own.at_ (h : Own w base t k v zs) (hn : 0 < zs.length) : ∃ g c, v = .slice (some ⟨g, 0, none⟩) zs.length c ∧ base ≤ g ∧ g < w.heap.size ∧ zs.length ≤ c ∧ c ≤ maxLen ∧
    (∀ i, i < zs.length → w.cell? ⟨g, i, none⟩ = some (.int k (zs.getD i 0))) ∧ (∀ i, w.frozen? ⟨g, i, none⟩ = false) := by
  rcases h.2.2 with ⟨rfl, hn'⟩ | ⟨g, cap, cur, rfl, hb, hg, hnc, hcm, hcs, ht⟩
  · omega
  · refine ⟨g, cap, rfl, hb, (Array.getElem?_eq_some_iff.1 hg).1, hnc, hcm, fun i hi => ?_, fun i => by simp [World.frozen?, hg]⟩
    have hc := h.2.cells (g := g) rfl i (.int k (zs.getD i 0)) (by simp [List.getD_eq_getElem?_getD, hi])
    have e : (Addr.mk g 0 none).add i = ⟨g, i, none⟩ := by unfold Addr.add; split <;> simp_all
    rwa [e] at hc
theorem Own.set {g c : Nat} (h : Own w base t k (.slice (some ⟨g, 0, none⟩) zs.length c) zs) (i : Nat) {z : Int} (hz : (Lit.int k z).wf = true) :
    Own (w.setCell ⟨g, i, none⟩ (.int k z)) base t k (.slice (some ⟨g, 0, none⟩) zs.length c) (zs.set i z) := by
  refine ⟨fun y hy => ?_, by simp, ?_⟩
  · rcases List.mem_or_eq_of_mem_set hy with h1 | h1
    · exact h.1 y h1
    · rw [h1]; exact hz
  · rcases h.2.2 with ⟨e, _⟩ | ⟨g', cap, cur, e, hb, hg, hnc, hcm, hcs, ht⟩
    · cases e
    · injection e with e1 _ e3
      injection e1 with e1
      injection e1 with e1
      subst e1
      subst e3
      refine .inr ⟨g, c, cur.setIfInBounds i (.int k z), by simp, hb, ?_, by simpa using hnc, hcm, by simpa using hcs, ?_⟩
      · simp [World.setCell, Array.getElem?_modify, hg]
      · rw [Array.toList_setIfInBounds, List.take_set, List.length_set]
        rw [ht]
        simp [List.map_set]
theorem grown_setCell (w : World) (g i : Nat) (u : Value) : w.grownBy (w.setCell ⟨g, i, none⟩ u) (some g) :=
  ⟨rfl, rfl, rfl, by simp [World.setCell], fun j _ hne => Below.heap_setCell w _ u j (fun e => hne (by rw [e]))⟩
theorem Below.of_grown {B : Nat} {a : World} (h : Below B a w) {row : Option Nat} (hg : w.grownBy w' row) (hB : B ≤ w.heap.size) (hr : ∀ g, row = some g → B ≤ g) : Below B a w' := h.grown hg hB hr
end
theorem run_append_ints {P : Program} (w : World) (base : Nat) (ts ty e : TypeId) (k : IntKind) (bytes : Nat) (ht : P.underlying ts = some (.slice e))
    (hinfo : (P.info? e).map (fun i => (i.zero, i.size, i.bytes)) = some (some (.int k 0), 1, bytes)) (v : Value) (zs : List Int) (hown : Own w base e k v zs)
    (B : Nat) (A : Option Addr) (m c : Nat) (xs : List Int) (hr : Ints w k B A m xs) (hlen : zs.length + m ≤ 17592186044416) (hby : bytes ≤ 8) (hbase : base ≤ w.heap.size) :
    ∃ v' w', (Builtin.append_ #[ts, ts] ty #[v, .slice A m c]).run P w = .ok v' w' ∧ Own w' base e k v' (zs ++ xs) ∧ w.grownBy w' v.ownBlock ∧
      (v'.ownBlock = v.ownBlock ∨ v'.ownBlock = some w.heap.size) := by
  obtain ⟨i, hi, hz, hsz, hb⟩ := info_parts hinfo
  have hwf : ∀ z ∈ zs ++ xs, (Lit.int k z).wf = true := by
    intro z hz'
    rcases List.mem_append.1 hz' with h | h
    · exact hown.1 z h
    · exact hr.2.1 z h
  have hxl := hr.1
  rcases A with _ | ad
  · have hm : m = 0 := by
      rcases Nat.eq_zero_or_pos m with h0 | h0
      · exact h0
      · obtain ⟨_, _, h, _⟩ := hr.2.2 h0
        cases h
    subst hm
    have hx : xs = [] := List.eq_nil_of_length_eq_zero hxl
    subst hx
    refine ⟨v, w, ?_, by simpa using hown, World.grownBy.refl w _, .inl rfl⟩
    rcases hown.2.2 with ⟨rfl, _⟩ | ⟨g, cap, cur, rfl, _, _, hnc, _⟩
    · simp [Builtin.append_, run_underlying ht, sizeOf, typeInfo, hi, Builtin.lenOf, Builtin.firstCells]
    · simp [Builtin.append_, run_underlying ht, sizeOf, typeInfo, hi, Builtin.lenOf, Builtin.firstCells, hnc, storeCells]
  · have hcells : ∀ j u, (xs.map (Value.int k))[j]? = some u → w.cell? (ad.add j) = some u := by
      intro j u hu
      have hj : j < m := by
        have := (List.getElem?_eq_some_iff.1 hu).1
        simp at this
        omega
      obtain ⟨b, off, h, _, hc⟩ := hr.at_ hj
      injection h with h
      subst h
      have e : (Addr.mk b off none).add j = ⟨b, off + j, none⟩ := by unfold Addr.add; split <;> simp_all
      rw [e, hc, ← hu]
      simp [List.getD_eq_getElem?_getD, show j < xs.length by omega]
    obtain ⟨v', w', hrun, h2, h3, _, h5⟩ := run_append_own_at (P := P) w base ts ty e i (.int k 0) 1 bytes ht hi hz hsz hb rfl (by omega) v zs.length (zs.map (Value.int k)) hown.2 ad m c
      (xs.map (Value.int k)) (by simp [hxl]) hcells (by intro u hu; obtain ⟨z, _, rfl⟩ := List.mem_map.1 hu; rfl) (by simp only [maxLen]; omega)
      (Nat.le_trans (Nat.mul_le_mul hlen hby) (by omega)) hbase
    refine ⟨v', w', hrun, ⟨hwf, ?_⟩, h3, h5⟩
    rw [List.length_append, List.map_append, hxl]
    exact h2
section
variable {P : Program} (w : World) {ops : Array Oper} {rest : List Oper} {o : Oper} {a : Act}
theorem wp_append_ints {K : Act → World → Prop} {Q : Exit → Act → World → Prop} (s x : Operand) (ts : TypeId)
    (ho : o.op = .call { callee := .builtin .append, args := #[s, x], argTypes := #[ts, ts] }) (base : Nat) (e : TypeId) (k : IntKind) (bytes : Nat) (ht : P.underlying ts = some (.slice e))
    (hinfo : (P.info? e).map (fun i => (i.zero, i.size, i.bytes)) = some (some (.int k 0), 1, bytes)) (v : Value) (zs : List Int) (hs : a.eval s = v) (hown : Own w base e k v zs)
    (B : Nat) (A : Option Addr) (m c : Nat) (xs : List Int) (hx : a.eval x = .slice A m c) (hr : Ints w k B A m xs) (hlen : zs.length + m ≤ 17592186044416) (hby : bytes ≤ 8) (hbase : base ≤ w.heap.size)
    (h : ∀ v' w', Own w' base e k v' (zs ++ xs) → w.grownBy w' v.ownBlock → (v'.ownBlock = v.ownBlock ∨ v'.ownBlock = some w.heap.size) → K (a.put o.dst v') w') : o.wp P a w K Q := by
  obtain ⟨v', w', hrun, h2, h3, h4⟩ := run_append_ints (P := P) w base ts o.type e k bytes ht hinfo v zs hown B A m c xs hr hlen hby hbase
  unfold Oper.wp execOp
  simp only [ho, resolve, invoke, builtin, Sem.run_bind, Sem.run_pure, Result.andThen_ok, List.map_toArray, List.map_cons, List.map_nil, hs, hx, hrun]
  exact h v' w' h2 h3 h4
theorem wpList_append_ints {Q : Exit → Act → World → Prop} (hw : Region.wanted o (yielded ops a.tmps) = true) (s x : Operand) (ts : TypeId)
    (ho : o.op = .call { callee := .builtin .append, args := #[s, x], argTypes := #[ts, ts] }) (base : Nat) (e : TypeId) (k : IntKind) (bytes : Nat) (ht : P.underlying ts = some (.slice e))
    (hinfo : (P.info? e).map (fun i => (i.zero, i.size, i.bytes)) = some (some (.int k 0), 1, bytes)) (v : Value) (zs : List Int) (hs : a.eval s = v) (hown : Own w base e k v zs)
    (B : Nat) (A : Option Addr) (m c : Nat) (xs : List Int) (hx : a.eval x = .slice A m c) (hr : Ints w k B A m xs) (hlen : zs.length + m ≤ 17592186044416) (hby : bytes ≤ 8) (hbase : base ≤ w.heap.size)
    (h : ∀ v' w', Own w' base e k v' (zs ++ xs) → w.grownBy w' v.ownBlock → (v'.ownBlock = v.ownBlock ∨ v'.ownBlock = some w.heap.size) → wpList P ops Q rest (a.put o.dst v') w') :
    wpList P ops Q (o :: rest) a w :=
  wpList_step fun _ hK => by
    rw [if_pos hw]
    exact wp_append_ints w s x ts ho base e k bytes ht hinfo v zs hs hown B A m c xs hx hr hlen hby hbase fun v' w' h2 h3 h4 => hK _ _ (h v' w' h2 h3 h4)
end
theorem run_append_ints_fits {P : Program} (w : World) (base : Nat) (ts ty e : TypeId) (k : IntKind) (bytes : Nat) (ht : P.underlying ts = some (.slice e))
    (hinfo : (P.info? e).map (fun i => (i.zero, i.size, i.bytes)) = some (some (.int k 0), 1, bytes)) (g cap : Nat) (zs : List Int) (hown : Own w base e k (.slice (some ⟨g, 0, none⟩) zs.length cap) zs)
    (B : Nat) (A : Option Addr) (m c : Nat) (xs : List Int) (hr : Ints w k B A m xs) (hfit : zs.length + m ≤ cap) :
    ∃ w', (Builtin.append_ #[ts, ts] ty #[.slice (some ⟨g, 0, none⟩) zs.length cap, .slice A m c]).run P w = .ok (.slice (some ⟨g, 0, none⟩) (zs.length + m) cap) w' ∧
      Own w' base e k (.slice (some ⟨g, 0, none⟩) (zs.length + m) cap) (zs ++ xs) ∧ w.grownBy w' (some g) := by
  obtain ⟨i, hi, hz, hsz, hb⟩ := info_parts hinfo
  have hwf : ∀ z ∈ zs ++ xs, (Lit.int k z).wf = true := by
    intro z hz'
    rcases List.mem_append.1 hz' with h | h
    · exact hown.1 z h
    · exact hr.2.1 z h
  have hxl := hr.1
  rcases A with _ | ad
  · have hm : m = 0 := by
      rcases Nat.eq_zero_or_pos m with h0 | h0
      · exact h0
      · obtain ⟨_, _, h, _⟩ := hr.2.2 h0
        cases h
    subst hm
    have hx : xs = [] := List.eq_nil_of_length_eq_zero hxl
    subst hx
    refine ⟨w, ?_, by simpa using hown, World.grownBy.refl w _⟩
    simp [Builtin.append_, run_underlying ht, sizeOf, typeInfo, hi, Builtin.lenOf, Builtin.firstCells, show zs.length ≤ cap by omega, storeCells]
  · have hcells : ∀ j u, (xs.map (Value.int k))[j]? = some u → w.cell? (ad.add j) = some u := by
      intro j u hu
      have hj : j < m := by
        have := (List.getElem?_eq_some_iff.1 hu).1
        simp at this
        omega
      obtain ⟨b, off, h, _, hc⟩ := hr.at_ hj
      injection h with h
      subst h
      have e : (Addr.mk b off none).add j = ⟨b, off + j, none⟩ := by unfold Addr.add; split <;> simp_all
      rw [e, hc, ← hu]
      simp [List.getD_eq_getElem?_getD, show j < xs.length by omega]
    obtain ⟨w', hrun, r1, r2⟩ := run_append_fits (P := P) w base ts ty e i 1 ht hi hsz g zs.length cap (zs.map (Value.int k)) hown.2 ad m c (xs.map (Value.int k)) (by simp [hxl]) hcells
      (by intro u hu; obtain ⟨z, _, rfl⟩ := List.mem_map.1 hu; rfl) hfit
    refine ⟨w', hrun, ⟨hwf, ?_⟩, r2⟩
    rw [List.length_append, List.map_append, hxl]
    exact r1
theorem wpList_append_ints_fits {P : Program} (w : World) {ops : Array Oper} {rest : List Oper} {o : Oper} {a : Act} {Q : Exit → Act → World → Prop} (hgd : o.guard = none) (s x : Operand) (ts : TypeId)
    (ho : o.op = .call { callee := .builtin .append, args := #[s, x], argTypes := #[ts, ts] }) (base : Nat) (e : TypeId) (k : IntKind) (bytes : Nat) (ht : P.underlying ts = some (.slice e))
    (hinfo : (P.info? e).map (fun i => (i.zero, i.size, i.bytes)) = some (some (.int k 0), 1, bytes)) (g cap : Nat) (zs : List Int) (hs : a.eval s = .slice (some ⟨g, 0, none⟩) zs.length cap)
    (hown : Own w base e k (.slice (some ⟨g, 0, none⟩) zs.length cap) zs)
    (B : Nat) (A : Option Addr) (m c : Nat) (xs : List Int) (hx : a.eval x = .slice A m c) (hr : Ints w k B A m xs) (hfit : zs.length + m ≤ cap)
    (h : ∀ w', Own w' base e k (.slice (some ⟨g, 0, none⟩) (zs.length + m) cap) (zs ++ xs) → w.grownBy w' (some g) → wpList P ops Q rest (a.put o.dst (.slice (some ⟨g, 0, none⟩) (zs.length + m) cap)) w') :
    wpList P ops Q (o :: rest) a w := by
  refine wpList_plain hgd fun _ hK => ?_
  obtain ⟨w', hrun, h2, h3⟩ := run_append_ints_fits (P := P) w base ts o.type e k bytes ht hinfo g cap zs hown B A m c xs hr hfit
  unfold Oper.wp execOp
  simp only [ho, resolve, invoke, builtin, Sem.run_bind, Sem.run_pure, Result.andThen_ok, List.map_toArray, List.map_cons, List.map_nil, hs, hx, hrun]
  exact hK _ _ (h w' h2 h3)
def Row (w : World) (g : Nat) (t : TypeId) (k : IntKind) (zs : List Int) : Prop := (∀ z ∈ zs, (Lit.int k z).wf = true) ∧ w.heap[g]? = some (.cells (zs.map (Value.int k)).toArray t (0, 0))
section
variable {w w' : World} {g : Nat} {t : TypeId} {k : IntKind} {zs : List Int}
theorem Row.lt (h : Row w g t k zs) : g < w.heap.size := (Array.getElem?_eq_some_iff.1 h.2).1
theorem Row.cell (h : Row w g t k zs) {i : Nat} (hi : i < zs.length) : w.cell? ⟨g, i, none⟩ = some (.int k (zs.getD i 0)) := by
  rw [cell_of_row w g i _ t (0, 0) h.2]
  simp [List.getD_eq_getElem?_getD, hi]
theorem Row.frozen (h : Row w g t k zs) (i : Nat) : w.frozen? ⟨g, i, none⟩ = false := by simp [World.frozen?, h.2]
theorem Row.below {B : Nat} (h : Row w g t k zs) (hb : Below B w w') (hg : g < B) : Row w' g t k zs := ⟨h.1, (hb.block g hg).trans h.2⟩
theorem Row.grown {row : Option Nat} (h : Row w g t k zs) (hb : w.grownBy w' row) (hg : some g ≠ row) : Row w' g t k zs := ⟨h.1, (hb.block g h.lt hg).trans h.2⟩
theorem Row.ints (h : Row w g t k zs) {n : Nat} (hn : n ≤ zs.length) : Ints w k w.heap.size (some ⟨g, 0, none⟩) n (zs.take n) :=
  ⟨by simp; omega, fun z hz => h.1 z (List.mem_of_mem_take hz), fun _ => ⟨g, 0, rfl, h.lt, fun i hi => by
    rw [Nat.zero_add, h.cell (by omega)]
    simp [List.getD_eq_getElem?_getD, hi]⟩⟩
theorem Row.own (h : Row w g t k zs) {base : Nat} (hb : base ≤ g) {n : Nat} (hn : n ≤ zs.length) (hm : zs.length ≤ maxLen) : Own w base t k (.slice (some ⟨g, 0, none⟩) n zs.length) (zs.take n) := by
  refine ⟨fun z hz => h.1 z (List.mem_of_mem_take hz), by simp, .inr ⟨g, zs.length, _, ?_, hb, h.2, ?_, hm, by simp, ?_⟩⟩
  · congr 1; simp; omega
  · simp; omega
  · simp only [Nat.mul_one]; rw [List.length_take, Nat.min_eq_left hn, List.map_take]
end
def Fill (w : World) (g : Nat) (t : TypeId) (cap : Nat) (L : List Value) (k : Nat) : Prop :=
  ∃ cur : Array Value, w.heap[g]? = some (.cells cur t (0, 0)) ∧ cur.size = cap ∧ cur.toList.take k = L.take k
section
variable {w w' : World} {g : Nat} {t : TypeId} {cap : Nat} {L : List Value} {k : Nat}
theorem Fill.new (w : World) (t : TypeId) (cur : Array Value) (L : List Value) : Fill (w.alloc (.cells cur t)) w.heap.size t cur.size L 0 := ⟨cur, heap_alloc_new w _, rfl, by simp⟩
theorem Fill.lt (h : Fill w g t cap L k) : g < w.heap.size := by obtain ⟨cur, h, _⟩ := h; exact (Array.getElem?_eq_some_iff.1 h).1
theorem Fill.frozen (h : Fill w g t cap L k) (i : Nat) : w.frozen? ⟨g, i, none⟩ = false := by obtain ⟨cur, h, _⟩ := h; simp [World.frozen?, h]
theorem Fill.cell (h : Fill w g t cap L k) {i : Nat} (hi : i < cap) : ∃ u, w.cell? ⟨g, i, none⟩ = some u := by
  obtain ⟨cur, h, hs, _⟩ := h
  rw [cell_of_row w g i _ t (0, 0) h]
  exact ⟨cur[i], Array.getElem?_eq_getElem (by omega)⟩
theorem Fill.read (h : Fill w g t cap L k) {i : Nat} (hi : i < k) {u : Value} (hu : L[i]? = some u) : w.cell? ⟨g, i, none⟩ = some u := by
  obtain ⟨cur, h, hs, e⟩ := h
  rw [cell_of_row w g i _ t (0, 0) h]
  have := congrArg (fun l => l[i]?) e
  simp only [List.getElem?_take, hi, if_true] at this
  rw [hu] at this
  simpa using this
theorem Fill.step (h : Fill w g t cap L k) {u : Value} (hu : L[k]? = some u) (hk : k < cap) : Fill (w.setCell ⟨g, k, none⟩ u) g t cap L (k + 1) := by
  obtain ⟨cur, h, hs, e⟩ := h
  refine ⟨cur.setIfInBounds k u, by simp [World.setCell, Array.getElem?_modify, h], by simpa using hs, ?_⟩
  rw [Array.toList_setIfInBounds, List.take_add_one, List.take_add_one, hu, List.take_set, List.getElem?_set]
  simp only [Array.length_toList, hs, hk, if_true]
  rw [List.set_eq_of_length_le (by simp; omega), e]
theorem Fill.keep (h : Fill w g t cap L k) (hb : w'.heap[g]? = w.heap[g]?) : Fill w' g t cap L k := by
  obtain ⟨cur, h, hs, e⟩ := h
  exact ⟨cur, hb.trans h, hs, e⟩
theorem Fill.done (h : Fill w g t cap L k) (hk : cap ≤ k) (hl : L.length = cap) : w.heap[g]? = some (.cells L.toArray t (0, 0)) := by
  obtain ⟨cur, h, hs, e⟩ := h
  rw [List.take_of_length_le (by simp; omega), List.take_of_length_le (by omega)] at e
  rw [h, ← e]
theorem Own.fill {base n : Nat} {kd : IntKind} {zs : List Int} (h : Own w base t kd (.slice (some ⟨g, 0, none⟩) n cap) zs) {M : List Value} (hM : M.take n = zs.map (Value.int kd)) : Fill w g t cap M n := by
  rcases h.2.2 with ⟨e, _⟩ | ⟨g', cap', cur, e, hb, hg, hnc, hcm, hcs, ht⟩
  · cases e
  · injection e with e1 e2 e3
    injection e1 with e1
    injection e1 with e1
    subst e1
    subst e3
    refine ⟨cur, hg, by simpa using hcs, ?_⟩
    rw [hM, ← ht, e2, Nat.mul_one]
end
theorem run_text {P : Program} (w : World) (src dst e : TypeId) (hs : P.underlying src = some (.slice e)) (he : P.underlying e = some (.int .u8)) (hd : P.underlying dst = some .string)
    (B : Nat) (A : Option Addr) (n c : Nat) (zs : List Int) (h : Ints w .u8 B A n zs) :
    (convert src dst (.slice A n c)).run P w = .ok (.string (strOfNums zs)) w := by
  rcases A with _ | ad
  · have hn : n = 0 := by
      rcases Nat.eq_zero_or_pos n with h0 | h0
      · exact h0
      · obtain ⟨_, _, h, _⟩ := h.2.2 h0
        cases h
    subst hn
    have hz : zs = [] := List.eq_nil_of_length_eq_zero h.1
    subst hz
    rw [run_convert_bytes_string w src dst e none 0 c hs he hd]
    rfl
  · by_cases hn : 0 < n
    · obtain ⟨b, off, e1, _, hc⟩ := h.2.2 hn
      injection e1 with e1
      subst e1
      exact run_convert_bytes_arg w src e hs he b off n c zs h.1 hc dst hd
    · have hn : n = 0 := by omega
      subst hn
      have hz : zs = [] := List.eq_nil_of_length_eq_zero h.1
      subst hz
      rw [run_convert_bytes_string w src dst e (some ad) 0 c hs he hd]
      exact run_bytesToString w ad 0 c [] (by simp [loadCells, loadCellsFrom])
theorem text_inj {xs ys : List Int} (hx : ∀ z ∈ xs, (Lit.int .u8 z).wf = true) (hy : ∀ z ∈ ys, (Lit.int .u8 z).wf = true) : ((strOfNums xs).toList = (strOfNums ys).toList) ↔ xs = ys := by
  constructor
  · intro h1
    rw [ByteArray.toList_eq, ByteArray.toList_eq, strOfNums_data, strOfNums_data] at h1
    have hl : xs.length = ys.length := by simpa using congrArg List.length h1
    apply List.ext_getElem hl
    intro i h2 h3
    have := congrArg (fun l => l[i]?) h1
    simp only [List.getElem?_map, List.getElem?_eq_getElem h2, List.getElem?_eq_getElem h3, Option.map_some, Option.some.injEq] at this
    have bx := wf_u8 (hx _ (List.getElem_mem h2))
    have by' := wf_u8 (hy _ (List.getElem_mem h3))
    have e := congrArg UInt8.toNat this
    simp only [UInt8.toNat_ofNat'] at e
    omega
  · intro h; rw [h]
end Go.Proofs.Ytbippmbcgkicaaa.Mem
namespace Go.Proofs.Ytbippmbcgkicaaa.Sto
open Go.RowKit Go.Proofs.Ytbippmbcgkicaaa Mem
open Go.Maps (Keyed string_keyed)
abbrev Nm := List UInt8
structure EK (β : Type) where
  R : Value → Option (DataW Unit × List MemPlace)
  enc : β → Value
  dat : β → DataW Unit
  ok : β → Prop
  z : β
  hR : ∀ b, ok b → ∃ ps, R (enc b) = some (dat b, ps)
  inv : ∀ v y, R v = some y → ∃ b, ok b ∧ v = enc b ∧ y.1 = dat b
  inj : ∀ a b, ok a → ok b → dat a = dat b → a = b
  zok : ok z
section
variable {β : Type}
def lookS (z : β) : List (Nm × β) → Nm → β
  | [], _ => z
  | p :: l, x => if p.1 = x then p.2 else lookS z l x
def putS (k : Nm) (v : β) : List (Nm × β) → List (Nm × β)
  | [] => [(k, v)]
  | p :: l => if p.1 = k then (k, v) :: l else p :: putS k v l
theorem lookS_put (z : β) (k x : Nm) (v : β) : ∀ l : List (Nm × β), lookS z (putS k v l) x = if x = k then v else lookS z l x
  | [] => by
    by_cases h : x = k
    · simp [putS, lookS, h]
    · simp [putS, lookS, h]
      exact fun e => absurd e.symm h
  | p :: l => by
    rw [putS]
    by_cases hp : p.1 = k
    · rw [if_pos hp]
      by_cases hx : x = k
      · simp [lookS, hx]
      · rw [lookS, if_neg (fun e => hx e.symm), if_neg hx, lookS, if_neg (fun e => hx (e.symm.trans hp))]
    · rw [if_neg hp, lookS, lookS_put z k x v l]
      by_cases hx : x = k
      · subst hx
        rw [if_neg hp, if_pos rfl, if_pos rfl]
      · rw [if_neg hx, if_neg hx, lookS]
theorem putS_keys (k : Nm) (v : β) : ∀ l : List (Nm × β), (putS k v l).map (·.1) = if k ∈ l.map (·.1) then l.map (·.1) else l.map (·.1) ++ [k]
  | [] => by simp [putS]
  | p :: l => by
    rw [putS]
    by_cases hp : p.1 = k
    · rw [if_pos hp, List.map_cons, List.map_cons, if_pos (by rw [hp]; exact List.mem_cons_self), hp]
    · rw [if_neg hp, List.map_cons, putS_keys k v l, List.map_cons]
      by_cases hk : k ∈ l.map (·.1)
      · rw [if_pos hk, if_pos (List.mem_cons_of_mem _ hk)]
      · rw [if_neg hk, if_neg (by rw [List.mem_cons]; exact fun e => e.elim (fun e => hp e.symm) hk), List.cons_append]
theorem mem_putS {k x : Nm} {v : β} {l : List (Nm × β)} : x ∈ (putS k v l).map (·.1) ↔ x = k ∨ x ∈ l.map (·.1) := by
  rw [putS_keys]
  split
  · rename_i h
    exact ⟨.inr, fun e => e.elim (fun e => by rw [e]; exact h) id⟩
  · rw [List.mem_append, List.mem_singleton]
    exact ⟨fun e => e.symm, fun e => e.symm⟩
theorem putS_nodup {k : Nm} {v : β} {l : List (Nm × β)} (h : (l.map (·.1)).Nodup) : ((putS k v l).map (·.1)).Nodup := by
  rw [putS_keys]
  split
  · exact h
  · rename_i hk
    exact List.nodup_append.2 ⟨h, by simp, fun a ha b hb e => hk (by rw [List.mem_singleton.1 hb] at e; exact e ▸ ha)⟩
theorem putS_new {k : Nm} {v : β} : ∀ {l : List (Nm × β)}, ¬ k ∈ l.map (·.1) → putS k v l = l ++ [(k, v)]
  | [], _ => rfl
  | p :: l, h => by
    rw [List.map_cons, List.mem_cons] at h
    rw [putS, if_neg (fun e => h (.inl e.symm)), putS_new (fun e => h (.inr e)), List.cons_append]
theorem mem_putS_pair {k : Nm} {v : β} : ∀ {l : List (Nm × β)} {x : Nm × β}, x ∈ putS k v l → x = (k, v) ∨ x ∈ l
  | [], x, h => by simpa [putS] using h
  | p :: l, x, h => by
    rw [putS] at h
    split at h
    · rcases List.mem_cons.1 h with h | h
      · exact .inl h
      · exact .inr (List.mem_cons_of_mem _ h)
    · rcases List.mem_cons.1 h with h | h
      · exact .inr (by rw [h]; exact List.mem_cons_self)
      · exact (mem_putS_pair h).imp id (List.mem_cons_of_mem _)
theorem lookS_none {z : β} : ∀ {l : List (Nm × β)} {x : Nm}, ¬ x ∈ l.map (·.1) → lookS z l x = z
  | [], _, _ => rfl
  | p :: l, x, h => by
    rw [List.map_cons, List.mem_cons] at h
    rw [lookS, if_neg (fun e => h (.inl e.symm)), lookS_none (fun e => h (.inr e))]
theorem lookS_at {z : β} : ∀ {l : List (Nm × β)}, (l.map (·.1)).Nodup → ∀ {x : Nm × β}, x ∈ l → lookS z l x.1 = x.2
  | [], _, _, h => absurd h (by simp)
  | p :: l, hd, x, h => by
    rw [List.map_cons, List.nodup_cons] at hd
    rcases List.mem_cons.1 h with rfl | h
    · simp [lookS]
    · rw [lookS, if_neg (fun e => hd.1 (by rw [e]; exact List.mem_map.2 ⟨x, h, rfl⟩)), lookS_at hd.2 h]
structure ReadsS (E : EK β) (D : DataW Unit) (M : List (Nm × β)) : Prop where
  nodup : (M.map (·.1)).Nodup
  ok : ∀ x ∈ M, x.1.length ≤ maxLen ∧ E.ok x.2
  has : ∀ x : Nm, Maps.has D (.string x) = decide (x ∈ M.map (·.1))
  at_ : ∀ x : Nm, D.atKey (.string x) (E.dat E.z) = E.dat (lookS E.z M x)
  size : Maps.size D = M.length
def MpS (E : EK β) (P : Program) (K : TypeId) (w : World) (b n : Nat) (M : List (Nm × β)) : Prop := ∃ D : DataW Unit, w.ownsMap P K E.R b n D ∧ ReadsS E D M
def RgS (E : EK β) (P : Program) (K : TypeId) (w : World) (b r n : Nat) (M rem : List (Nm × β)) : Prop :=
  ∃ (D : DataW Unit) (left : Lit → Bool) (cnt : Nat), w.ranges P K E.R b r n D left cnt ∧ ReadsS E D M ∧ (rem.map (·.1)).Nodup ∧ (∀ x ∈ rem, x ∈ M) ∧ (∀ x : Nm, left (.string x) = decide (x ∈ rem.map (·.1))) ∧ ∀ kl, left kl = true → ∃ x, kl = .string x
variable {E : EK β} {P : Program} {K e T : TypeId} {w w' : World} {b r n : Nat} {M rem : List (Nm × β)}
theorem ReadsS.ok_look {D : DataW Unit} (h : ReadsS E D M) (x : Nm) : E.ok (lookS E.z M x) := by
  by_cases hx : x ∈ M.map (·.1)
  · obtain ⟨p, hp, rfl⟩ := List.mem_map.1 hx
    rw [lookS_at h.nodup hp]
    exact (h.ok p hp).2
  · rw [lookS_none hx]
    exact E.zok
theorem MpS.made (E : EK β) (w : World) (P : Program) (K : TypeId) : MpS E P K (w.alloc (.map #[] 0)) w.heap.size 0 [] :=
  ⟨.map [], World.ownsMap_made _ _ _ _, ⟨by simp, by simp, fun x => by simp [Maps.has], fun x => by rfl, rfl⟩⟩
theorem MpS.lt (h : MpS E P K w b n M) : b < w.heap.size := by
  obtain ⟨D, h, _⟩ := h
  exact h.lt
theorem MpS.kept {row : Option Nat} (h : MpS E P K w b n M) (hg : w.grownBy w' row) (hne : some b ≠ row) : MpS E P K w' b n M := by
  obtain ⟨D, h, r⟩ := h
  exact ⟨D, h.kept hg hne, r⟩
theorem MpS.below (h : MpS E P K w b n M) (hb : Below w.heap.size w w') : MpS E P K w' b n M := h.kept (grown_of_below hb none) (by simp)
theorem MpS.same (h : MpS E P K w b n M) (hb : ∀ o, w.heap[b]? = some o → w'.heap[b]? = some o) : MpS E P K w' b n M := by
  obtain ⟨D, ⟨es, clock, h1, h2⟩, r⟩ := h
  exact ⟨D, ⟨es, clock, hb _ h1, h2⟩, r⟩
theorem MpS.mono (h : MpS E P K w b n M) {n' : Nat} (hn : n ≤ n') : MpS E P K w b n' M := by
  obtain ⟨D, h, r⟩ := h
  exact ⟨D, h.mono hn, r⟩
theorem MpS.nodup (h : MpS E P K w b n M) : (M.map (·.1)).Nodup := by
  obtain ⟨D, _, h⟩ := h
  exact h.nodup
theorem MpS.obj (h : MpS E P K w b n M) : ∃ es clock, w.heap[b]? = some (.map es clock) := by
  obtain ⟨D, ⟨es, clock, h1, h2⟩, r⟩ := h
  exact ⟨es, clock, h1⟩
theorem key_str (hK : P.underlying K = some .string) {x : Nm} (hx : x.length ≤ maxLen) : keyOf P K (encStr x) = some (.string x) := by
  have h := Go.WideMaps.keyOf_string_mk (P := P) hK (s := ⟨x.toArray⟩) (by show x.toArray.size ≤ maxLen; simpa using hx)
  simpa using h
theorem MpS.look (hK : P.underlying K = some .string) (hT : P.underlying T = some (.map K e)) (hz : ∀ w, (zeroValue e).run P w = .ok (E.enc E.z) w) (h : MpS E P K w b n M) {x : Nm} (hx : x.length ≤ maxLen) :
    (Instr.lookup T (.map (some b)) (encStr x) false).run P w = .ok (E.enc (lookS E.z M x)) w := by
  obtain ⟨D, h, hr⟩ := h
  obtain ⟨ps0, h0⟩ := E.hR E.z E.zok
  obtain ⟨v, ps, hrun, hv⟩ := h.lookup (string_keyed hK) hT (hz w) h0 (key_str hK hx)
  obtain ⟨c, hok, rfl, hc⟩ := E.inv v _ hv
  rw [hrun]
  have hc : D.atKey (.string x) (E.dat E.z) = E.dat c := hc
  rw [hr.at_] at hc
  rw [E.inj _ _ (hr.ok_look x) hok hc]
theorem MpS.store (hK : P.underlying K = some .string) (hT : P.underlying T = some (.map K e)) (h : MpS E P K w b n M) (hn : n ≤ 1048576) {x : Nm} {v : β} (hx : x.length ≤ maxLen) (hv : E.ok v) :
    ∃ w', (Instr.mapUpdate T (.map (some b)) (encStr x) (E.enc v)).run P w = .ok () w' ∧ MpS E P K w' b (n + 1) (putS x v M) ∧ w.grownBy w' (some b) := by
  obtain ⟨D, h, hr⟩ := h
  have hti := h.tidy (string_keyed hK)
  obtain ⟨ps, hps⟩ := E.hR v hv
  obtain ⟨w', hrun, h2, hg⟩ := h.update (string_keyed hK) hT (by unfold maxLen; omega) (key_str hK hx) hps
  have hk : Go.WideAt.IsKeyLit (.string x) := trivial
  refine ⟨w', hrun, ⟨_, h2, putS_nodup hr.nodup, fun y hy => ?_, fun y => ?_, fun y => ?_, ?_⟩, hg⟩
  · rcases mem_putS_pair hy with rfl | hy
    · exact ⟨hx, hv⟩
    · exact hr.ok y hy
  · by_cases hy : y = x
    · subst hy
      rw [Maps.has_put_same hti.isMap hk]
      exact (decide_eq_true (mem_putS.2 (.inl rfl))).symm
    · rw [Maps.has_put_other (by intro e; injection e with e; exact hy e), hr.has y]
      exact decide_eq_decide.2 ⟨fun e => mem_putS.2 (.inr e), fun e => (mem_putS.1 e).resolve_left hy⟩
  · rw [lookS_put]
    by_cases hy : y = x
    · subst hy
      rw [Maps.atKey_put_same hti.isMap hk, if_pos rfl]
    · rw [Maps.atKey_put_other (by intro e; injection e with e; exact hy e), hr.at_ y, if_neg hy]
  · have hl : (putS x v M).length = ((putS x v M).map (·.1)).length := by rw [List.length_map]
    rw [Maps.size_put hti, hr.has x, hr.size, hl, putS_keys]
    by_cases hm : x ∈ M.map (·.1)
    · rw [if_pos hm, decide_eq_true hm, if_pos rfl, List.length_map]
    · rw [if_neg hm, decide_eq_false hm, if_neg (by simp), List.length_append, List.length_map, List.length_singleton]
theorem MpS.range (hK : P.underlying K = some .string) (hT : P.underlying T = some (.map K e)) (h : MpS E P K w b n M) :
    ∃ w', (Instr.range T (.map (some b))).run P w = .ok (.pointer (some ⟨w.heap.size, 0, none⟩)) w' ∧ RgS E P K w' b w.heap.size n M M ∧ w.grownBy w' none ∧ w'.heap.size = w.heap.size + 1 := by
  obtain ⟨D, h, hr⟩ := h
  obtain ⟨w', h1, h2, h3, h4⟩ := h.range (string_keyed hK) hT
  refine ⟨w', h1, ⟨D, _, _, h2, hr, hr.nodup, fun x hx => hx, hr.has, fun kl hkl => ?_⟩, h3, h4⟩
  obtain ⟨es, rfl, hes⟩ := h.keysOf
  obtain ⟨p, hp, hpk⟩ := List.any_eq_true.1 hkl
  obtain ⟨v, hv⟩ := hes p hp
  obtain ⟨x, _, hx, _⟩ := Maps.keyOf_str hK hv
  exact ⟨x, by rw [← WideAt.sameKey_eq hpk, hx]⟩
theorem RgS.ne (h : RgS E P K w b r n M rem) : r ≠ b := by
  obtain ⟨D, left, cnt, h, _⟩ := h
  exact h.ne
theorem RgS.lt (h : RgS E P K w b r n M rem) : r < w.heap.size := by
  obtain ⟨D, left, cnt, h, _⟩ := h
  exact h.lt
theorem RgS.same (h : RgS E P K w b r n M rem) (hb : ∀ o, w.heap[b]? = some o → w'.heap[b]? = some o) (hi : ∀ o, w.heap[r]? = some o → w'.heap[r]? = some o) : RgS E P K w' b r n M rem := by
  obtain ⟨D, left, cnt, ⟨es, clock, since, seen, c0, h1, h2, h3, h4, h5, h6⟩, h7⟩ := h
  exact ⟨D, left, cnt, ⟨es, clock, since, seen, c0, hb _ h1, h2, h3, h4, hi _ h5, h6⟩, h7⟩
theorem RgS.left_same (h : RgS E P K w b r n M rem) (hb : ∀ o, w.heap[b]? = some o → w'.heap[b]? = some o) (hi : ∀ o, w.heap[r]? = some o → w'.heap[r]? = some o) : w'.rangeLeft b r = w.rangeLeft b r := by
  have h' := h.same hb hi
  obtain ⟨D, left, cnt, ⟨es, clock, since, seen, c0, h1, h2, h3, h4, h5, h6⟩, h7⟩ := h
  unfold World.rangeLeft
  rw [h1, h5, hb _ h1, hi _ h5]
theorem RgS.next (hK : P.underlying K = some .string) (h : RgS E P K w b r n M rem) (ty : TypeId) :
    (rem = [] ∧ (Instr.next (.pointer (some ⟨r, 0, none⟩)) false ty).run P w = .ok (.tuple #[.bool false]) w) ∨
    ∃ x w', x ∈ rem ∧ (Instr.next (.pointer (some ⟨r, 0, none⟩)) false ty).run P w = .ok (.tuple #[.bool true, encStr x.1, E.enc x.2]) w' ∧ RgS E P K w' b r n M (rem.filter fun p => !decide (p.1 = x.1)) ∧ w.grownBy w' (some r) ∧ w'.heap.size = w.heap.size ∧ w'.rangeLeft b r < w.rangeLeft b r ∧
      (Instr.entry (.pointer (some ⟨r, 0, none⟩))).run P w' = .ok (.tuple #[encStr x.1, E.enc x.2]) w' := by
  obtain ⟨D, left, cnt, h, hr, hnd, hsub, hleft, hstr⟩ := h
  rcases h.next (string_keyed hK) ty with ⟨_, hl, hrun⟩ | ⟨key, v, kl, y, w', cnt', hkey, hlk, hv, hat, hrun, hrg, hcl, hg, hsz, hen⟩
  · refine .inl ⟨?_, hrun⟩
    cases rem with
    | nil => rfl
    | cons p l =>
      have := hleft p.1
      rw [hl] at this
      exact absurd this (by simp)
  · obtain ⟨x, rfl, rfl, hxl⟩ := Maps.keyOf_str hK hkey
    have hx : x ∈ rem.map (·.1) := by
      rw [hleft x] at hlk
      exact of_decide_eq_true hlk
    obtain ⟨p, hp, rfl⟩ := List.mem_map.1 hx
    obtain ⟨c, hok, rfl, hc⟩ := E.inv v y hv
    have hc2 := hat (E.dat E.z)
    rw [hr.at_, hc] at hc2
    have e0 := E.inj _ _ (hr.ok_look _) hok hc2
    rw [lookS_at hr.nodup (hsub p hp)] at e0
    subst e0
    refine .inr ⟨p, w', hp, hrun, ⟨D, _, cnt', hrg, hr, ?_, fun q hq => hsub q ((List.mem_filter.1 hq).1), fun q => ?_, fun kl hkl => hstr kl (by simp at hkl; exact hkl.1)⟩, hg, hsz, by rw [hrg.left_eq, h.left_eq]; exact hcl, hen⟩
    · exact List.Pairwise.sublist (List.Sublist.map _ List.filter_sublist) hnd
    · show (left (.string q) && !(Lit.string q).sameKey (.string p.1)) = _
      rw [hleft q]
      by_cases hq : q = p.1
      · subst hq
        rw [WideAt.sameKey_self (show WideAt.IsKeyLit (Lit.string p.1) from trivial)]
        simp
      · rw [Maps.sameKey_ne (by intro e; injection e with e; exact hq e)]
        rw [Bool.not_false, Bool.and_true]
        refine decide_eq_decide.2 ?_
        simp only [List.mem_map, List.mem_filter]
        constructor
        · rintro ⟨a, ha, rfl⟩
          exact ⟨a, ⟨ha, by simpa using hq⟩, rfl⟩
        · rintro ⟨a, ⟨ha, _⟩, rfl⟩
          exact ⟨a, ha, rfl⟩
end
end Go.Proofs.Ytbippmbcgkicaaa.Sto
namespace Go.Proofs.Ytbippmbcgkicaaa.Range
open Go.RowKit
def Far {β : Type} (B : Nat) (J : β → World → Prop) : Prop :=
  ∀ s W W' row, J s W → W.grownBy W' row → (∀ r, row = some r → B ≤ r) → J s W'
theorem Far.alloc {β : Type} {B : Nat} {J : β → World → Prop} (h : Far B J) {s : β} {W : World} (o : Obj) (hs : J s W) : J s (W.alloc o) :=
  h s W _ none hs (World.grownBy_alloc W o none) (fun r e => by cases e)
theorem Far.put {β : Type} {B : Nat} {J : β → World → Prop} (h : Far B J) {s : β} {W : World} {l : Nat} (o : Obj) (hs : J s W) (hl : B ≤ l) : J s (W.putObj l o) :=
  h s W _ (some l) hs (grownBy_putObj' W l o) (fun r e => by cases e; exact hl)
theorem Far.below {β : Type} {B : Nat} {J : β → World → Prop} (h : Far B J) {s : β} {W W' : World} (hs : J s W) (hb : Below B W W') (hB : B ≤ W.heap.size) (hone : ∃ r, B ≤ r ∧ W.grownBy W' (some r)) : J s W' := by
  obtain ⟨r, hr, hg⟩ := hone
  exact h s W W' (some r) hs hg (fun q e => by cases e; exact hr)
variable {F : Fence} {n : Nat} {P : Program}
end Go.Proofs.Ytbippmbcgkicaaa.Range
namespace Go.Proofs.Ytbippmbcgkicaaa.Range
open Go.RowKit
def SeqStop {α : Type} (F : Fence) (n : Nat) (P : Program) (g : Nat) (lb : Array Value) (encs : α → Array Value) (Kp : World → World → Prop) (at_ : Nat → Option α) (w : World) : Prop :=
  ∀ (l : Nat) (J Jx : Nat → World → Prop) (N : Nat) (W : World), Below w.heap.size w W → Far W.heap.size J → Far W.heap.size Jx → (∀ k W1, J k W1 → k < N) →
    (∀ k x W1, J k W1 → at_ k = some x → YieldAt F (n - 1) P l (encs x) W1 fun e W' =>
      (e = .returned (.bool true) ∧ J (k + 1) W' ∧ Kp W1 W') ∨ (e = .returned (.bool false) ∧ Jx (k + 1) W')) →
    J 0 W → CallsIn F n P g (#[.func (.yield l) #[] #[]] ++ lb) W fun e W' => (∃ v, e = .returned v) ∧ ((∃ k, at_ k = none ∧ J k W') ∨ ∃ k, Jx k W')
theorem SeqStop.inRound {α : Type} {F : Fence} {n : Nat} {P : Program} {g : Nat} {lb : Array Value} {encs : α → Array Value} {Kp : World → World → Prop} {at_ : Nat → Option α} {w : World} (l : Nat)
    (h : SeqStop F n P g lb encs Kp at_ w) : SeqStop (F.inRound l) n P g lb encs Kp at_ w := h
def stopPost (R : World → Prop) (X : Code → World → Prop) : Exit → Act → World → Prop
  | .normal, _, W' => R W'
  | .ret, _, W' => X .ret W'
  | .exit id, _, W' => X (.exit id) W'
  | .goto t, _, W' => X (.goto t) W'
  | _, _, _ => False
variable {F : Fence} {n : Nat} {P : Program}
end Go.Proofs.Ytbippmbcgkicaaa.Range
namespace Go.Proofs.Ytbippmbcgkicaaa.Range
open Go.RowKit
structure KeepsP (S : Nat → Prop) (W W' : World) : Prop where
  os : W'.os = W.os
  tape : W'.tape = W.tape
  output : W'.output = W.output
  size : W.heap.size ≤ W'.heap.size
  block : ∀ r o, S r → W.heap[r]? = some o → W'.heap[r]? = some o
section
variable {S S' : Nat → Prop} {W W' W'' : World}
theorem KeepsP.refl (S : Nat → Prop) (W : World) : KeepsP S W W := ⟨rfl, rfl, rfl, Nat.le_refl _, fun _ _ _ h => h⟩
theorem KeepsP.trans (h : KeepsP S W W') (k : KeepsP S W' W'') : KeepsP S W W'' := ⟨k.os.trans h.os, k.tape.trans h.tape, k.output.trans h.output, Nat.le_trans h.size k.size, fun r o hr ho => k.block r o hr (h.block r o hr ho)⟩
theorem KeepsP.less (h : KeepsP S W W') (hs : ∀ r, S' r → S r) : KeepsP S' W W' := ⟨h.os, h.tape, h.output, h.size, fun r o hr ho => h.block r o (hs r hr) ho⟩
theorem KeepsP.of_grown {row : Option Nat} (h : W.grownBy W' row) (hr : ∀ r, row = some r → ¬ S r) : KeepsP S W W' :=
  ⟨h.os, h.tape, h.output, h.size, fun r o hs ho => (h.block r (Array.getElem?_eq_some_iff.1 ho).1 (fun e => hr r e.symm hs)).trans ho⟩
theorem KeepsP.of_below (h : Below W.heap.size W W') : KeepsP S W W' := KeepsP.of_grown (Mem.grown_of_below h none) (fun r e => by cases e)
theorem KeepsP.below {B : Nat} (h : KeepsP S W W') (hB : B ≤ W.heap.size) (hs : ∀ r, r < B → S r) : Below B W W' :=
  ⟨h.os, h.tape, h.output, h.size, fun k hk => by
    have e := Array.getElem?_eq_getElem (xs := W.heap) (show k < W.heap.size by omega)
    rw [e]
    exact h.block k _ (hs k hk) e⟩
end
structure Stay {β : Type} (J : (Nat → Prop) → β → World → Prop) : Prop where
  new : ∀ pv pv' s W W', J pv s W → W.grownBy W' none → (∀ r, pv r → pv' r) → (∀ r, pv' r → pv r ∨ (W.heap.size ≤ r ∧ r < W'.heap.size)) → J pv' s W'
  put : ∀ pv s W W' r, J pv s W → pv r → W.grownBy W' (some r) → J pv s W'
section
variable {β : Type} {J K : (Nat → Prop) → β → World → Prop} {pv : Nat → Prop} {s : β} {W W' : World}
theorem Stay.same (h : Stay J) (hs : J pv s W) (hg : W.grownBy W' none) : J pv s W' := h.new pv pv s W W' hs hg (fun _ h => h) (fun _ h => .inl h)
theorem Stay.one (h : Stay J) (hs : J pv s W) (hg : W.grownBy W' none) (b : Nat) (h1 : W.heap.size ≤ b) (h2 : b < W'.heap.size) : J (fun r => pv r ∨ r = b) s W' :=
  h.new pv _ s W W' hs hg (fun _ h => .inl h) (fun r hr => hr.elim .inl (fun e => .inr (by subst e; exact ⟨h1, h2⟩)))
theorem Stay.below (h : Stay J) (hs : J pv s W) (hb : Below W.heap.size W W') : J pv s W' := h.same hs (Mem.grown_of_below hb none)
theorem Stay.all (h : Stay J) (hs : J pv s W) (hb : Below W.heap.size W W') : J (fun r => pv r ∨ (W.heap.size ≤ r ∧ r < W'.heap.size)) s W' :=
  h.new pv _ s W W' hs (Mem.grown_of_below hb none) (fun _ h => .inl h) (fun _ h => h)
end
def SeqP {α : Type} (F : Fence) (n : Nat) (P : Program) (g : Nat) (lb : Array Value) (Nd : Nat → Prop) (encs : α → Array Value) (at_ : Nat → Option α) (w : World) : Prop :=
  ∀ (l : Nat) (J Jx : (Nat → Prop) → Nat → World → Prop) (W : World), Below w.heap.size w W → Stay J → Stay Jx →
    (∀ pv k x W1, J pv k W1 → at_ k = some x → YieldAt F (n - 1) P l (encs x) W1 fun e W' => KeepsP (fun r => Nd r ∨ pv r) W1 W' ∧
      ((e = .returned (.bool true) ∧ J pv (k + 1) W') ∨ (e = .returned (.bool false) ∧ Jx pv (k + 1) W'))) →
    J (fun _ => False) 0 W → CallsIn F n P g (#[.func (.yield l) #[] #[]] ++ lb) W fun e W' => (∃ v, e = .returned v) ∧ ((∃ pv k, at_ k = none ∧ J pv k W') ∨ ∃ pv k, Jx pv k W')
section
variable {J : (Nat → Prop) → Nat → World → Prop} {own nd : Nat → Prop} {F : Nat → World → Prop} {ix : Nat → Nat} {pv : Nat → Prop} {k : Nat} {W W' : World}
end
theorem SeqP.inRound {α : Type} {F : Fence} {n : Nat} {P : Program} {g : Nat} {lb : Array Value} {Nd : Nat → Prop} {encs : α → Array Value} {at_ : Nat → Option α} {w : World} (l : Nat) (h : SeqP F n P g lb Nd encs at_ w) : SeqP (F.inRound l) n P g lb Nd encs at_ w := h
variable {F : Fence} {n : Nat} {P : Program}
end Go.Proofs.Ytbippmbcgkicaaa.Range
