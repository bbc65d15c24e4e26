/-
  The functions Same and Plain of package dominohelp on records, by their contracts.
  The functions Own and Kept of package dominohelp on records, by their contracts.
  Lists of structs in memory, of any kind whose fields are one cell each: what they read as, literals, appends, stores: no program here.
  More of lists of structs in memory: made (zeros), copied: no program here.
  Where every activation may run, what is shown of one operation without a fence holds within a round, and within an iterator, too: no program here.
  More steps of a region: a nil check passed, one cell or one struct stored into a block that is known whole, some numbers copied to its head: no program here.
  More steps of a region: a struct allocated, a list of structs built: no program here.
  One struct stored into a list whose block is known whole: no program here.
  Package merge's leads and settle by their contracts: which of two records stands ahead by either order; two neighbours of a list of the call's own.
  Lists of structs in a block that is filled step by step; append within the room: no program here.
  Appending a list of structs of any length, none among them, onto a list of the call's own; the library's slices.Clone and slices.Grow of records, by their contracts.
  Package store, plain: what is known of each name, what each call makes of it, what is shown, what was shown directly ahead of a Put: no program here.
  Words for package store in memory: lists of byte slices, views, what is known of a name, a store: what they read as, whose each block is, what a change of one of them leaves: no program here but its types.
  Maps keyed by strings at the operations: looked up, stored into, made, ranged over; strings held against each other: no program here.
-/
import Derived.Test.YtbippmbcgkicaaaB2
import Derived.OwnWalk
import Derived.Lib.BufferOwn
import Derived.Maps.AppendAt
import Derived.Great.BuildSlice
import Derived.Deep.MidRow
import Derived.Great.FillDense
import Derived.Laws.CopyOwn
import Derived.Lib.LazyBuf
import Derived.WalkKit
import Derived.Test.YtbippmbcgkicaaaB1
import Derived.Laws.IdiomRangeMap
import Derived.WalkSpells
set_option linter.unusedVariables false
namespace Go.Proofs.Ytbippmbcgkicaaa.Rs
open Go.RowKit Go.Shelf Go.Proofs.Ytbippmbcgkicaaa Mem Held Rc
attribute [local irreducible] wpList wpListIn Calls
end Go.Proofs.Ytbippmbcgkicaaa.Rs
namespace Go.Proofs.Ytbippmbcgkicaaa.Rs
open Go.RowKit Go.Shelf Go.Proofs.Ytbippmbcgkicaaa Mem Held Rc
set_option maxRecDepth 100000
attribute [local irreducible] wpList wpListIn Calls
end Go.Proofs.Ytbippmbcgkicaaa.Rs
namespace Go.Proofs.Ytbippmbcgkicaaa.Sl
open Go.RowKit Go.Shelf Mem Held
structure St (α : Type) where
  s : Nat
  cells : α → List Value
  wf : α → Prop
  d : α
  len : ∀ x, (cells x).length = s
  one : ∀ x, ∀ u ∈ cells x, u.oneCell' = true
  pos : 0 < s
section
variable {α : Type} {k : St α}
def flat (k : St α) (xs : List α) : List Value := xs.flatMap k.cells
theorem flat_length (k : St α) : ∀ xs : List α, (flat k xs).length = xs.length * k.s
  | [] => by simp [flat]
  | x :: xs => by
    have := flat_length k xs
    simp only [flat, List.flatMap_cons, List.length_append, List.length_cons, k.len] at this ⊢
    rw [this, Nat.add_mul, Nat.one_mul, Nat.add_comm]
theorem flat_append (xs ys : List α) : flat k (xs ++ ys) = flat k xs ++ flat k ys := by simp [flat]
theorem flat_at : ∀ (xs : List α) (i j : Nat), j < k.s → i < xs.length → (flat k xs)[i * k.s + j]? = (k.cells (xs.getD i k.d))[j]?
  | [], i, j, _, h => absurd h (by simp)
  | x :: xs, 0, j, hj, _ => by
    simp only [flat, List.flatMap_cons, Nat.zero_mul, Nat.zero_add, List.getD_cons_zero]
    rw [List.getElem?_append_left (by rw [k.len]; exact hj)]
  | x :: xs, i + 1, j, hj, h => by
    have := flat_at xs i j hj (by simpa using h)
    simp only [flat, List.flatMap_cons, List.getD_cons_succ] at this ⊢
    have hm : (i + 1) * k.s + j = k.s + (i * k.s + j) := by rw [Nat.add_mul, Nat.one_mul]; omega
    rw [List.getElem?_append_right (by rw [k.len]; omega), k.len, hm, Nat.add_sub_cancel_left, this]
theorem flat_cell (xs : List α) : ∀ u ∈ flat k xs, u.oneCell' = true := fun u hu => by
  obtain ⟨x, _, h⟩ := List.mem_flatMap.1 hu
  exact k.one x u h
theorem flat_take (xs : List α) (i : Nat) (h : i ≤ xs.length) : (flat k xs).take (i * k.s) = flat k (xs.take i) := by
  have e : flat k xs = flat k (xs.take i) ++ flat k (xs.drop i) := by rw [← flat_append, List.take_append_drop]
  rw [e, List.take_left' (by rw [flat_length, List.length_take, Nat.min_eq_left h])]
theorem flat_drop (xs : List α) (i : Nat) (h : i ≤ xs.length) : (flat k xs).drop (i * k.s) = flat k (xs.drop i) := by
  have e : flat k xs = flat k (xs.take i) ++ flat k (xs.drop i) := by rw [← flat_append, List.take_append_drop]
  rw [e, List.drop_left' (by rw [flat_length, List.length_take, Nat.min_eq_left h])]
theorem flat_set (xs : List α) (i : Nat) (x : α) (h : i < xs.length) : flat k (xs.set i x) = (flat k xs).take (i * k.s) ++ k.cells x ++ (flat k xs).drop (i * k.s + k.s) := by
  rw [List.set_eq_take_append_cons_drop, if_pos h, flat_take xs i (by omega), show i * k.s + k.s = (i + 1) * k.s by rw [Nat.add_mul, Nat.one_mul], flat_drop xs (i + 1) (by omega)]
  simp [flat]
def Lst (k : St α) (w : World) (B : Nat) (A : Option Addr) (n : Nat) (xs : List α) : Prop :=
  xs.length = n ∧ (∀ x ∈ xs, k.wf x) ∧ (0 < n → ∃ b off, A = some ⟨b, off, none⟩ ∧ b < B ∧ w.rangeAt b off (flat k xs))
variable {w w' : World} {B B' n : Nat} {A : Option Addr} {xs : List α}
theorem Lst.nil (k : St α) (w : World) (B : Nat) (A : Option Addr) : Lst k w B A 0 [] := ⟨rfl, by simp, fun h => absurd h (by omega)⟩
theorem Lst.keep (h : Lst k w B A n xs) (hk : ∀ p : Addr, p.block < B → w'.cell? p = w.cell? p) : Lst k w' B A n xs :=
  ⟨h.1, h.2.1, fun hn => by
    obtain ⟨b, off, e, hb, hc⟩ := h.2.2 hn
    exact ⟨b, off, e, hb, fun j v hv => (hk ⟨b, off + j, none⟩ hb).trans (hc j v hv)⟩⟩
theorem Lst.more (h : Lst k w B A n xs) (hB : B ≤ B') : Lst k w B' A n xs :=
  ⟨h.1, h.2.1, fun hn => by
    obtain ⟨b, off, e, hb, hc⟩ := h.2.2 hn
    exact ⟨b, off, e, by omega, hc⟩⟩
theorem Lst.below (h : Lst k w B A n xs) (hb : Below B w w') : Lst k w' B A n xs := h.keep fun _ hp => hb.cell hp
theorem Lst.at_ (h : Lst k w B A n xs) {i : Nat} (hi : i < n) : ∃ b off, A = some ⟨b, off, none⟩ ∧ b < B ∧ w.rangeAt b (off + i * k.s) (k.cells (xs.getD i k.d)) := by
  obtain ⟨b, off, e, hb, hc⟩ := h.2.2 (by omega)
  refine ⟨b, off, e, hb, fun j v hv => ?_⟩
  have hj : j < k.s := by have := (List.getElem?_eq_some_iff.1 hv).1; rwa [k.len] at this
  rw [Nat.add_assoc]
  exact hc (i * k.s + j) v (by rw [flat_at xs i j hj (by rw [h.1]; exact hi)]; exact hv)
theorem lst_of_blk {g : Nat} {t : TypeId} {ys : List α} (h : Blk w g t (flat k (xs ++ ys)).toArray) (hw : ∀ x ∈ xs, k.wf x) : Lst k w w.heap.size (some ⟨g, 0, none⟩) xs.length xs :=
  ⟨rfl, hw, fun _ => ⟨g, 0, rfl, h.lt, fun j v hv => by
    rw [Nat.zero_add]
    refine h.cell ?_
    rw [List.getElem?_toArray, flat_append, List.getElem?_append_left (List.getElem?_eq_some_iff.1 hv).1]
    exact hv⟩⟩
theorem lst_whole {g : Nat} {t : TypeId} (h : Blk w g t (flat k xs).toArray) (hn : xs.length = n) (hw : ∀ x ∈ xs, k.wf x) : Lst k w w.heap.size (some ⟨g, 0, none⟩) n xs := by
  subst hn
  exact lst_of_blk (ys := []) (by rw [List.append_nil]; exact h) hw
def OwnL (k : St α) (t : TypeId) (w : World) (base : Nat) (v : Value) (xs : List α) : Prop := w.ownsRow base t k.s v xs.length (flat k xs)
variable {t : TypeId} {base : Nat} {v : Value}
theorem OwnL.nil (k : St α) (t : TypeId) (w : World) (base : Nat) : OwnL k t w base (.slice none 0 0) [] := ⟨by simp [flat], .inl ⟨rfl, rfl⟩⟩
theorem OwnL.form (h : OwnL k t w base v xs) : ∃ A c, v = .slice A xs.length c ∧ xs.length ≤ c ∧ c ≤ maxLen := Held.row_form h
theorem OwnL.form2 (h : OwnL k t w base v xs) : ∃ A n c, v = .slice A n c ∧ Hid (xs.length = n) ∧ n ≤ c ∧ c ≤ maxLen := by
  obtain ⟨A, c, e, h1, h2⟩ := h.form
  exact ⟨A, _, c, e, Lib.hid rfl, h1, h2⟩
theorem OwnL.ne_blk (h : OwnL k t w base v xs) {g : Nat} {t' : TypeId} {cs : Array Value} (hb : Blk w g t' cs) (ht : t ≠ t') : v.ownBlock ≠ some g := fun e => by
  rcases h.2 with ⟨rfl, _⟩ | ⟨g', cap, cur, rfl, _, hg, _⟩
  · cases e
  · have e : some g' = some g := e
    injection e with e
    subst e
    have hb : w.heap[g']? = some (.cells cs t' (0, 0)) := hb
    rw [hg] at hb
    injection hb with hb
    injection hb with _ hb
    exact ht hb
theorem OwnL.kept (h : OwnL k t w base v xs) {row : Option Nat} (hg : w.grownBy w' row) (hne : v.ownBlock = none ∨ v.ownBlock ≠ row) : OwnL k t w' base v xs := World.ownsRow.kept h hg hne
theorem OwnL.below (h : OwnL k t w base v xs) (hb : Below w.heap.size w w') : OwnL k t w' base v xs := h.kept (grown_of_below hb none) (by cases v.ownBlock <;> simp)
theorem OwnL.lt (h : OwnL k t w base v xs) : ∀ b, v.ownBlock = some b → base ≤ b ∧ b < w.heap.size := World.ownsRow.lt h
theorem OwnL.less (h : OwnL k t w base v xs) {b : Nat} (hb : b ≤ base) : OwnL k t w b v xs := by
  refine ⟨h.1, ?_⟩
  rcases h.2 with h0 | ⟨g, cap, cur, e, hg, rest⟩
  · exact .inl h0
  · exact .inr ⟨g, cap, cur, e, Nat.le_trans hb hg, rest⟩
end
section
variable {α : Type} {k : St α} {P : Program} {ops : Array Oper} {rest : List Oper} {o : Oper} {a : Act} {w : World} {Q : Exit → Act → World → Prop}
theorem heap_setCells {g : Nat} {t : TypeId} : ∀ (vs : List Value) (q : Nat) (w : World) (cur : Array Value), w.heap[g]? = some (.cells cur t (0, 0)) → q + vs.length ≤ cur.size →
    ∃ cur', (w.setCells g q vs).heap[g]? = some (.cells cur' t (0, 0)) ∧ cur'.size = cur.size ∧ cur'.toList = cur.toList.take q ++ vs ++ cur.toList.drop (q + vs.length)
  | [], q, w, cur, h, _ => ⟨cur, h, rfl, by simp⟩
  | v :: r, q, w, cur, h, hl => by
    have hl' : q < cur.toList.length := by simp at hl ⊢; omega
    have hb : Blk (w.setCell ⟨g, q, none⟩ v) g t (cur.setIfInBounds q v) := Blk.set (w := w) (cs := cur) h q v
    obtain ⟨cur', h1, h2, h3⟩ := heap_setCells r (q + 1) (w.setCell ⟨g, q, none⟩ v) (cur.setIfInBounds q v) hb (by simp at hl ⊢; omega)
    refine ⟨cur', h1, by rw [h2]; simp, ?_⟩
    rw [h3]
    have e : (cur.setIfInBounds q v).toList = cur.toList.take q ++ v :: cur.toList.drop (q + 1) := by
      rw [Array.toList_setIfInBounds, List.set_eq_take_append_cons_drop, if_pos hl']
    have hq : (cur.toList.take q).length = q := by rw [List.length_take]; omega
    rw [e, List.take_append, hq, List.take_of_length_le (by omega), show q + 1 - q = 1 by omega, List.take_succ_cons, List.take_zero, List.drop_append, hq, List.drop_of_length_le (by omega), show q + 1 + r.length - q = r.length + 1 by omega, List.drop_succ_cons, List.drop_drop, List.nil_append, List.append_assoc, List.append_assoc]
    simp only [List.cons_append, List.nil_append, List.length_cons, List.append_assoc]
    rw [show q + 1 + r.length = q + (r.length + 1) by omega]
theorem grown_setCells (g : Nat) : ∀ (vs : List Value) (q : Nat) (w : World), w.grownBy (w.setCells g q vs) (some g)
  | [], _, w => World.grownBy.refl w _
  | v :: r, q, w => Lib.grownBy_trans (grown_setCell w g q v) (grown_setCells g r (q + 1) _)
end
end Go.Proofs.Ytbippmbcgkicaaa.Sl
namespace Go.Proofs.Ytbippmbcgkicaaa.Sl
open Go.RowKit Go.Shelf Mem Held
section
variable {α : Type} {k : St α}
end
section
variable {α : Type} {k : St α} {P : Program} {ops : Array Oper} {rest : List Oper} {o : Oper} {a : Act} {w : World} {Q : Exit → Act → World → Prop}
end
end Go.Proofs.Ytbippmbcgkicaaa.Sl
namespace Go.Proofs.Ytbippmbcgkicaaa.Held
open Go.RowKit
section
variable {P : Program} {ops : Array Oper} {Q Q' : Exit → Act → World → Prop} {n : Nat} {r : Option Nat} {rest : List Oper} {o : Oper} {a : Act} {w : World}
end
end Go.Proofs.Ytbippmbcgkicaaa.Held
namespace Go.Proofs.Ytbippmbcgkicaaa.Sl
open Go.RowKit Go.Shelf Mem Held
section
variable {P : Program} {S : World → Prop} {ρ : Operand → Value} {o : Oper}
theorem y_nil {x : Operand} {A : Addr} (ho : o.op = .nilCheck x) (hx : ρ x = .pointer (some A)) : ∀ w, S w → (execOp ρ o).run P w = .ok (.value (.pointer (some A))) w := fun w _ => by
  simp [execOp, ho, hx]
end
section
variable {α : Type} {k : St α} {P : Program} {ops : Array Oper} {rest : List Oper} {o : Oper} {a : Act} {w : World} {Q : Exit → Act → World → Prop}
theorem op_store_cell (i : Nat) (d : Option Tmp) {K : Act → World → Prop} (ty : TypeId) {x y : Operand} (g j : Nat) (t : TypeId) (cs : Array Value) (v : Value) (hi : ops[i]? = some o) (hd : o.dst = d) (hw : Region.wanted o (yielded ops a.tmps) = true)
    (ho : o.op = .store ty x y) (hx : a.eval x = .pointer (some ⟨g, j, none⟩)) (hy : a.eval y = v) (hb : Blk w g t cs) (hj : j < cs.size) (hsz : (P.info? ty).map (·.size) = some 1) (h1 : v.cells = #[v]) (ho1 : v.oneCell' = true)
    (h : ∀ w', Blk w' g t (cs.setIfInBounds j v) → w.grownBy w' (some g) → K (a.put d undef) w') : wpOp P ops Q i K a w := by
  subst hd
  refine op_wp i hi hw ?_
  unfold Oper.wp execOp
  simp only [ho, hx, hy, Instr.storeAt, Instr.sureAddr, Sem.run_bind, Sem.run_pure, Result.andThen_ok, run_store_elem ty g j _ v (hb.cell (Array.getElem?_eq_getElem hj)) (hb.frozen j) hsz h1 ho1]
  exact h _ (hb.set j v) (grown_setCell _ _ _ _)
end
end Go.Proofs.Ytbippmbcgkicaaa.Sl
namespace Go.Proofs.Ytbippmbcgkicaaa.Sl
open Go.RowKit Go.Shelf Mem Held
section
variable {α : Type} {k : St α} {P : Program} {ops : Array Oper} {o : Oper} {a : Act} {w : World} {Q : Exit → Act → World → Prop}
theorem op_build_lst (i : Nat) (d : Option Tmp) {K : Act → World → Prop} (ts e : TypeId) (n : Nat) {parts : Array (Nat × Operand)} (z : Value) (bytes : Nat) (xs : List α) (hi : ops[i]? = some o) (hd : o.dst = d) (hw : Region.wanted o (yielded ops a.tmps) = true)
    (ho : o.op = .buildSlice ts n parts) (hu : P.underlying ts = some (.slice e)) (hinfo : (P.info? e).map (fun i => (i.zero, i.size, i.bytes)) = some (some z, k.s, bytes)) (hz : z.cells.size = k.s)
    (hn : xs.length = n) (hp : (parts.map fun (i, x) => (i, a.eval x)).toList = ((xs.map fun x => Value.agg (k.cells x).toArray).zipIdx 0).map fun x => (x.2, x.1)) (h0 : 0 < n) (h24 : n * k.s ≤ 16777216)
    (h : ∀ g w', Blk w' g e (flat k xs).toArray → Below w.heap.size w w' → Hid (w.heap.size ≤ g) → K (a.put d (.slice (some ⟨g, 0, none⟩) n n)) w') : wpOp P ops Q i K a w := by
  subst hd
  refine op_wp i hi hw ?_
  obtain ⟨ie, hie, hz0, hs, hb⟩ := info_parts hinfo
  refine Go.wp_buildSlice ts e n parts ho (flat k xs).toArray ie z hu hie hz0 (by rw [hs]; omega) (by rw [hs]; have := Nat.mul_pos h0 k.pos; omega) ?_ (h _ _ (heap_alloc_new w _) ((Below.refl _ w).alloc (Nat.le_refl _) _) (Lib.hid (Nat.le_refl _)))
  rw [hp, hs]
  refine (Great.fill_whole k.pos (xs.map fun x => Value.agg (k.cells x).toArray) _ (fun v hv => ?_) (by simp [hn])).trans ?_
  · obtain ⟨x, _, rfl⟩ := List.mem_map.1 hv
    simp [Value.cells, k.len]
  · rw [List.flatMap_map]
    simp [flat, Value.cells]
end
end Go.Proofs.Ytbippmbcgkicaaa.Sl
namespace Go.Proofs.Ytbippmbcgkicaaa.Sl
open Go.RowKit Go.Shelf Mem Held
section
variable {α : Type} {k : St α} {P : Program} {ops : Array Oper} {o : Oper} {a : Act} {w : World} {Q : Exit → Act → World → Prop}
end
end Go.Proofs.Ytbippmbcgkicaaa.Sl
namespace Go.Proofs.Ytbippmbcgkicaaa.Mg
open Go.RowKit Go.Shelf Go.Proofs.Ytbippmbcgkicaaa Mem Held Ct Rc Rs Sl
attribute [local irreducible] wpList wpListIn Calls
end Go.Proofs.Ytbippmbcgkicaaa.Mg
namespace Go.Proofs.Ytbippmbcgkicaaa.Sl
open Go.RowKit Go.Shelf Mem Held
section
variable {α : Type} {k : St α}
end
section
variable {α : Type} {k : St α} {P : Program} {ops : Array Oper} {rest : List Oper} {o : Oper} {a : Act} {w : World} {Q : Exit → Act → World → Prop}
end
end Go.Proofs.Ytbippmbcgkicaaa.Sl
namespace Go.Proofs.Ytbippmbcgkicaaa.Mg
open Go.RowKit Go.Shelf Go.Proofs.Ytbippmbcgkicaaa Mem Held Ct Rc Rs Sl
attribute [local irreducible] wpList wpListIn Calls
section
variable {P : Program} {S : World → Prop} {ρ : Operand → Value} {o : Oper}
theorem run_append_zero (ts e : TypeId) (hu : P.underlying ts = some (.slice e)) (ie : TypeInfo) (hie : P.info? e = some ie) {ty : TypeId} (w : World) (As A : Option Addr) (n cap c : Nat) (hn : n ≤ cap) :
    (Builtin.append_ #[ts, ts] ty #[.slice As n cap, .slice A 0 c]).run P w = .ok (.slice As n cap) w := by
  cases A with
  | none => cases As <;> simp [Builtin.append_, run_underlying hu, sizeOf, typeInfo, hie, Builtin.lenOf, Builtin.firstCells, hn, storeCells]
  | some ad => cases As <;> simp [Builtin.append_, run_underlying hu, sizeOf, typeInfo, hie, Builtin.lenOf, Builtin.firstCells, hn, storeCells, loadCells, loadCellsFrom]
end
section
variable {α : Type} {k : St α} {P : Program} {ops : Array Oper} {rest : List Oper} {o : Oper} {a : Act} {w : World} {Q : Exit → Act → World → Prop}
end
end Go.Proofs.Ytbippmbcgkicaaa.Mg
namespace Go.Proofs.Ytbippmbcgkicaaa.Sto
structure Vp where
  t : Int
  is : Bool
  zs : List Int
structure Hp where
  vs : List (List Int)
  us : List Vp
abbrev Lp := List (List UInt8 × Hp)
def Vp.none : Vp := ⟨0, false, []⟩
def showP (t : Int) (v : Vp) (us : List Vp) : List Vp := if 0 < us.length ∧ (us.getD (us.length - 1) Vp.none).t = t then us.set (us.length - 1) ⟨t, v.is, v.zs⟩ else us ++ [⟨t, v.is, v.zs⟩]
def modP (k : List UInt8) (f : Hp → Hp) (L : Lp) : Lp := L.map fun p => if p.1 = k then (p.1, f p.2) else p
def addP (k : List UInt8) (L : Lp) : Lp := if k ∈ L.map (·.1) then L else L ++ [(k, ⟨[], []⟩)]
def putF (t : Int) (zs : List Int) (h : Hp) : Hp := ⟨h.vs ++ [zs], showP t ⟨0, true, zs⟩ h.us⟩
def putP (t : Int) (k : List UInt8) (zs : List Int) (L : Lp) : Lp := modP k (putF t zs) (addP k L)
def lastP (us : List Vp) : Vp := us.getD (us.length - 1) Vp.none
def entP : Lp → List UInt8 → Option Hp
  | [], _ => none
  | p :: L, k => if p.1 = k then some p.2 else entP L k
def shwP (L : Lp) (k : List UInt8) : Bool × List Int := match entP L k with
  | none => (false, [])
  | some h => ((lastP h.us).is, (lastP h.us).zs)
def keysP (L : Lp) : List (List UInt8) := L.map (·.1)
theorem mod_keys (k : List UInt8) (f : Hp → Hp) (L : Lp) : keysP (modP k f L) = keysP L := by
  unfold keysP modP
  rw [List.map_map]
  refine List.map_congr_left fun p _ => ?_
  simp only [Function.comp]
  split <;> rfl
theorem add_nodup {k : List UInt8} {L : Lp} (h : (keysP L).Nodup) : (keysP (addP k L)).Nodup := by
  unfold keysP addP at *
  split
  · exact h
  · rename_i hk
    rw [List.map_append]
    exact List.nodup_append.2 ⟨h, by simp, fun a ha b hb e => hk (by simp at hb; rw [← hb, ← e]; exact ha)⟩
theorem ent_none {L : Lp} {k : List UInt8} : entP L k = none ↔ k ∉ keysP L := by
  induction L with
  | nil => simp [entP, keysP]
  | cons p L ih =>
    unfold keysP at *
    rw [entP, List.map_cons, List.mem_cons]
    split
    · rename_i h
      simp [h]
    · rename_i h
      rw [ih]
      exact ⟨fun h1 h2 => h2.elim (fun e => h e.symm) h1, fun h1 h2 => h1 (.inr h2)⟩
theorem ent_mod (k : List UInt8) (f : Hp → Hp) (x : List UInt8) : ∀ L : Lp, entP (modP k f L) x = if x = k then (entP L x).map f else entP L x
  | [] => by simp [modP, entP]
  | p :: L => by
    have ih := ent_mod k f x L
    unfold modP at ih ⊢
    rw [List.map_cons, entP, ih, entP]
    by_cases hp : p.1 = k
    · rw [if_pos hp]
      by_cases hx : p.1 = x
      · have : x = k := hx.symm.trans hp
        simp [hx, this]
      · have : x ≠ k := fun e => hx (hp.trans e.symm)
        simp [hx, this]
    · rw [if_neg hp]
      by_cases hx : p.1 = x
      · have : x ≠ k := fun e => hp (hx.trans e)
        simp [hx, this]
      · rw [if_neg hx, if_neg hx]
theorem ent_app (x : List UInt8) (M : Lp) : ∀ L : Lp, entP (L ++ M) x = (entP L x).or (entP M x)
  | [] => by simp [entP]
  | p :: L => by
    rw [List.cons_append, entP, entP, ent_app x M L]
    split <;> simp
theorem ent_add (k x : List UInt8) (L : Lp) : entP (addP k L) x = if x = k then some ((entP L x).getD ⟨[], []⟩) else entP L x := by
  unfold addP
  split
  · rename_i h
    split
    · rename_i e
      subst e
      cases he : entP L x with
      | none => exact absurd h (ent_none.1 he)
      | some v => rfl
    · rfl
  · rename_i h
    rw [ent_app]
    simp only [entP]
    by_cases e : x = k
    · subst e
      have hn : entP L x = none := ent_none.2 h
      simp [hn]
    · rw [if_neg e, if_neg (fun e' => e e'.symm)]
      cases entP L x <;> rfl
theorem ent_put (t : Int) (k : List UInt8) (zs : List Int) (L : Lp) (x : List UInt8) : entP (putP t k zs L) x = if x = k then some (putF t zs ((entP L x).getD ⟨[], []⟩)) else entP L x := by
  unfold putP
  rw [ent_mod, ent_add]
  split <;> rfl
theorem ent_mem {L : Lp} {k : List UInt8} {h : Hp} : entP L k = some h → (k, h) ∈ L := by
  induction L with
  | nil => intro e; cases e
  | cons p L ih =>
    rw [entP]
    split
    · rename_i e
      intro e2
      injection e2 with e2
      rw [← e, ← e2]
      exact List.mem_cons_self
    · intro e
      exact List.mem_cons_of_mem _ (ih e)
theorem ent_at {L : Lp} (hd : (keysP L).Nodup) {p : List UInt8 × Hp} : p ∈ L → entP L p.1 = some p.2 := by
  induction L with
  | nil => intro h; cases h
  | cons q L ih =>
    unfold keysP at *
    rw [List.map_cons, List.nodup_cons] at hd
    intro h
    rcases List.mem_cons.1 h with rfl | h
    · simp [entP]
    · rw [entP, if_neg (fun e => hd.1 (by rw [e]; exact List.mem_map.2 ⟨p, h, rfl⟩))]
      exact ih hd.2 h
structure GoodU (us : List Vp) (t : Int) : Prop where
  ne : us ≠ []
  up : (us.map (·.t)).Pairwise (· < ·)
  le : ∀ v ∈ us, v.t ≤ t
  off : ∀ v ∈ us, v.is = false → v.zs = []
theorem show_last (t : Int) (v : Vp) (us : List Vp) : lastP (showP t v us) = ⟨t, v.is, v.zs⟩ := by
  unfold lastP showP
  split
  · rename_i h
    rw [List.length_set, List.getD_eq_getElem?_getD, List.getElem?_set, if_pos rfl, if_pos (by omega)]
    rfl
  · simp [List.getD_eq_getElem?_getD]
theorem show_good {t : Int} {v : Vp} (hv : v.is = false → v.zs = []) {us : List Vp} {t0 : Int} (h : us = [] ∨ GoodU us t0) (ht : t0 ≤ t) : GoodU (showP t v us) t := by
  rcases h with rfl | h
  · exact ⟨by simp [showP], by simp [showP], by simp [showP], by simpa [showP] using hv⟩
  · have h0 : 0 < us.length := List.length_pos_iff.2 h.ne
    obtain ⟨us', l, rfl⟩ : ∃ us' l, us = us' ++ [l] := ⟨us.dropLast, us.getLast h.ne, (List.dropLast_concat_getLast h.ne).symm⟩
    have hd : (us' ++ [l]).getD ((us' ++ [l]).length - 1) Vp.none = l := by simp [List.getD_eq_getElem?_getD]
    have hup := h.up
    rw [List.map_append, List.pairwise_append] at hup
    unfold showP
    rw [hd]
    by_cases hl : l.t = t
    · rw [if_pos ⟨h0, hl⟩]
      have e : (us' ++ [l]).set ((us' ++ [l]).length - 1) ⟨t, v.is, v.zs⟩ = us' ++ [⟨t, v.is, v.zs⟩] := by simp
      rw [e]
      refine ⟨by simp, ?_, fun x hx => ?_, fun x hx => ?_⟩
      · rw [List.map_append, List.pairwise_append]
        exact ⟨hup.1, by simp, fun a ha b hb => by
          simp at hb
          rw [hb, ← hl]
          exact hup.2.2 a ha _ (by simp)⟩
      · rcases List.mem_append.1 hx with hx | hx
        · have := h.le x (List.mem_append_left _ hx); omega
        · rw [List.mem_singleton.1 hx]; exact Int.le_refl _
      · rcases List.mem_append.1 hx with hx | hx
        · exact h.off x (List.mem_append_left _ hx)
        · rw [List.mem_singleton.1 hx]; exact hv
    · rw [if_neg (fun h => hl h.2)]
      have hlt : l.t < t := by have := h.le l (by simp); omega
      refine ⟨by simp, ?_, fun x hx => ?_, fun x hx => ?_⟩
      · rw [List.map_append, List.pairwise_append]
        refine ⟨h.up, by simp, fun a ha b hb => ?_⟩
        simp at hb
        subst hb
        rw [List.map_append, List.mem_append] at ha
        rcases ha with ha | ha
        · have := hup.2.2 a ha l.t (by simp); omega
        · simp at ha; omega
      · rcases List.mem_append.1 hx with hx | hx
        · have := h.le x hx; omega
        · rw [List.mem_singleton.1 hx]; exact Int.le_refl _
      · rcases List.mem_append.1 hx with hx | hx
        · exact h.off x hx
        · rw [List.mem_singleton.1 hx]; exact hv
def GoodL (L : Lp) (t : Int) : Prop := (keysP L).Nodup ∧ ∀ p ∈ L, GoodU p.2.us t
theorem GoodL.nil (t : Int) : GoodL [] t := ⟨by simp [keysP], by simp⟩
theorem GoodL.at_ {L : Lp} {t : Int} (h : GoodL L t) {k : List UInt8} {x : Hp} (hx : entP L k = some x) : GoodU x.us t := h.2 _ (ent_mem hx)
theorem good_put {L : Lp} {t : Int} {k : List UInt8} {zs : List Int} (h : GoodL L t) : GoodL (putP (t + 1) k zs L) (t + 1) := by
  have up : ∀ {us : List Vp}, GoodU us t → GoodU us (t + 1) := fun {us} hu => ⟨hu.ne, hu.up, fun v hv => by have := hu.le v hv; omega, hu.off⟩
  refine ⟨by rw [putP, mod_keys]; exact add_nodup h.1, fun p hp => ?_⟩
  unfold putP modP at hp
  obtain ⟨q, hq, rfl⟩ := List.mem_map.1 hp
  have hq' : q ∈ L ∨ q = (k, ⟨[], []⟩) := by
    unfold addP at hq
    split at hq
    · exact .inl hq
    · rcases List.mem_append.1 hq with hq | hq
      · exact .inl hq
      · exact .inr (List.mem_singleton.1 hq)
  split
  · refine show_good (fun h => by cases h) ?_ (show t ≤ t + 1 by omega)
    rcases hq' with hq | rfl
    · exact .inr (h.2 q hq)
    · exact .inl rfl
  · rename_i hne
    rcases hq' with hq | rfl
    · exact up (h.2 q hq)
    · exact absurd rfl hne
theorem shw_put {t : Int} {k : List UInt8} {zs : List Int} {L : Lp} (x : List UInt8) : shwP (putP t k zs L) x = if x = k then (true, zs) else shwP L x := by
  unfold shwP
  rw [ent_put]
  by_cases h : x = k
  · rw [if_pos h, if_pos h]
    show ((lastP (showP _ _ _)).is, (lastP (showP _ _ _)).zs) = _
    rw [show_last]
  · rw [if_neg h, if_neg h]
end Go.Proofs.Ytbippmbcgkicaaa.Sto
namespace Go.Proofs.Ytbippmbcgkicaaa.Sto
open Go.RowKit Go.Shelf Go.Proofs.Ytbippmbcgkicaaa Mem Held Sl Go.Proofs.Ytbippmbcgkicaaa.Range
structure Bs where
  A : Option Addr
  n : Nat
  c : Nat
  zs : List Int
def Bs.v (x : Bs) : Value := .slice x.A x.n x.c
def Bs.nil : Bs := ⟨none, 0, 0, []⟩
structure Vw where
  t : Int
  is : Bool
  x : Bs
def Vw.cells (v : Vw) : List Value := [.int .i64 v.t, .bool v.is, .slice v.x.A v.x.n v.x.c]
def Vw.none : Vw := ⟨0, false, Bs.nil⟩
def kB : St Bs := ⟨1, fun x => [.slice x.A x.n x.c], fun _ => True, Bs.nil, fun _ => rfl, fun x u hu => by rw [List.mem_singleton.1 hu]; rfl, by omega⟩
def kV : St Vw := ⟨3, Vw.cells, fun v => (Lit.int .i64 v.t).wf = true, Vw.none, fun _ => rfl, fun v u hu => by
  simp only [Vw.cells, List.mem_cons, List.not_mem_nil, or_false] at hu
  rcases hu with rfl | rfl | rfl <;> rfl, by omega⟩
theorem info_kB : (Try.prog.info? 31).map (fun i => (i.zero, i.size, i.bytes)) = some (some (.slice none 0 0), kB.s, 24) := by kernel_rfl
theorem info_kV : (Try.prog.info? 73).map (fun i => (i.zero, i.size, i.bytes)) = some (some (.agg #[.int .i64 0, .bool false, .slice none 0 0]), kV.s, 40) := by kernel_rfl
def Rd (S : Nat → Prop) (w : World) (x : Bs) : Prop := Ints w .u8 w.heap.size x.A x.n x.zs ∧ x.n ≤ 1099511627776 ∧ ∀ b off p, x.A = some ⟨b, off, p⟩ → 0 < x.n → S b
section
variable {S S' : Nat → Prop} {w w' : World} {x : Bs}
theorem Rd.nil (S : Nat → Prop) (w : World) : Rd S w Bs.nil := ⟨Ints.nil _ _ _ _, by simp [Bs.nil], fun b off p e => by cases e⟩
theorem Rd.keep (h : Rd S w x) (hk : KeepsP S w w') : Rd S w' x := by
  refine ⟨⟨h.1.1, h.1.2.1, fun hn => ?_⟩, h.2⟩
  obtain ⟨b, off, e, hb, hc⟩ := h.1.2.2 hn
  have hs := h.2.2 b off none e hn
  have hbk : w'.heap[b]? = w.heap[b]? := by
    have e0 := Array.getElem?_eq_getElem (xs := w.heap) hb
    rw [e0]
    exact hk.block b _ hs e0
  exact ⟨b, off, e, Nat.lt_of_lt_of_le hb hk.size, fun i hi => (World.cell?_of_block hbk).trans (hc i hi)⟩
theorem Rd.less (h : Rd S w x) (hs : ∀ b, S b → b < w.heap.size → S' b) : Rd S' w x := ⟨h.1, h.2.1, fun b off p e hn => by
  have := h.2.2 b off p e hn
  obtain ⟨b', off', e', hb, _⟩ := h.1.2.2 hn
  rw [e] at e'
  injection e' with e'
  injection e' with e1 _
  subst e1
  exact hs _ this hb⟩
theorem Rd.len (h : Rd S w x) : x.zs.length = x.n := h.1.1
end
structure Ent where
  k : Nm
  h : Nat
  vs : List Bs
  us : List Vw
def ptrR (v : Value) : Option (DataW Unit × List MemPlace) :=
  match v with
  | .pointer none => some (.nil, [])
  | .pointer (some ⟨g, 0, none⟩) => some (.lit (.int .i64 (g : Int)), [])
  | _ => none
def ptrV : Option Nat → Value
  | none => .pointer none
  | some g => .pointer (some ⟨g, 0, none⟩)
def ptrD : Option Nat → DataW Unit
  | none => .nil
  | some g => .lit (.int .i64 (g : Int))
def eP : EK (Option Nat) where
  R := ptrR
  enc := ptrV
  dat := ptrD
  ok := fun _ => True
  z := none
  hR := fun b _ => by cases b <;> exact ⟨_, rfl⟩
  inv := fun v y h => by
    unfold ptrR at h
    split at h
    · cases h
      exact ⟨none, trivial, rfl, rfl⟩
    · cases h
      exact ⟨some _, trivial, rfl, rfl⟩
    · cases h
  inj := fun a b _ _ h => by
    cases a <;> cases b
    · rfl
    · cases h
    · cases h
    · simp only [ptrD, DataW.lit.injEq, Lit.int.injEq] at h
      have := h.2
      congr 1
      omega
  zok := trivial
def HistAt (ow : Nat → Nat) (w : World) (h : Nat) (vs : List Bs) (us : List Vw) : Prop :=
  ow h = h + 2 ∧ ∃ vv ww, Blk w h 71 #[vv, ww] ∧ OwnL kB 31 w 0 vv vs ∧ OwnL kV 73 w 0 ww us ∧ (∀ b, vv.ownBlock = some b → ow b = h + 2) ∧ ∀ b, ww.ownBlock = some b → ow b = h + 2
structure Bytes (ow : Nat → Nat) (w : World) (vs : List Bs) (us : List Vw) : Prop where
  vs : ∀ x ∈ vs, Rd (fun r => ow r = 1) w x
  us : ∀ v ∈ us, Rd (fun r => ow r = 1) w v.x ∧ (Lit.int .i64 v.t).wf = true
structure Sto (ow : Nat → Nat) (w : World) (s : Nat) (W : Int) (N : Nat) (es : List Ent) : Prop where
  own : ow s = s + 2
  blk : ∃ mv, Blk w s 64 #[mv, .int .i64 W] ∧ ((mv = .map none ∧ es = []) ∨ ∃ b, mv = .map (some b) ∧ ow b = s + 2 ∧ MpS eP Try.prog 9 w b N (es.map fun e => (e.k, some e.h)))
  hist : ∀ e ∈ es, HistAt ow w e.h e.vs e.us
  bytes : ∀ e ∈ es, Bytes ow w e.vs e.us
  keys : (es.map (·.k)).Nodup
  apart : (es.map (·.h)).Nodup
  few : ∀ e ∈ es, e.vs.length ≤ N ∧ e.us.length ≤ N ∧ e.k.length ≤ maxLen
  len : es.length ≤ N
  low : ∀ r, ow r ≠ 0 → r < w.heap.size
  wf : 0 ≤ W ∧ W ≤ N
structure Chg (ow ow' : Nat → Nat) (w w' : World) : Prop where
  keep : KeepsP (fun r => ow r ≤ 1) w w'
  same : ∀ r, r < w.heap.size → ow' r = ow r
section
variable {ow ow' ow'' : Nat → Nat} {w w' w'' : World} {s N h : Nat} {W : Int} {es : List Ent} {vs : List Bs} {us : List Vw} {e : Ent}
theorem Chg.refl (ow : Nat → Nat) (w : World) : Chg ow ow w w := ⟨KeepsP.refl _ _, fun _ _ => rfl⟩
theorem Chg.trans (h : Chg ow ow' w w') (k : Chg ow' ow'' w' w'') : Chg ow ow'' w w'' :=
  ⟨⟨k.keep.os.trans h.keep.os, k.keep.tape.trans h.keep.tape, k.keep.output.trans h.keep.output, Nat.le_trans h.keep.size k.keep.size, fun r o hr ho => by
    have hlt := (Array.getElem?_eq_some_iff.1 ho).1
    exact k.keep.block r o (by show ow' r ≤ 1; rw [h.same r hlt]; exact hr) (h.keep.block r o hr ho)⟩,
   fun r hr => (k.same r (Nat.lt_of_lt_of_le hr h.keep.size)).trans (h.same r hr)⟩
theorem Chg.below (hb : Below w.heap.size w w') (ow : Nat → Nat) : Chg ow ow w w' := ⟨KeepsP.of_below hb, fun _ _ => rfl⟩
theorem HistAt.keep (h1 : HistAt ow w h vs us) (hk : KeepsP (fun r => ow r = h + 2) w w') (hs : ∀ r, r < w.heap.size → ow r ≠ 0 → ow' r = ow r) : HistAt ow' w' h vs us := by
  obtain ⟨h0, vv, ww, hb, hv, hw, o1, o2⟩ := h1
  have hlt := hb.lt
  have row : ∀ {α : Type} {k : St α} {t : TypeId} {v : Value} {xs : List α}, OwnL k t w 0 v xs → (∀ b, v.ownBlock = some b → ow b = h + 2) → OwnL k t w' 0 v xs := by
    intro α k t v xs ho hq
    refine ⟨ho.1, ?_⟩
    rcases ho.2 with h2 | ⟨g, cap, cur, rfl, hbg, hg, r⟩
    · exact .inl h2
    · exact .inr ⟨g, cap, cur, rfl, hbg, hk.block g _ (hq g rfl) hg, r⟩
  exact ⟨(hs h hlt (by omega)).trans h0, vv, ww, hk.block h _ h0 hb, row hv o1, row hw o2, fun b e => (hs b (OwnL.lt hv b e).2 (by rw [o1 b e]; omega)).trans (o1 b e), fun b e => (hs b (OwnL.lt hw b e).2 (by rw [o2 b e]; omega)).trans (o2 b e)⟩
theorem Bytes.keep (h1 : Bytes ow w vs us) (hk : KeepsP (fun r => ow r = 1) w w') (hs : ∀ r, r < w.heap.size → ow r ≠ 0 → ow' r = ow r) : Bytes ow' w' vs us := by
  have f : ∀ {x : Bs}, Rd (fun r => ow r = 1) w x → Rd (fun r => ow' r = 1) w' x := fun {x} hx =>
    (Rd.less (S' := fun r => ow' r = 1 ∧ ow r = 1) hx fun b hb hlt => ⟨(hs b hlt (by omega)).trans hb, hb⟩).keep (hk.less fun r hr => hr.2) |>.less fun b hb _ => hb.1
  exact ⟨fun x hx => f (h1.vs x hx), fun v hv => ⟨f (h1.us v hv).1, (h1.us v hv).2⟩⟩
theorem HistAt.lt (h1 : HistAt ow w h vs us) : h < w.heap.size := by
  obtain ⟨_, vv, ww, hb, _⟩ := h1
  exact hb.lt
theorem Sto.lt (H : Sto ow w s W N es) : s < w.heap.size := by
  obtain ⟨mv, hb, _⟩ := H.blk
  exact hb.lt
theorem Sto.ne (H : Sto ow w s W N es) (he : e ∈ es) : e.h ≠ s := fun h0 => by
  obtain ⟨mv, hb, _⟩ := H.blk
  obtain ⟨_, vv, ww, hb', _⟩ := H.hist e he
  rw [h0] at hb'
  unfold Blk at hb hb'
  rw [hb] at hb'
  simp at hb'
theorem Sto.keep (H : Sto ow w s W N es) (hk : KeepsP (fun r => ow r ≠ 0) w w') : Sto ow w' s W N es where
  own := H.own
  blk := by
    obtain ⟨mv, hb, hm⟩ := H.blk
    refine ⟨mv, hk.block s _ (by show ow s ≠ 0; rw [H.own]; omega) hb, hm.imp id fun ⟨b, e1, e2, e3⟩ => ⟨b, e1, e2, e3.same fun o ho => hk.block b _ (by show ow b ≠ 0; rw [e2]; omega) ho⟩⟩
  hist := fun e he => (H.hist e he).keep (hk.less fun r hr => by omega) (fun _ _ _ => rfl)
  bytes := fun e he => (H.bytes e he).keep (hk.less fun r hr => by omega) (fun _ _ _ => rfl)
  keys := H.keys
  apart := H.apart
  few := H.few
  len := H.len
  low := fun r hr => Nat.lt_of_lt_of_le (H.low r hr) hk.size
  wf := H.wf
theorem Sto.below (H : Sto ow w s W N es) (hb : Below w.heap.size w w') : Sto ow w' s W N es := H.keep (KeepsP.of_below hb)
theorem Sto.more (H : Sto ow w s W N es) {N' : Nat} (hN : N ≤ N') : Sto ow w s W N' es where
  own := H.own
  blk := by
    obtain ⟨mv, hb, hm⟩ := H.blk
    exact ⟨mv, hb, hm.imp id fun ⟨b, e1, e2, e3⟩ => ⟨b, e1, e2, e3.mono hN⟩⟩
  hist := H.hist
  bytes := H.bytes
  keys := H.keys
  apart := H.apart
  few := fun e he => ⟨Nat.le_trans (H.few e he).1 hN, Nat.le_trans (H.few e he).2.1 hN, (H.few e he).2.2⟩
  len := Nat.le_trans H.len hN
  low := H.low
  wf := ⟨H.wf.1, by have := H.wf.2; omega⟩
theorem Sto.label (H : Sto ow w s W N es) (hs : ∀ r, ow r ≠ 0 → ow' r = ow r) (hl : ∀ r, ow' r ≠ 0 → r < w.heap.size) : Sto ow' w s W N es where
  own := (hs s (by rw [H.own]; omega)).trans H.own
  blk := by
    obtain ⟨mv, hb, hm⟩ := H.blk
    exact ⟨mv, hb, hm.imp id fun ⟨b, e1, e2, e3⟩ => ⟨b, e1, (hs b (by rw [e2]; omega)).trans e2, e3⟩⟩
  hist := fun e he => (H.hist e he).keep (KeepsP.refl _ _) (fun r _ h => hs r h)
  bytes := fun e he => (H.bytes e he).keep (KeepsP.refl _ _) (fun r _ h => hs r h)
  keys := H.keys
  apart := H.apart
  few := H.few
  len := H.len
  low := hl
  wf := H.wf
theorem at_ne {i : Nat} (H : Sto ow w s W N es) (hi : es[i]? = some e) {j : Nat} {e' : Ent} (hj : es[j]? = some e') (hne : j ≠ i) : e'.h ≠ e.h := fun h0 => by
  have hli := (List.getElem?_eq_some_iff.1 hi).1
  have hlj := (List.getElem?_eq_some_iff.1 hj).1
  have h1 : (es.map (·.h))[i]? = some e.h := by rw [List.getElem?_map, hi]; rfl
  have h2 : (es.map (·.h))[j]? = some e'.h := by rw [List.getElem?_map, hj]; rfl
  have h3 := List.pairwise_iff_getElem.1 H.apart
  have li : i < (es.map (·.h)).length := by simpa using hli
  have lj : j < (es.map (·.h)).length := by simpa using hlj
  rw [List.getElem?_eq_getElem li] at h1
  rw [List.getElem?_eq_getElem lj] at h2
  injection h1 with h1
  injection h2 with h2
  rcases Nat.lt_or_ge i j with h | h
  · exact h3 i j li lj h (by rw [h1, h2, h0])
  · exact h3 j i lj li (by omega) (by rw [h1, h2, h0])
theorem Sto.upd (H : Sto ow w s W N es) {i : Nat} (hi : es[i]? = some e) (hk : KeepsP (fun r => ow r ≠ e.h + 2 ∧ r < w.heap.size) w w') (hs : ∀ r, r < w.heap.size → ow' r = ow r) (hl : ∀ r, ow' r ≠ 0 → r < w'.heap.size)
    (hh : HistAt ow' w' e.h vs us) (hb : Bytes ow' w' vs us) (hn : vs.length ≤ N ∧ us.length ≤ N) : Sto ow' w' s W N (es.set i { e with vs := vs, us := us }) ∧ Chg ow ow' w w' := by
  have hm := List.mem_of_getElem? hi
  have hil := (List.getElem?_eq_some_iff.1 hi).1
  have hne := H.ne hm
  have hk' : ∀ {S : Nat → Prop}, (∀ r, S r → r < w.heap.size → ow r ≠ e.h + 2) → KeepsP S w w' := fun {S} hS =>
    ⟨hk.os, hk.tape, hk.output, hk.size, fun r o hr ho => hk.block r o ⟨hS r hr (Array.getElem?_eq_some_iff.1 ho).1, (Array.getElem?_eq_some_iff.1 ho).1⟩ ho⟩
  have hmap : ∀ {γ : Type} (f : Ent → γ), f { e with vs := vs, us := us } = f e → (es.set i { e with vs := vs, us := us }).map f = es.map f := fun {γ} f hf => by
    rw [List.map_set, hf]
    apply List.ext_getElem?
    intro j
    rw [List.getElem?_set]
    split
    · rename_i h
      subst h
      rw [if_pos (by simpa using hil), List.getElem?_map, hi]
      rfl
    · rfl
  have hmem : ∀ x ∈ es.set i { e with vs := vs, us := us }, x = { e with vs := vs, us := us } ∨ (x ∈ es ∧ x.h ≠ e.h) := fun x hx => by
    obtain ⟨j, hj⟩ := List.getElem?_of_mem hx
    rw [List.getElem?_set] at hj
    split at hj
    · rename_i h
      subst h
      injection hj with hj
      exact .inl hj.symm
    · rename_i h
      exact .inr ⟨List.mem_of_getElem? hj, at_ne H hi hj (fun e => h e.symm)⟩
  refine ⟨⟨(hs s H.lt).trans H.own, ?_, fun x hx => ?_, fun x hx => ?_, by rw [hmap (·.k) rfl]; exact H.keys, by rw [hmap (·.h) rfl]; exact H.apart, fun x hx => ?_, by rw [List.length_set]; exact H.len, hl, H.wf⟩, hk' fun r hr _ => by omega, hs⟩
  · obtain ⟨mv, hbs, hmv⟩ := H.blk
    refine ⟨mv, hk.block s _ ⟨by rw [H.own]; omega, H.lt⟩ hbs, hmv.imp (fun h => ⟨h.1, by rw [h.2]; rfl⟩) fun ⟨b, e1, e2, e3⟩ => ⟨b, e1, (hs b e3.lt).trans e2, ?_⟩⟩
    rw [hmap (fun e => (e.k, some e.h)) rfl]
    exact e3.same fun o ho => hk.block b _ ⟨by rw [e2]; omega, e3.lt⟩ ho
  · rcases hmem x hx with rfl | ⟨hx, hne⟩
    · exact hh
    · exact (H.hist x hx).keep (hk' fun r hr _ => by omega) (fun r h _ => hs r h)
  · rcases hmem x hx with rfl | ⟨hx, _⟩
    · exact hb
    · exact (H.bytes x hx).keep (hk' fun r hr _ => by omega) (fun r h _ => hs r h)
  · rcases hmem x hx with rfl | ⟨hx, _⟩
    · exact ⟨hn.1, hn.2, (H.few e hm).2.2⟩
    · exact H.few x hx
theorem Sto.add (H : Sto ow w s W N es) {k : Nm} {b g : Nat} (hk : k.length ≤ maxLen) (hne : ∀ e ∈ es, e.k ≠ k) (hkp : KeepsP (fun r => ow r ≠ s + 2 ∧ r < w.heap.size) w w')
    (hb : Blk w' s 64 #[.map (some b), .int .i64 W]) (hM : MpS eP Try.prog 9 w' b (N + 1) ((es ++ [(⟨k, g, [], []⟩ : Ent)]).map fun e => (e.k, some e.h))) (hob : ow b = s + 2 ∨ w.heap.size ≤ b) (hg : Blk w' g 71 #[.slice none 0 0, .slice none 0 0]) (hgn : w.heap.size ≤ g) :
    ∃ ow', Sto ow' w' s W (N + 1) (es ++ [⟨k, g, [], []⟩]) ∧ Chg ow ow' w w' := by
  have hsl := H.lt
  have hfree : ∀ r, w.heap.size ≤ r → ow r = 0 := fun r hr => by
    rcases Nat.eq_zero_or_pos (ow r) with h | h
    · exact h
    · have := H.low r (by omega); omega
  have hbg : b ≠ g := fun e => by
    obtain ⟨es', clock, h1⟩ := hM.obj
    have hg' : w'.heap[g]? = some (.cells #[.slice none 0 0, .slice none 0 0] 71 (0, 0)) := hg
    rw [e, hg'] at h1
    cases h1
  have hsg : s ≠ g := by omega
  obtain ⟨ow', how⟩ : ∃ ow' : Nat → Nat, ow' = fun r => if r = g then g + 2 else if r = b then s + 2 else ow r := ⟨_, rfl⟩
  have og : ow' g = g + 2 := by rw [how]; exact if_pos rfl
  have ob : ow' b = s + 2 := by rw [how]; show (if _ then _ else _) = _; rw [if_neg hbg, if_pos rfl]
  have hold : ∀ r, r < w.heap.size → ow' r = ow r := fun r hr => by
    rw [how]
    show (if _ then _ else _) = _
    rw [if_neg (by omega)]
    split
    · rename_i e
      subst e
      rcases hob with h | h
      · exact h.symm
      · omega
    · rfl
  have hk' : ∀ {S : Nat → Prop}, (∀ r, S r → ow r ≠ s + 2) → KeepsP S w w' := fun {S} hS =>
    ⟨hkp.os, hkp.tape, hkp.output, hkp.size, fun r o hr ho => hkp.block r o ⟨hS r hr, (Array.getElem?_eq_some_iff.1 ho).1⟩ ho⟩
  refine ⟨ow', ⟨(hold s hsl).trans H.own, ⟨_, hb, .inr ⟨b, rfl, ob, hM⟩⟩, fun e he => ?_, fun e he => ?_, ?_, ?_, fun e he => ?_, by have := H.len; simp; omega, fun r hr => ?_, ⟨H.wf.1, by have := H.wf.2; omega⟩⟩, hk' fun r hr => by omega, hold⟩
  · rcases List.mem_append.1 he with he | he
    · have hnes := H.ne he
      exact (H.hist e he).keep (hk' fun r hr => by omega) (fun r h _ => hold r h)
    · rw [List.mem_singleton.1 he]
      exact ⟨og, _, _, hg, OwnL.nil _ _ _ _, OwnL.nil _ _ _ _, fun b e => (by cases e), fun b e => (by cases e)⟩
  · rcases List.mem_append.1 he with he | he
    · exact (H.bytes e he).keep (hk' fun r hr => by omega) (fun r h _ => hold r h)
    · rw [List.mem_singleton.1 he]
      exact ⟨by simp, by simp⟩
  · rw [List.map_append]
    exact List.nodup_append.2 ⟨H.keys, by simp, fun a ha c hc e => by
      obtain ⟨x, hx, rfl⟩ := List.mem_map.1 ha
      simp at hc
      exact hne x hx (e.trans hc)⟩
  · rw [List.map_append]
    exact List.nodup_append.2 ⟨H.apart, by simp, fun a ha c hc e => by
      obtain ⟨x, hx, rfl⟩ := List.mem_map.1 ha
      simp at hc
      have := (H.hist x hx).lt
      omega⟩
  · rcases List.mem_append.1 he with he | he
    · have := H.few e he
      exact ⟨by omega, by omega, this.2.2⟩
    · rw [List.mem_singleton.1 he]
      exact ⟨Nat.zero_le _, Nat.zero_le _, hk⟩
  · rw [how] at hr
    by_cases h1 : r = g
    · rw [h1]; exact hg.lt
    · by_cases h2 : r = b
      · rw [h2]; exact hM.lt
      · simp [h1, h2] at hr
        exact Nat.lt_of_lt_of_le (H.low r hr) hkp.size
end
section
variable {ow ow' : Nat → Nat} {w w' : World} {s N : Nat} {W : Int} {es : List Ent}
def Vw.p (v : Vw) : Vp := ⟨v.t, v.is, v.x.zs⟩
def Ent.p (e : Ent) : List UInt8 × Hp := (e.k, ⟨e.vs.map (·.zs), e.us.map Vw.p⟩)
def absL (es : List Ent) : Lp := es.map Ent.p
theorem abs_keys (es : List Ent) : keysP (absL es) = es.map (·.k) := by
  unfold keysP absL
  rw [List.map_map]
  rfl
theorem abs_set {i : Nat} {e e' : Ent} (hd : (es.map (·.k)).Nodup) (hi : es[i]? = some e) (hk : e'.k = e.k) {f : Hp → Hp} (hf : e'.p.2 = f e.p.2) : absL (es.set i e') = modP e.k f (absL es) := by
  unfold absL modP
  rw [List.map_map]
  apply List.ext_getElem?
  intro j
  rw [List.getElem?_map, List.getElem?_set, List.getElem?_map]
  have hil := (List.getElem?_eq_some_iff.1 hi).1
  by_cases hj : i = j
  · subst hj
    rw [if_pos rfl, if_pos hil, hi]
    show some e'.p = some (if e.k = e.k then _ else _)
    rw [if_pos rfl, ← hf]
    show some (e'.k, e'.p.2) = _
    rw [hk]
    rfl
  · rw [if_neg hj]
    cases hx : es[j]? with
    | none => rfl
    | some x =>
      have hjl := (List.getElem?_eq_some_iff.1 hx).1
      have hne : x.k ≠ e.k := fun h0 => by
        have h3 := List.pairwise_iff_getElem.1 hd
        have li : i < (es.map (·.k)).length := by simpa using hil
        have lj : j < (es.map (·.k)).length := by simpa using hjl
        have h1 : (es.map (·.k))[i]? = some e.k := by rw [List.getElem?_map, hi]; rfl
        have h2 : (es.map (·.k))[j]? = some x.k := by rw [List.getElem?_map, hx]; rfl
        rw [List.getElem?_eq_getElem li] at h1
        rw [List.getElem?_eq_getElem lj] at h2
        injection h1 with h1
        injection h2 with h2
        rcases Nat.lt_or_ge i j with h | h
        · exact h3 i j li lj h (by rw [h1, h2, h0])
        · exact h3 j i lj li (by omega) (by rw [h1, h2, h0])
      show some x.p = some (if x.k = e.k then _ else _)
      rw [if_neg hne]
theorem abs_app (es fs : List Ent) : absL (es ++ fs) = absL es ++ absL fs := List.map_append
theorem abs_mem {e : Ent} (he : e ∈ es) : e.p ∈ absL es := List.mem_map.2 ⟨e, he, rfl⟩
theorem Sto.ent (H : Sto ow w s W N es) {e : Ent} (he : e ∈ es) : entP (absL es) e.k = some e.p.2 := ent_at (L := absL es) (by rw [abs_keys]; exact H.keys) (abs_mem he)
theorem ent_no {k : Nm} (h : ∀ e ∈ es, e.k ≠ k) : entP (absL es) k = none := ent_none.2 (by
  rw [abs_keys, List.mem_map]
  rintro ⟨e, he, h0⟩
  exact h e he h0)
theorem Sto.turn {mv : Value} {W' : Int} (H : Sto ow w s W N es) (hb0 : Blk w s 64 #[mv, .int .i64 W]) (hg : w.grownBy w' (some s)) (hb : Blk w' s 64 #[mv, .int .i64 W']) (hW : 0 ≤ W' ∧ W' ≤ N) : Sto ow w' s W' N es ∧ Chg ow ow w w' := by
  have hk : ∀ {S : Nat → Prop}, (∀ r, S r → r ≠ s) → KeepsP S w w' := fun {S} hS => KeepsP.of_grown hg fun r e hr => by cases e; exact hS _ hr rfl
  refine ⟨⟨H.own, ?_, fun e he => ?_, fun e he => ?_, H.keys, H.apart, H.few, H.len, fun r hr => Nat.lt_of_lt_of_le (H.low r hr) hg.size, hW⟩, hk fun r hr e => by subst e; have := H.own; omega, fun _ _ => rfl⟩
  · obtain ⟨mv', hb1, hm⟩ := H.blk
    have e : mv' = mv := by
      have h1 : w.heap[s]? = some (.cells #[mv', .int .i64 W] 64 (0, 0)) := hb1
      have h2 : w.heap[s]? = some (.cells #[mv, .int .i64 W] 64 (0, 0)) := hb0
      rw [h1] at h2
      simpa using h2
    subst e
    refine ⟨mv', hb, hm.imp id fun ⟨b, e1, e2, e3⟩ => ⟨b, e1, e2, e3.kept hg fun e => ?_⟩⟩
    injection e with e
    subst e
    obtain ⟨es', clock, h1⟩ := e3.obj
    have h2 : w.heap[b]? = some (.cells #[mv', .int .i64 W] 64 (0, 0)) := hb1
    rw [h1] at h2
    cases h2
  · have := H.ne he
    exact (H.hist e he).keep (hk fun r hr e1 => by subst e1; have := H.own; omega) (fun _ _ _ => rfl)
  · exact (H.bytes e he).keep (hk fun r hr e1 => by subst e1; have := H.own; omega) (fun _ _ _ => rfl)
theorem Sto.take (H : Sto ow w s W N es) (hb : Below w.heap.size w w') {y : Bs} (hy : Rd (fun b => w.heap.size ≤ b) w' y) : ∃ ow', Sto ow' w' s W N es ∧ Chg ow ow' w w' ∧ Rd (fun r => ow' r = 1) w' y := by
  obtain ⟨yb, hyb⟩ : ∃ yb : Option Nat, yb = if y.n = 0 then none else y.A.map (·.block) := ⟨_, rfl⟩
  have h1 : ∀ r, yb = some r → w.heap.size ≤ r ∧ r < w'.heap.size := fun r e => by
    rw [e] at hyb
    split at hyb
    · cases hyb
    · rename_i hn
      obtain ⟨b, off, e1, hlt, _⟩ := hy.1.2.2 (by omega)
      rw [e1] at hyb
      simp at hyb
      exact ⟨by rw [hyb]; exact hy.2.2 b off none e1 (by omega), by rw [hyb]; exact hlt⟩
  have hold : ∀ r, ow r ≠ 0 → (if yb = some r then 1 else ow r) = ow r := fun r hr => by
    rw [if_neg]
    intro e
    have := (h1 r e).1
    have := H.low r hr
    omega
  refine ⟨fun r => if yb = some r then 1 else ow r, (H.below hb).label hold (fun r hr => ?_), ⟨KeepsP.of_below hb, fun r hr => ?_⟩, hy.1, hy.2.1, fun b off p e hn => ?_⟩
  · by_cases e : yb = some r
    · exact (h1 r e).2
    · simp [e] at hr
      exact Nat.lt_of_lt_of_le (H.low r hr) hb.size
  · show (if _ then _ else _) = _
    rw [if_neg]
    intro e
    have := (h1 r e).1
    omega
  · show (if _ then _ else _) = _
    rw [if_pos]
    rw [hyb, if_neg (by omega), e]
    rfl
theorem Chg.rd (h : Chg ow ow' w w') (hl : ∀ r, ow r ≠ 0 → r < w.heap.size) {y : Bs} (hy : Rd (fun r => ow r = 1) w y) : Rd (fun r => ow' r = 1) w' y :=
  (hy.keep (h.keep.less fun r hr => by omega)).less (S' := fun r => ow' r = 1) fun b hb _ => by rw [h.same b (hl b (by omega))]; exact hb
theorem Sto.push {w1 w2 w3 : World} (H : Sto ow w s W N es) {i : Nat} {e : Ent} (hi : es[i]? = some e) {y : Bs} (hy : Rd (fun r => ow r = 1) w y) {vv ww v' : Value} (hb : Blk w e.h 71 #[vv, ww]) (hv : OwnL kB 31 w 0 vv e.vs) (hw : OwnL kV 73 w 0 ww e.us)
    (ho1 : ∀ b, vv.ownBlock = some b → ow b = e.h + 2) (ho2 : ∀ b, ww.ownBlock = some b → ow b = e.h + 2) (g1 : w.grownBy w1 none) (o2 : OwnL kB 31 w2 0 v' (e.vs ++ [y])) (g2 : w1.grownBy w2 vv.ownBlock) (n2 : v'.ownBlock = vv.ownBlock ∨ v'.ownBlock = some w1.heap.size)
    (q3 : Blk w3 e.h 71 #[v', ww]) (g3 : w2.grownBy w3 (some e.h)) : ∃ ow', Sto ow' w3 s W (N + 1) (es.set i { e with vs := e.vs ++ [y] }) ∧ Chg ow ow' w w3 := by
  have hm := List.mem_of_getElem? hi
  have hf := H.few e hm
  have hoh : ow e.h = e.h + 2 := (H.hist e hm).1
  have hsz := Nat.le_trans g1.size (Nat.le_trans g2.size g3.size)
  have KP : KeepsP (fun r => ow r ≠ e.h + 2 ∧ r < w.heap.size) w w3 := (KeepsP.of_grown g1 (fun r e => by cases e)).trans ((KeepsP.of_grown g2 (fun r e' hr => hr.1 (ho1 r e'))).trans (KeepsP.of_grown g3 (fun r e' hr => by cases e'; exact hr.1 hoh)))
  have hk1 : KeepsP (fun r => ow r = 1) w w3 := ⟨KP.os, KP.tape, KP.output, KP.size, fun r o hr ho => KP.block r o ⟨by have h0 : ow r = 1 := hr; omega, (Array.getElem?_eq_some_iff.1 ho).1⟩ ho⟩
  have hh2 : Blk w2 e.h 71 #[vv, ww] := (Blk.grown hb g1 (by simp)).grown g2 (fun e' => OwnL.ne_blk hv hb (by decide) e'.symm)
  have o3 : OwnL kB 31 w3 0 v' (e.vs ++ [y]) := OwnL.kept o2 g3 (.inr fun e' => OwnL.ne_blk o2 hh2 (by decide) e')
  have hw1 : OwnL kV 73 w1 0 ww e.us := OwnL.kept hw g1 (by cases ww.ownBlock <;> simp)
  have hv1 : OwnL kB 31 w1 0 vv e.vs := OwnL.kept hv g1 (by cases vv.ownBlock <;> simp)
  have hw2 : OwnL kV 73 w2 0 ww e.us := OwnL.kept hw1 g2 (by
    cases e0 : ww.ownBlock with
    | none => exact .inl rfl
    | some g =>
      refine .inr fun e' => ?_
      rcases hw1.2 with ⟨rfl, _⟩ | ⟨g', cap, cur, rfl, _, hg, _⟩
      · cases e0
      · rcases hv1.2 with ⟨rfl, _⟩ | ⟨g2', cap2, cur2, rfl, _, hg2, _⟩
        · cases e'
        · have e1 : some g' = some g := e0
          have e2 : some g = some g2' := e'
          injection e1 with e1
          injection e2 with e2
          subst e1
          subst e2
          rw [hg] at hg2
          cases hg2)
  have hw3 : OwnL kV 73 w3 0 ww e.us := OwnL.kept hw2 g3 (.inr fun e' => OwnL.ne_blk hw2 hh2 (by decide) e')
  have key : ∀ r, v'.ownBlock = some r → ow r = e.h + 2 ∨ (w.heap.size ≤ r ∧ r < w3.heap.size) := fun r e' => by
    rcases n2 with n2 | n2
    · exact .inl (ho1 r (n2 ▸ e'))
    · rw [n2] at e'
      injection e' with e'
      subst e'
      exact .inr ⟨g1.size, (OwnL.lt o3 _ n2).2⟩
  obtain ⟨ow', how⟩ : ∃ ow' : Nat → Nat, ow' = fun r => if v'.ownBlock = some r then e.h + 2 else ow r := ⟨_, rfl⟩
  have hold : ∀ r, r < w.heap.size → ow' r = ow r := fun r hr => by
    rw [how]
    show (if _ then _ else _) = _
    split
    · rename_i e'
      rcases key r e' with h0 | h0
      · exact h0.symm
      · omega
    · rfl
  have hin : ∀ r, ow r = e.h + 2 → ow' r = e.h + 2 := fun r h => by
    rw [how]
    show (if _ then _ else _) = _
    split
    · rfl
    · exact h
  refine ⟨ow', (H.more (Nat.le_succ N)).upd hi KP hold (fun r hr => ?_) ⟨hin _ hoh, v', ww, q3, o3, hw3, fun b e' => by rw [how]; exact if_pos e', fun b e' => hin _ (ho2 b e')⟩ ?_ ⟨by simp; omega, by omega⟩⟩
  · rw [how] at hr
    by_cases e' : v'.ownBlock = some r
    · rcases key r e' with h0 | h0
      · exact Nat.lt_of_lt_of_le (H.low r (by omega)) hsz
      · exact h0.2
    · simp [e'] at hr
      exact Nat.lt_of_lt_of_le (H.low r hr) hsz
  · have hbt := (H.bytes e hm).keep hk1 (fun r h _ => hold r h)
    have hy3 : Rd (fun r => ow' r = 1) w3 y := (hy.keep hk1).less (S' := fun r => ow' r = 1) fun b hb' _ => by rw [hold b (H.low b (by omega))]; exact hb'
    refine ⟨fun x hx => ?_, hbt.us⟩
    rcases List.mem_append.1 hx with hx | hx
    · exact hbt.vs x hx
    · rw [List.mem_singleton.1 hx]; exact hy3
end
end Go.Proofs.Ytbippmbcgkicaaa.Sto
namespace Go.Proofs.Ytbippmbcgkicaaa.Sto
open Go.RowKit Go.Shelf Go.Proofs.Ytbippmbcgkicaaa Mem Held
open Go.Maps (Keyed string_keyed)
section
variable {β : Type} {E : EK β} {P : Program} {S : World → Prop} {ρ : Operand → Value} {o : Oper} {K e T : TypeId} {b n : Nat} {M : List (Nm × β)}
theorem y_lookS {m x : Operand} {k : Nm} (ho : o.op = .lookup T m x false) (hm : ρ m = .map (some b)) (hx : ρ x = encStr k) (hk : k.length ≤ maxLen) (hK : P.underlying K = some .string) (hT : P.underlying T = some (.map K e)) (hz : ∀ w, (zeroValue e).run P w = .ok (E.enc E.z) w) (h : ∀ w, S w → MpS E P K w b n M) :
    ∀ w, S w → (execOp ρ o).run P w = .ok (.value (E.enc (lookS E.z M k))) w := fun w hw => by
  have hrun := (h w hw).look hK hT hz hk
  simp [execOp, ho, hm, hx, hrun, Result.andThen]
theorem y_look_nil {m x : Operand} {k : Nm} {z : Value} (ho : o.op = .lookup T m x false) (hm : ρ m = .map none) (hx : ρ x = encStr k) (hk : k.length ≤ maxLen) (hK : P.underlying K = some .string) (hT : P.underlying T = some (.map K e)) (hz : ∀ w, (zeroValue e).run P w = .ok z w) :
    ∀ w, S w → (execOp ρ o).run P w = .ok (.value z) w := fun w hw => by
  have hrun := Maps.look_nil (w := w) false (string_keyed hK) hT (hz w) (key_str hK hk)
  simp [execOp, ho, hm, hx, hrun, Result.andThen]
theorem y_mapnil {t ty : TypeId} {x y : Operand} {A : Option Nat} {k e : TypeId} (ho : o.op = .binOp .eql t x y ty) (hx : ρ x = .map A) (hy : ρ y = .map none) (hu : P.underlying t = some (.map k e)) :
    ∀ w, S w → (execOp ρ o).run P w = .ok (.value (.bool A.isNone)) w := Held.y_bin ho hx hy (fun w => by cases A <;> simp [eqGuard]) (fun w => run_eql_map_nil w t k e A hu)
variable {ops : Array Oper} {rest : List Oper} {a : Act} {w : World} {Q : Exit → Act → World → Prop}
theorem wpList_mapUpdate_S (hw : Region.wanted o (yielded ops a.tmps) = true) (m x y : Operand) (T K : TypeId) (k : Nm) (v : β) (ho : o.op = .mapUpdate T m x y) (b n : Nat) (M : List (Nm × β)) (hm : a.eval m = .map (some b)) (hx : a.eval x = encStr k) (hy : a.eval y = E.enc v) (hk : k.length ≤ maxLen) (hv : E.ok v) (hK : P.underlying K = some .string) (hT : P.underlying T = some (.map K e)) (hM : MpS E P K w b n M) (hn : n ≤ 1048576)
    (h : ∀ w', MpS E P K w' b (n + 1) (putS k v M) → w.grownBy w' (some b) → wpList P ops Q rest (a.put o.dst undef) w') : wpList P ops Q (o :: rest) a w := by
  obtain ⟨w', hrun, h1, h2⟩ := hM.store hK hT hn hk hv
  refine wpList_step fun _ hK' => ?_
  rw [if_pos hw]
  unfold Oper.wp
  simp [execOp, ho, hm, hx, hy, hrun, Result.andThen]
  exact hK' _ _ (h w' h1 h2)
theorem wpList_makeMap_S (E : EK β) (hw : Region.wanted o (yielded ops a.tmps) = true) (T K : TypeId) (ho : o.op = .makeMap T none)
    (h : ∀ w', MpS E P K w' w.heap.size 0 [] → w.grownBy w' none → Hid (w'.heap.size = w.heap.size + 1) → wpList P ops Q rest (a.put o.dst (.map (some w.heap.size))) w') : wpList P ops Q (o :: rest) a w := by
  have hrun := run_makeMap (P := P) T w
  refine wpList_step fun _ hK' => ?_
  rw [if_pos hw]
  unfold Oper.wp
  simp [execOp, ho, hrun, Result.andThen]
  exact hK' _ _ (h _ (MpS.made E w P K) (World.grownBy_alloc w _ none) (Lib.hid (by simp)))
end
section
variable {P : Program} {ops : Array Oper} {rest : List Oper} {o : Oper} {a : Act} {w : World} {Q : Exit → Act → World → Prop} {n : Nat} {r : Option Nat} {F : Fence}
end
end Go.Proofs.Ytbippmbcgkicaaa.Sto
