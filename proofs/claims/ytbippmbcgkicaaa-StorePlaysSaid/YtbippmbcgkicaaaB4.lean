/-
  More steps of a region: a nil check passed, one cell or one struct stored into a block that is known whole, some numbers copied to its head: no program here.
  More steps of a region: a struct allocated, a list of structs built: no program here.
  One struct stored into a list whose block is known whole: no program here.
  Package merge's leads and settle by their contracts: which of two records stands ahead by either order; two neighbours of a list of the call's own.
  Lists of structs in a block that is filled step by step; append within the room: no program here.
  Appending a list of structs of any length, none among them, onto a list of the call's own; the library's slices.Clone and slices.Grow of records, by their contracts.
  Package store, plain: what is known of each name, what each call makes of it, what is shown, what was shown directly ahead of a Put: no program here.
  Words for package store in memory: lists of byte slices, views, what is known of a name, a store: what they read as, whose each block is, what a change of one of them leaves: no program here but its types.
-/
import Derived.Test.YtbippmbcgkicaaaB3
import Derived.Test.YtbippmbcgkicaaaB2
import Derived.OwnWalk
import Derived.Lib.LazyBuf
import Derived.WalkKit
import Derived.Test.YtbippmbcgkicaaaB1
set_option linter.unusedVariables false
namespace Go.Proofs.Ytbippmbcgkicaaa.Sl
open Go.RowKit Go.Shelf Mem Held
section
variable {P : Program} {S : World → Prop} {ρ : Operand → Value} {o : Oper}
theorem y_nil {x : Operand} {A : Addr} (ho : o.op = .nilCheck x) (hx : ρ x = .pointer (some A)) : ∀ w, S w → (execOp ρ o).run P w = .ok (.value (.pointer (some A))) w := fun w _ => by
  simp [execOp, ho, hx]
end
section
variable {α : Type} {k : St α} {P : Program} {ops : Array Oper} {rest : List Oper} {o : Oper} {a : Act} {w : World} {Q : Exit → Act → World → Prop}
theorem op_store_cell (i : Nat) (d : Option Tmp) {K : Act → World → Prop} (ty : TypeId) {x y : Operand} (g j : Nat) (t : TypeId) (cs : Array Value) (v : Value) (hi : ops[i]? = some o) (hd : o.dst = d) (hw : Region.wanted o (yielded ops a.tmps) = true)
    (ho : o.op = .store ty x y) (hx : a.eval x = .pointer (some ⟨g, j, none⟩)) (hy : a.eval y = v) (hb : Blk w g t cs) (hj : j < cs.size) (hsz : (P.info? ty).map (·.size) = some 1) (h1 : v.cells = #[v]) (ho1 : v.oneCell' = true)
    (h : ∀ w', Blk w' g t (cs.setIfInBounds j v) → w.grownBy w' (some g) → K (a.put d undef) w') : wpOp P ops Q i K a w := by
  subst hd
  refine op_wp i hi hw ?_
  unfold Oper.wp execOp
  simp only [ho, hx, hy, Instr.storeAt, Instr.sureAddr, Sem.run_bind, Sem.run_pure, Result.andThen_ok, run_store_elem ty g j _ v (hb.cell (Array.getElem?_eq_getElem hj)) (hb.frozen j) hsz h1 ho1]
  exact h _ (hb.set j v) (grown_setCell _ _ _ _)
end
end Go.Proofs.Ytbippmbcgkicaaa.Sl
namespace Go.Proofs.Ytbippmbcgkicaaa.Sl
open Go.RowKit Go.Shelf Mem Held
section
variable {α : Type} {k : St α} {P : Program} {ops : Array Oper} {o : Oper} {a : Act} {w : World} {Q : Exit → Act → World → Prop}
theorem op_alloc_blk (i : Nat) (d : Option Tmp) {K : Act → World → Prop} (ty : TypeId) (cs : Array Value) (hi : ops[i]? = some o) (hd : o.dst = d) (hw : Region.wanted o (yielded ops a.tmps) = true)
    (ho : o.op = .alloc ty) (hz : (P.info? ty).bind (·.zero) = some (.agg cs))
    (h : ∀ g w', Blk w' g ty cs → Below w.heap.size w w' → Hid (w.heap.size ≤ g) → K (a.put d (.pointer (some ⟨g, 0, none⟩))) w') : wpOp P ops Q i K a w := by
  subst hd
  refine op_wp i hi hw ?_
  unfold Oper.wp execOp
  simp only [ho, run_alloc_blk ty cs hz, Sem.run_bind, Sem.run_pure, Result.andThen_ok]
  exact h _ _ (heap_alloc_new w _) ((Below.refl _ w).alloc (Nat.le_refl _) _) (Lib.hid (Nat.le_refl _))
theorem op_build_lst (i : Nat) (d : Option Tmp) {K : Act → World → Prop} (ts e : TypeId) (n : Nat) {parts : Array (Nat × Operand)} (z : Value) (bytes : Nat) (xs : List α) (hi : ops[i]? = some o) (hd : o.dst = d) (hw : Region.wanted o (yielded ops a.tmps) = true)
    (ho : o.op = .buildSlice ts n parts) (hu : P.underlying ts = some (.slice e)) (hinfo : (P.info? e).map (fun i => (i.zero, i.size, i.bytes)) = some (some z, k.s, bytes)) (hz : z.cells.size = k.s)
    (hn : xs.length = n) (hp : (parts.map fun (i, x) => (i, a.eval x)).toList = ((xs.map fun x => Value.agg (k.cells x).toArray).zipIdx 0).map fun x => (x.2, x.1)) (h0 : 0 < n) (h24 : n * k.s ≤ 16777216)
    (h : ∀ g w', Blk w' g e (flat k xs).toArray → Below w.heap.size w w' → Hid (w.heap.size ≤ g) → K (a.put d (.slice (some ⟨g, 0, none⟩) n n)) w') : wpOp P ops Q i K a w := by
  subst hd
  refine op_wp i hi hw ?_
  obtain ⟨ie, hie, hz0, hs, hb⟩ := info_parts hinfo
  refine Go.wp_buildSlice ts e n parts ho (flat k xs).toArray ie z hu hie hz0 (by rw [hs]; omega) (by rw [hs]; have := Nat.mul_pos h0 k.pos; omega) ?_ (h _ _ (heap_alloc_new w _) ((Below.refl _ w).alloc (Nat.le_refl _) _) (Lib.hid (Nat.le_refl _)))
  rw [hp, hs]
  refine (Great.fill_whole k.pos (xs.map fun x => Value.agg (k.cells x).toArray) _ (fun v hv => ?_) (by simp [hn])).trans ?_
  · obtain ⟨x, _, rfl⟩ := List.mem_map.1 hv
    simp [Value.cells, k.len]
  · rw [List.flatMap_map]
    simp [flat, Value.cells]
end
end Go.Proofs.Ytbippmbcgkicaaa.Sl
namespace Go.Proofs.Ytbippmbcgkicaaa.Sl
open Go.RowKit Go.Shelf Mem Held
section
variable {α : Type} {k : St α} {P : Program} {ops : Array Oper} {o : Oper} {a : Act} {w : World} {Q : Exit → Act → World → Prop}
end
end Go.Proofs.Ytbippmbcgkicaaa.Sl
namespace Go.Proofs.Ytbippmbcgkicaaa.Mg
open Go.RowKit Go.Shelf Go.Proofs.Ytbippmbcgkicaaa Mem Held Ct Rc Rs Sl
attribute [local irreducible] wpList wpListIn Calls
end Go.Proofs.Ytbippmbcgkicaaa.Mg
namespace Go.Proofs.Ytbippmbcgkicaaa.Sl
open Go.RowKit Go.Shelf Mem Held
section
variable {α : Type} {k : St α}
end
section
variable {α : Type} {k : St α} {P : Program} {ops : Array Oper} {rest : List Oper} {o : Oper} {a : Act} {w : World} {Q : Exit → Act → World → Prop}
end
end Go.Proofs.Ytbippmbcgkicaaa.Sl
namespace Go.Proofs.Ytbippmbcgkicaaa.Mg
open Go.RowKit Go.Shelf Go.Proofs.Ytbippmbcgkicaaa Mem Held Ct Rc Rs Sl
attribute [local irreducible] wpList wpListIn Calls
section
variable {P : Program} {S : World → Prop} {ρ : Operand → Value} {o : Oper}
theorem y_slnil {t e ty : TypeId} {x y : Operand} {A : Option Addr} {n c : Nat} (ho : o.op = .binOp .eql t x y ty) (hx : ρ x = .slice A n c) (hy : ρ y = .slice none 0 0) (hu : P.underlying t = some (.slice e)) : ∀ w, S w → (execOp ρ o).run P w = .ok (.value (.bool A.isNone)) w :=
  Held.y_bin ho hx hy (fun w => by cases A <;> simp [eqGuard]) (fun w => run_eql_slice_nil w t e A n c hu)
theorem run_append_zero (ts e : TypeId) (hu : P.underlying ts = some (.slice e)) (ie : TypeInfo) (hie : P.info? e = some ie) {ty : TypeId} (w : World) (As A : Option Addr) (n cap c : Nat) (hn : n ≤ cap) :
    (Builtin.append_ #[ts, ts] ty #[.slice As n cap, .slice A 0 c]).run P w = .ok (.slice As n cap) w := by
  cases A with
  | none => cases As <;> simp [Builtin.append_, run_underlying hu, sizeOf, typeInfo, hie, Builtin.lenOf, Builtin.firstCells, hn, storeCells]
  | some ad => cases As <;> simp [Builtin.append_, run_underlying hu, sizeOf, typeInfo, hie, Builtin.lenOf, Builtin.firstCells, hn, storeCells, loadCells, loadCellsFrom]
theorem run_build_none (ts e : TypeId) (hu : P.underlying ts = some (.slice e)) (ie : TypeInfo) (hie : P.info? e = some ie) (w : World) :
    (Instr.buildSlice ts 0 #[]).run P w = .ok (.slice (some ⟨w.heap.size, 0, none⟩) 0 0) (w.alloc (.cells #[] e)) := by
  simp [Instr.buildSlice, run_underlying hu, sizeOf, typeInfo, hie, newRow, Instr.fill]
  have : Array.range 0 = #[] := by simp
  rw [this, Array.map_empty]
end
section
variable {α : Type} {k : St α} {P : Program} {ops : Array Oper} {rest : List Oper} {o : Oper} {a : Act} {w : World} {Q : Exit → Act → World → Prop}
theorem wpList_append_all (hgd : o.guard = none) (s x : Operand) (ts e : TypeId) (ho : o.op = .call { callee := .builtin .append, args := #[s, x], argTypes := #[ts, ts] }) (hu : P.underlying ts = some (.slice e)) (z : Value) (bytes : Nat) (hinfo : (P.info? e).map (fun i => (i.zero, i.size, i.bytes)) = some (some z, k.s, bytes)) (hz : z.cells.size = k.s)
    (base B m c : Nat) (A : Option Addr) (v : Value) (xs ys : List α) (hs : a.eval s = v) (hx : a.eval x = .slice A m c) (hown : OwnL k e w base v xs) (hq : Lst k w B A m ys) (hm : xs.length + m ≤ 1048576) (hby : bytes ≤ 1048576) (hbase : base ≤ w.heap.size)
    (h : ∀ v' w', OwnL k e w' base v' (xs ++ ys) → w.grownBy w' v.ownBlock → (v'.ownBlock = v.ownBlock ∨ v'.ownBlock = some w.heap.size) → wpList P ops Q rest (a.put o.dst v') w') : wpList P ops Q (o :: rest) a w := by
  rcases Nat.eq_zero_or_pos m with h0 | h0
  · subst h0
    have e0 : ys = [] := List.eq_nil_of_length_eq_zero hq.1
    subst e0
    obtain ⟨A', c', rfl, hle, _⟩ := OwnL.form hown
    obtain ⟨ie, hie, _⟩ := info_parts hinfo
    exact Rs.wpList_append_ran hgd s x ts ts ho _ _ _ w hs hx (run_append_zero ts e hu ie hie w A' A _ c' c hle) (h _ w (by rw [List.append_nil]; exact hown) (World.grownBy.refl w _) (.inl rfl))
  · obtain ⟨g, off, rfl, _, _⟩ := hq.2.2 h0
    exact wpList_append_lst hgd s x ts e ho hu z bytes hinfo hz base B g off m c v xs ys hs hx hown hq hm hby hbase h
theorem wpList_build_none (hgd : o.guard = none) (ts e : TypeId) (ho : o.op = .buildSlice ts 0 #[]) (hu : P.underlying ts = some (.slice e)) (hinfo : (P.info? e).isSome = true)
    (h : ∀ w', Blk w' w.heap.size e #[] → w.grownBy w' none → wpList P ops Q rest (a.put o.dst (.slice (some ⟨w.heap.size, 0, none⟩) 0 0)) w') : wpList P ops Q (o :: rest) a w := by
  obtain ⟨ie, hie⟩ := Option.isSome_iff_exists.1 hinfo
  refine wpList_plain hgd fun K hK => ?_
  unfold Oper.wp execOp
  simp only [ho, Sem.run_bind, List.map_toArray, List.map_nil, run_build_none ts e hu ie hie w, Result.andThen_ok]
  exact hK _ _ (h _ (heap_alloc_new w _) (World.grownBy_alloc w _ none))
end
end Go.Proofs.Ytbippmbcgkicaaa.Mg
namespace Go.Proofs.Ytbippmbcgkicaaa.Sto
structure Vp where
  t : Int
  is : Bool
  zs : List Int
structure Hp where
  vs : List (List Int)
  us : List Vp
abbrev Lp := List (List UInt8 × Hp)
def Vp.none : Vp := ⟨0, false, []⟩
def showP (t : Int) (v : Vp) (us : List Vp) : List Vp := if 0 < us.length ∧ (us.getD (us.length - 1) Vp.none).t = t then us.set (us.length - 1) ⟨t, v.is, v.zs⟩ else us ++ [⟨t, v.is, v.zs⟩]
def modP (k : List UInt8) (f : Hp → Hp) (L : Lp) : Lp := L.map fun p => if p.1 = k then (p.1, f p.2) else p
def addP (k : List UInt8) (L : Lp) : Lp := if k ∈ L.map (·.1) then L else L ++ [(k, ⟨[], []⟩)]
def shwF (t : Int) (v : Vp) (h : Hp) : Hp := ⟨h.vs, showP t v h.us⟩
def putF (t : Int) (zs : List Int) (h : Hp) : Hp := ⟨h.vs ++ [zs], showP t ⟨0, true, zs⟩ h.us⟩
def putP (t : Int) (k : List UInt8) (zs : List Int) (L : Lp) : Lp := modP k (putF t zs) (addP k L)
def lastP (us : List Vp) : Vp := us.getD (us.length - 1) Vp.none
def bhP (j : Int) (us : List Vp) : Vp := if us.countP (fun v => decide (v.t ≤ j)) = 0 then Vp.none else us.getD (us.countP (fun v => decide (v.t ≤ j)) - 1) Vp.none
def rollP (t j : Int) (L : Lp) : Lp := L.map fun p => (p.1, shwF t (bhP j p.2.us) p.2)
def entP : Lp → List UInt8 → Option Hp
  | [], _ => none
  | p :: L, k => if p.1 = k then some p.2 else entP L k
def shwP (L : Lp) (k : List UInt8) : Bool × List Int := match entP L k with
  | none => (false, [])
  | some h => ((lastP h.us).is, (lastP h.us).zs)
def verP (L : Lp) (k : List UInt8) : List (List Int) := match entP L k with
  | none => []
  | some h => h.vs
def bhdP (L : Lp) (k : List UInt8) (j : Int) : Bool × List Int := match entP L k with
  | none => (false, [])
  | some h => ((bhP j h.us).is, (bhP j h.us).zs)
def keysP (L : Lp) : List (List UInt8) := L.map (·.1)
theorem mod_keys (k : List UInt8) (f : Hp → Hp) (L : Lp) : keysP (modP k f L) = keysP L := by
  unfold keysP modP
  rw [List.map_map]
  refine List.map_congr_left fun p _ => ?_
  simp only [Function.comp]
  split <;> rfl
theorem mem_add {k x : List UInt8} {L : Lp} : x ∈ keysP (addP k L) ↔ x = k ∨ x ∈ keysP L := by
  unfold keysP addP
  split
  · rename_i h
    exact ⟨.inr, fun e => e.elim (fun e => by rw [e]; exact h) id⟩
  · simp [or_comm]
theorem add_nodup {k : List UInt8} {L : Lp} (h : (keysP L).Nodup) : (keysP (addP k L)).Nodup := by
  unfold keysP addP at *
  split
  · exact h
  · rename_i hk
    rw [List.map_append]
    exact List.nodup_append.2 ⟨h, by simp, fun a ha b hb e => hk (by simp at hb; rw [← hb, ← e]; exact ha)⟩
theorem ent_none {L : Lp} {k : List UInt8} : entP L k = none ↔ k ∉ keysP L := by
  induction L with
  | nil => simp [entP, keysP]
  | cons p L ih =>
    unfold keysP at *
    rw [entP, List.map_cons, List.mem_cons]
    split
    · rename_i h
      simp [h]
    · rename_i h
      rw [ih]
      exact ⟨fun h1 h2 => h2.elim (fun e => h e.symm) h1, fun h1 h2 => h1 (.inr h2)⟩
theorem ent_mod (k : List UInt8) (f : Hp → Hp) (x : List UInt8) : ∀ L : Lp, entP (modP k f L) x = if x = k then (entP L x).map f else entP L x
  | [] => by simp [modP, entP]
  | p :: L => by
    have ih := ent_mod k f x L
    unfold modP at ih ⊢
    rw [List.map_cons, entP, ih, entP]
    by_cases hp : p.1 = k
    · rw [if_pos hp]
      by_cases hx : p.1 = x
      · have : x = k := hx.symm.trans hp
        simp [hx, this]
      · have : x ≠ k := fun e => hx (hp.trans e.symm)
        simp [hx, this]
    · rw [if_neg hp]
      by_cases hx : p.1 = x
      · have : x ≠ k := fun e => hp (hx.trans e)
        simp [hx, this]
      · rw [if_neg hx, if_neg hx]
theorem ent_app (x : List UInt8) (M : Lp) : ∀ L : Lp, entP (L ++ M) x = (entP L x).or (entP M x)
  | [] => by simp [entP]
  | p :: L => by
    rw [List.cons_append, entP, entP, ent_app x M L]
    split <;> simp
theorem ent_add (k x : List UInt8) (L : Lp) : entP (addP k L) x = if x = k then some ((entP L x).getD ⟨[], []⟩) else entP L x := by
  unfold addP
  split
  · rename_i h
    split
    · rename_i e
      subst e
      cases he : entP L x with
      | none => exact absurd h (ent_none.1 he)
      | some v => rfl
    · rfl
  · rename_i h
    rw [ent_app]
    simp only [entP]
    by_cases e : x = k
    · subst e
      have hn : entP L x = none := ent_none.2 h
      simp [hn]
    · rw [if_neg e, if_neg (fun e' => e e'.symm)]
      cases entP L x <;> rfl
theorem ent_put (t : Int) (k : List UInt8) (zs : List Int) (L : Lp) (x : List UInt8) : entP (putP t k zs L) x = if x = k then some (putF t zs ((entP L x).getD ⟨[], []⟩)) else entP L x := by
  unfold putP
  rw [ent_mod, ent_add]
  split <;> rfl
theorem ent_roll (t j : Int) (x : List UInt8) : ∀ L : Lp, entP (rollP t j L) x = (entP L x).map fun h => shwF t (bhP j h.us) h
  | [] => rfl
  | p :: L => by
    have ih := ent_roll t j x L
    unfold rollP at ih ⊢
    rw [List.map_cons, entP, ih, entP]
    split <;> rfl
theorem roll_keys (t j : Int) (L : Lp) : keysP (rollP t j L) = keysP L := by
  unfold keysP rollP
  rw [List.map_map]
  rfl
theorem ent_mem {L : Lp} {k : List UInt8} {h : Hp} : entP L k = some h → (k, h) ∈ L := by
  induction L with
  | nil => intro e; cases e
  | cons p L ih =>
    rw [entP]
    split
    · rename_i e
      intro e2
      injection e2 with e2
      rw [← e, ← e2]
      exact List.mem_cons_self
    · intro e
      exact List.mem_cons_of_mem _ (ih e)
theorem ent_at {L : Lp} (hd : (keysP L).Nodup) {p : List UInt8 × Hp} : p ∈ L → entP L p.1 = some p.2 := by
  induction L with
  | nil => intro h; cases h
  | cons q L ih =>
    unfold keysP at *
    rw [List.map_cons, List.nodup_cons] at hd
    intro h
    rcases List.mem_cons.1 h with rfl | h
    · simp [entP]
    · rw [entP, if_neg (fun e => hd.1 (by rw [e]; exact List.mem_map.2 ⟨p, h, rfl⟩))]
      exact ih hd.2 h
structure GoodU (us : List Vp) (t : Int) : Prop where
  ne : us ≠ []
  up : (us.map (·.t)).Pairwise (· < ·)
  le : ∀ v ∈ us, v.t ≤ t
  off : ∀ v ∈ us, v.is = false → v.zs = []
theorem show_last (t : Int) (v : Vp) (us : List Vp) : lastP (showP t v us) = ⟨t, v.is, v.zs⟩ := by
  unfold lastP showP
  split
  · rename_i h
    rw [List.length_set, List.getD_eq_getElem?_getD, List.getElem?_set, if_pos rfl, if_pos (by omega)]
    rfl
  · simp [List.getD_eq_getElem?_getD]
theorem show_good {t : Int} {v : Vp} (hv : v.is = false → v.zs = []) {us : List Vp} {t0 : Int} (h : us = [] ∨ GoodU us t0) (ht : t0 ≤ t) : GoodU (showP t v us) t := by
  rcases h with rfl | h
  · exact ⟨by simp [showP], by simp [showP], by simp [showP], by simpa [showP] using hv⟩
  · have h0 : 0 < us.length := List.length_pos_iff.2 h.ne
    obtain ⟨us', l, rfl⟩ : ∃ us' l, us = us' ++ [l] := ⟨us.dropLast, us.getLast h.ne, (List.dropLast_concat_getLast h.ne).symm⟩
    have hd : (us' ++ [l]).getD ((us' ++ [l]).length - 1) Vp.none = l := by simp [List.getD_eq_getElem?_getD]
    have hup := h.up
    rw [List.map_append, List.pairwise_append] at hup
    unfold showP
    rw [hd]
    by_cases hl : l.t = t
    · rw [if_pos ⟨h0, hl⟩]
      have e : (us' ++ [l]).set ((us' ++ [l]).length - 1) ⟨t, v.is, v.zs⟩ = us' ++ [⟨t, v.is, v.zs⟩] := by simp
      rw [e]
      refine ⟨by simp, ?_, fun x hx => ?_, fun x hx => ?_⟩
      · rw [List.map_append, List.pairwise_append]
        exact ⟨hup.1, by simp, fun a ha b hb => by
          simp at hb
          rw [hb, ← hl]
          exact hup.2.2 a ha _ (by simp)⟩
      · rcases List.mem_append.1 hx with hx | hx
        · have := h.le x (List.mem_append_left _ hx); omega
        · rw [List.mem_singleton.1 hx]; exact Int.le_refl _
      · rcases List.mem_append.1 hx with hx | hx
        · exact h.off x (List.mem_append_left _ hx)
        · rw [List.mem_singleton.1 hx]; exact hv
    · rw [if_neg (fun h => hl h.2)]
      have hlt : l.t < t := by have := h.le l (by simp); omega
      refine ⟨by simp, ?_, fun x hx => ?_, fun x hx => ?_⟩
      · rw [List.map_append, List.pairwise_append]
        refine ⟨h.up, by simp, fun a ha b hb => ?_⟩
        simp at hb
        subst hb
        rw [List.map_append, List.mem_append] at ha
        rcases ha with ha | ha
        · have := hup.2.2 a ha l.t (by simp); omega
        · simp at ha; omega
      · rcases List.mem_append.1 hx with hx | hx
        · have := h.le x hx; omega
        · rw [List.mem_singleton.1 hx]; exact Int.le_refl _
      · rcases List.mem_append.1 hx with hx | hx
        · exact h.off x hx
        · rw [List.mem_singleton.1 hx]; exact hv
theorem bh_all {us : List Vp} {j : Int} (h : ∀ v ∈ us, v.t ≤ j) : bhP j us = lastP us := by
  unfold bhP lastP
  have e : us.countP (fun v => decide (v.t ≤ j)) = us.length := List.countP_eq_length.2 fun v hv => by simpa using h v hv
  rw [e]
  split
  · rename_i h0
    rw [List.eq_nil_of_length_eq_zero h0]
    rfl
  · rfl
theorem bh_show {t j : Int} (v : Vp) {us : List Vp} (hj : j < t) (h : us = [] ∨ GoodU us t) : bhP j (showP t v us) = bhP j us := by
  have app : ∀ (xs : List Vp) (a b : Vp), j < a.t → bhP j (xs ++ [a]) = bhP j xs := fun xs a b ha => by
    unfold bhP
    have e : (xs ++ [a]).countP (fun v => decide (v.t ≤ j)) = xs.countP (fun v => decide (v.t ≤ j)) := by
      rw [List.countP_append]
      simp [ha]
    rw [e]
    split
    · rfl
    · rename_i h0
      have := List.countP_le_length (p := fun v : Vp => decide (v.t ≤ j)) (l := xs)
      rw [List.getD_eq_getElem?_getD, List.getElem?_append_left (by omega), List.getD_eq_getElem?_getD]
  rcases h with rfl | h
  · unfold showP
    rw [if_neg (by simp)]
    exact app [] _ v hj
  · have h0 : 0 < us.length := List.length_pos_iff.2 h.ne
    obtain ⟨us', l, rfl⟩ : ∃ us' l, us = us' ++ [l] := ⟨us.dropLast, us.getLast h.ne, (List.dropLast_concat_getLast h.ne).symm⟩
    have hd : (us' ++ [l]).getD ((us' ++ [l]).length - 1) Vp.none = l := by simp [List.getD_eq_getElem?_getD]
    unfold showP
    rw [hd]
    by_cases hl : l.t = t
    · rw [if_pos ⟨h0, hl⟩]
      have e : (us' ++ [l]).set ((us' ++ [l]).length - 1) ⟨t, v.is, v.zs⟩ = us' ++ [⟨t, v.is, v.zs⟩] := by simp
      rw [e, app us' _ v (by exact hj), app us' l v (by omega)]
    · rw [if_neg (fun h => hl h.2)]
      exact app _ _ v hj
def GoodL (L : Lp) (t : Int) : Prop := (keysP L).Nodup ∧ ∀ p ∈ L, GoodU p.2.us t
theorem GoodL.nil (t : Int) : GoodL [] t := ⟨by simp [keysP], by simp⟩
theorem GoodL.at_ {L : Lp} {t : Int} (h : GoodL L t) {k : List UInt8} {x : Hp} (hx : entP L k = some x) : GoodU x.us t := h.2 _ (ent_mem hx)
theorem good_mod {L : Lp} {t t' : Int} {k : List UInt8} {f : Hp → Hp} (h : GoodL L t) (ht : t ≤ t') (hf : ∀ x, GoodU x.us t → GoodU (f x).us t') : GoodL (modP k f L) t' := by
  have up : ∀ {us : List Vp}, GoodU us t → GoodU us t' := fun {us} hu => ⟨hu.ne, hu.up, fun v hv => Int.le_trans (hu.le v hv) ht, hu.off⟩
  refine ⟨by rw [mod_keys]; exact h.1, fun p hp => ?_⟩
  unfold modP at hp
  obtain ⟨q, hq, rfl⟩ := List.mem_map.1 hp
  split
  · exact hf _ (h.2 q hq)
  · exact up (h.2 q hq)
theorem good_show {L : Lp} {t : Int} {k : List UInt8} {v : Vp} (h : GoodL L t) (hv : v.is = false → v.zs = []) : GoodL (modP k (shwF t v) L) t := good_mod h (Int.le_refl _) fun x hx => show_good hv (.inr hx) (Int.le_refl _)
theorem good_put {L : Lp} {t : Int} {k : List UInt8} {zs : List Int} (h : GoodL L t) : GoodL (putP (t + 1) k zs L) (t + 1) := by
  have up : ∀ {us : List Vp}, GoodU us t → GoodU us (t + 1) := fun {us} hu => ⟨hu.ne, hu.up, fun v hv => by have := hu.le v hv; omega, hu.off⟩
  refine ⟨by rw [putP, mod_keys]; exact add_nodup h.1, fun p hp => ?_⟩
  unfold putP modP at hp
  obtain ⟨q, hq, rfl⟩ := List.mem_map.1 hp
  have hq' : q ∈ L ∨ q = (k, ⟨[], []⟩) := by
    unfold addP at hq
    split at hq
    · exact .inl hq
    · rcases List.mem_append.1 hq with hq | hq
      · exact .inl hq
      · exact .inr (List.mem_singleton.1 hq)
  split
  · refine show_good (fun h => by cases h) ?_ (show t ≤ t + 1 by omega)
    rcases hq' with hq | rfl
    · exact .inr (h.2 q hq)
    · exact .inl rfl
  · rename_i hne
    rcases hq' with hq | rfl
    · exact up (h.2 q hq)
    · exact absurd rfl hne
theorem bh_off {us : List Vp} {t j : Int} (h : GoodU us t) : (bhP j us).is = false → (bhP j us).zs = [] := by
  unfold bhP
  split
  · intro _; rfl
  · rename_i h0
    have hc := List.countP_le_length (p := fun v : Vp => decide (v.t ≤ j)) (l := us)
    have hlt : us.countP (fun v => decide (v.t ≤ j)) - 1 < us.length := by omega
    rw [List.getD_eq_getElem?_getD, List.getElem?_eq_getElem hlt]
    exact h.off _ (List.getElem_mem hlt)
theorem good_roll {L : Lp} {t j : Int} (h : GoodL L t) : GoodL (rollP t j L) t := by
  refine ⟨by rw [roll_keys]; exact h.1, fun p hp => ?_⟩
  unfold rollP at hp
  obtain ⟨q, hq, rfl⟩ := List.mem_map.1 hp
  exact show_good (bh_off (h.2 q hq)) (.inr (h.2 q hq)) (Int.le_refl _)
theorem shw_put {t : Int} {k : List UInt8} {zs : List Int} {L : Lp} (x : List UInt8) : shwP (putP t k zs L) x = if x = k then (true, zs) else shwP L x := by
  unfold shwP
  rw [ent_put]
  by_cases h : x = k
  · rw [if_pos h, if_pos h]
    show ((lastP (showP _ _ _)).is, (lastP (showP _ _ _)).zs) = _
    rw [show_last]
  · rw [if_neg h, if_neg h]
theorem ver_put {t : Int} {k : List UInt8} {zs : List Int} {L : Lp} (x : List UInt8) : verP (putP t k zs L) x = if x = k then verP L x ++ [zs] else verP L x := by
  unfold verP
  rw [ent_put]
  by_cases h : x = k
  · rw [if_pos h, if_pos h]
    cases entP L x <;> rfl
  · rw [if_neg h, if_neg h]
theorem shw_mod {t : Int} {k : List UInt8} {v : Vp} {L : Lp} (hk : k ∈ keysP L) (x : List UInt8) : shwP (modP k (shwF t v) L) x = if x = k then (v.is, v.zs) else shwP L x := by
  unfold shwP
  rw [ent_mod]
  by_cases h : x = k
  · subst h
    rw [if_pos rfl, if_pos rfl]
    cases he : entP L x with
    | none => exact absurd hk (ent_none.1 he)
    | some y =>
      show ((lastP (showP _ _ _)).is, (lastP (showP _ _ _)).zs) = _
      rw [show_last]
  · rw [if_neg h, if_neg h]
theorem ver_mod {t : Int} {k : List UInt8} {v : Vp} {L : Lp} (x : List UInt8) : verP (modP k (shwF t v) L) x = verP L x := by
  unfold verP
  rw [ent_mod]
  by_cases h : x = k
  · rw [if_pos h]
    cases entP L x <;> rfl
  · rw [if_neg h]
theorem shw_roll {t j : Int} {L : Lp} (x : List UInt8) : shwP (rollP t j L) x = bhdP L x j := by
  unfold shwP bhdP
  rw [ent_roll]
  cases entP L x with
  | none => rfl
  | some y =>
    show ((lastP (showP _ _ _)).is, (lastP (showP _ _ _)).zs) = _
    rw [show_last]
theorem ver_roll {t j : Int} {L : Lp} (x : List UInt8) : verP (rollP t j L) x = verP L x := by
  unfold verP
  rw [ent_roll]
  cases entP L x <;> rfl
theorem bhd_mod {t j : Int} {k : List UInt8} {v : Vp} {L : Lp} (h : GoodL L t) (hj : j < t) (x : List UInt8) : bhdP (modP k (shwF t v) L) x j = bhdP L x j := by
  unfold bhdP
  rw [ent_mod]
  by_cases hx : x = k
  · rw [if_pos hx]
    cases he : entP L x with
    | none => rfl
    | some y =>
      show ((bhP j (showP _ _ _)).is, (bhP j (showP _ _ _)).zs) = _
      rw [bh_show v hj (.inr (h.at_ he))]
  · rw [if_neg hx]
theorem bhd_roll {t i j : Int} {L : Lp} (h : GoodL L t) (hj : j < t) (x : List UInt8) : bhdP (rollP t i L) x j = bhdP L x j := by
  unfold bhdP
  rw [ent_roll]
  cases he : entP L x with
  | none => rfl
  | some y =>
    show ((bhP j (showP _ _ _)).is, (bhP j (showP _ _ _)).zs) = _
    rw [bh_show _ hj (.inr (h.at_ he))]
theorem bhd_put {t j : Int} {k : List UInt8} {zs : List Int} {L : Lp} (h : GoodL L t) (hj : j ≤ t) (x : List UInt8) : bhdP (putP (t + 1) k zs L) x j = bhdP L x j := by
  unfold bhdP
  rw [ent_put]
  by_cases hx : x = k
  · rw [if_pos hx]
    cases he : entP L x with
    | none =>
      show ((bhP j (showP (t + 1) ⟨0, true, zs⟩ [])).is, (bhP j (showP (t + 1) ⟨0, true, zs⟩ [])).zs) = (false, [])
      rw [bh_show (t := t + 1) (j := j) ⟨0, true, zs⟩ (by omega) (.inl rfl)]
      rfl
    | some y =>
      have hg := h.at_ he
      show ((bhP j (showP (t + 1) ⟨0, true, zs⟩ y.us)).is, (bhP j (showP (t + 1) ⟨0, true, zs⟩ y.us)).zs) = ((bhP j y.us).is, (bhP j y.us).zs)
      rw [bh_show (t := t + 1) (j := j) ⟨0, true, zs⟩ (by omega) (.inr ⟨hg.ne, hg.up, fun v hv => by have := hg.le v hv; omega, hg.off⟩)]
  · rw [if_neg hx]
theorem bhd_all {t : Int} {L : Lp} (h : GoodL L t) (x : List UInt8) : bhdP L x t = shwP L x := by
  unfold bhdP shwP
  cases he : entP L x with
  | none => rfl
  | some y =>
    show ((bhP t y.us).is, (bhP t y.us).zs) = ((lastP y.us).is, (lastP y.us).zs)
    rw [bh_all (h.at_ he).le]
theorem shw_off {t : Int} {L : Lp} (h : GoodL L t) {x : List UInt8} : (shwP L x).1 = false → (shwP L x).2 = [] := by
  unfold shwP
  cases he : entP L x with
  | none => intro _; rfl
  | some y =>
    have hg := h.at_ he
    have h0 := List.length_pos_iff.2 hg.ne
    show (lastP y.us).is = false → (lastP y.us).zs = []
    unfold lastP
    rw [List.getD_eq_getElem?_getD, List.getElem?_eq_getElem (by omega)]
    exact hg.off _ (List.getElem_mem _)
theorem shw_key {L : Lp} {x : List UInt8} (h : (shwP L x).1 = true) : x ∈ keysP L := by
  unfold shwP at h
  by_cases hk : x ∈ keysP L
  · exact hk
  · rw [ent_none.2 hk] at h
    cases h
theorem ver_key {L : Lp} {x : List UInt8} {m : Nat} {zs : List Int} (h : (verP L x)[m]? = some zs) : x ∈ keysP L := by
  unfold verP at h
  by_cases hk : x ∈ keysP L
  · exact hk
  · rw [ent_none.2 hk] at h
    cases h
def delP (t : Int) (k : List UInt8) (L : Lp) : Bool × Lp := if (shwP L k).1 then (true, modP k (shwF t Vp.none) L) else (false, L)
def swapP (t : Int) (a b : List UInt8) (L : Lp) : Bool × Lp := if (shwP L a).1 && (shwP L b).1 then (true, modP b (shwF t ⟨0, true, (shwP L a).2⟩) (modP a (shwF t ⟨0, true, (shwP L b).2⟩) L)) else (false, L)
def replayP (t : Int) (k : List UInt8) (n : Int) (L : Lp) : Bool × Lp := if n < 0 then (false, L) else match (verP L k)[n.toNat]? with
  | none => (false, L)
  | some zs => (true, modP k (shwF t ⟨0, true, zs⟩) L)
def rollsP (t n : Int) (L : Lp) : Bool × Lp := if n < 0 ∨ t < n then (false, L) else if n = 0 then (true, L) else (true, rollP t (t - n) L)
end Go.Proofs.Ytbippmbcgkicaaa.Sto
namespace Go.Proofs.Ytbippmbcgkicaaa.Sto
open Go.RowKit Go.Shelf Go.Proofs.Ytbippmbcgkicaaa Mem Held Sl Go.Proofs.Ytbippmbcgkicaaa.Range
structure Bs where
  A : Option Addr
  n : Nat
  c : Nat
  zs : List Int
def Bs.v (x : Bs) : Value := .slice x.A x.n x.c
def Bs.nil : Bs := ⟨none, 0, 0, []⟩
structure Vw where
  t : Int
  is : Bool
  x : Bs
def Vw.cells (v : Vw) : List Value := [.int .i64 v.t, .bool v.is, .slice v.x.A v.x.n v.x.c]
def Vw.none : Vw := ⟨0, false, Bs.nil⟩
def kB : St Bs := ⟨1, fun x => [.slice x.A x.n x.c], fun _ => True, Bs.nil, fun _ => rfl, fun x u hu => by rw [List.mem_singleton.1 hu]; rfl, by omega⟩
def kV : St Vw := ⟨3, Vw.cells, fun v => (Lit.int .i64 v.t).wf = true, Vw.none, fun _ => rfl, fun v u hu => by
  simp only [Vw.cells, List.mem_cons, List.not_mem_nil, or_false] at hu
  rcases hu with rfl | rfl | rfl <;> rfl, by omega⟩
theorem info_kB : (Try.prog.info? 31).map (fun i => (i.zero, i.size, i.bytes)) = some (some (.slice none 0 0), kB.s, 24) := by kernel_rfl
theorem info_kV : (Try.prog.info? 73).map (fun i => (i.zero, i.size, i.bytes)) = some (some (.agg #[.int .i64 0, .bool false, .slice none 0 0]), kV.s, 40) := by kernel_rfl
def Rd (S : Nat → Prop) (w : World) (x : Bs) : Prop := Ints w .u8 w.heap.size x.A x.n x.zs ∧ x.n ≤ 1099511627776 ∧ ∀ b off p, x.A = some ⟨b, off, p⟩ → 0 < x.n → S b
section
variable {S S' : Nat → Prop} {w w' : World} {x : Bs}
theorem Rd.nil (S : Nat → Prop) (w : World) : Rd S w Bs.nil := ⟨Ints.nil _ _ _ _, by simp [Bs.nil], fun b off p e => by cases e⟩
theorem Rd.keep (h : Rd S w x) (hk : KeepsP S w w') : Rd S w' x := by
  refine ⟨⟨h.1.1, h.1.2.1, fun hn => ?_⟩, h.2⟩
  obtain ⟨b, off, e, hb, hc⟩ := h.1.2.2 hn
  have hs := h.2.2 b off none e hn
  have hbk : w'.heap[b]? = w.heap[b]? := by
    have e0 := Array.getElem?_eq_getElem (xs := w.heap) hb
    rw [e0]
    exact hk.block b _ hs e0
  exact ⟨b, off, e, Nat.lt_of_lt_of_le hb hk.size, fun i hi => (World.cell?_of_block hbk).trans (hc i hi)⟩
theorem Rd.less (h : Rd S w x) (hs : ∀ b, S b → b < w.heap.size → S' b) : Rd S' w x := ⟨h.1, h.2.1, fun b off p e hn => by
  have := h.2.2 b off p e hn
  obtain ⟨b', off', e', hb, _⟩ := h.1.2.2 hn
  rw [e] at e'
  injection e' with e'
  injection e' with e1 _
  subst e1
  exact hs _ this hb⟩
theorem Rd.len (h : Rd S w x) : x.zs.length = x.n := h.1.1
end
structure Ent where
  k : Nm
  h : Nat
  vs : List Bs
  us : List Vw
def ptrR (v : Value) : Option (DataW Unit × List MemPlace) :=
  match v with
  | .pointer none => some (.nil, [])
  | .pointer (some ⟨g, 0, none⟩) => some (.lit (.int .i64 (g : Int)), [])
  | _ => none
def ptrV : Option Nat → Value
  | none => .pointer none
  | some g => .pointer (some ⟨g, 0, none⟩)
def ptrD : Option Nat → DataW Unit
  | none => .nil
  | some g => .lit (.int .i64 (g : Int))
def eP : EK (Option Nat) where
  R := ptrR
  enc := ptrV
  dat := ptrD
  ok := fun _ => True
  z := none
  hR := fun b _ => by cases b <;> exact ⟨_, rfl⟩
  inv := fun v y h => by
    unfold ptrR at h
    split at h
    · cases h
      exact ⟨none, trivial, rfl, rfl⟩
    · cases h
      exact ⟨some _, trivial, rfl, rfl⟩
    · cases h
  inj := fun a b _ _ h => by
    cases a <;> cases b
    · rfl
    · cases h
    · cases h
    · simp only [ptrD, DataW.lit.injEq, Lit.int.injEq] at h
      have := h.2
      congr 1
      omega
  zok := trivial
def HistAt (ow : Nat → Nat) (w : World) (h : Nat) (vs : List Bs) (us : List Vw) : Prop :=
  ow h = h + 2 ∧ ∃ vv ww, Blk w h 71 #[vv, ww] ∧ OwnL kB 31 w 0 vv vs ∧ OwnL kV 73 w 0 ww us ∧ (∀ b, vv.ownBlock = some b → ow b = h + 2) ∧ ∀ b, ww.ownBlock = some b → ow b = h + 2
structure Bytes (ow : Nat → Nat) (w : World) (vs : List Bs) (us : List Vw) : Prop where
  vs : ∀ x ∈ vs, Rd (fun r => ow r = 1) w x
  us : ∀ v ∈ us, Rd (fun r => ow r = 1) w v.x ∧ (Lit.int .i64 v.t).wf = true
structure Sto (ow : Nat → Nat) (w : World) (s : Nat) (W : Int) (N : Nat) (es : List Ent) : Prop where
  own : ow s = s + 2
  blk : ∃ mv, Blk w s 64 #[mv, .int .i64 W] ∧ ((mv = .map none ∧ es = []) ∨ ∃ b, mv = .map (some b) ∧ ow b = s + 2 ∧ MpS eP Try.prog 9 w b N (es.map fun e => (e.k, some e.h)))
  hist : ∀ e ∈ es, HistAt ow w e.h e.vs e.us
  bytes : ∀ e ∈ es, Bytes ow w e.vs e.us
  keys : (es.map (·.k)).Nodup
  apart : (es.map (·.h)).Nodup
  few : ∀ e ∈ es, e.vs.length ≤ N ∧ e.us.length ≤ N ∧ e.k.length ≤ maxLen
  len : es.length ≤ N
  low : ∀ r, ow r ≠ 0 → r < w.heap.size
  wf : 0 ≤ W ∧ W ≤ N
structure Chg (ow ow' : Nat → Nat) (w w' : World) : Prop where
  keep : KeepsP (fun r => ow r ≤ 1) w w'
  same : ∀ r, r < w.heap.size → ow' r = ow r
section
variable {ow ow' ow'' : Nat → Nat} {w w' w'' : World} {s N h : Nat} {W : Int} {es : List Ent} {vs : List Bs} {us : List Vw} {e : Ent}
theorem Chg.refl (ow : Nat → Nat) (w : World) : Chg ow ow w w := ⟨KeepsP.refl _ _, fun _ _ => rfl⟩
theorem Chg.trans (h : Chg ow ow' w w') (k : Chg ow' ow'' w' w'') : Chg ow ow'' w w'' :=
  ⟨⟨k.keep.os.trans h.keep.os, k.keep.tape.trans h.keep.tape, k.keep.output.trans h.keep.output, Nat.le_trans h.keep.size k.keep.size, fun r o hr ho => by
    have hlt := (Array.getElem?_eq_some_iff.1 ho).1
    exact k.keep.block r o (by show ow' r ≤ 1; rw [h.same r hlt]; exact hr) (h.keep.block r o hr ho)⟩,
   fun r hr => (k.same r (Nat.lt_of_lt_of_le hr h.keep.size)).trans (h.same r hr)⟩
theorem Chg.below (hb : Below w.heap.size w w') (ow : Nat → Nat) : Chg ow ow w w' := ⟨KeepsP.of_below hb, fun _ _ => rfl⟩
theorem HistAt.keep (h1 : HistAt ow w h vs us) (hk : KeepsP (fun r => ow r = h + 2) w w') (hs : ∀ r, r < w.heap.size → ow r ≠ 0 → ow' r = ow r) : HistAt ow' w' h vs us := by
  obtain ⟨h0, vv, ww, hb, hv, hw, o1, o2⟩ := h1
  have hlt := hb.lt
  have row : ∀ {α : Type} {k : St α} {t : TypeId} {v : Value} {xs : List α}, OwnL k t w 0 v xs → (∀ b, v.ownBlock = some b → ow b = h + 2) → OwnL k t w' 0 v xs := by
    intro α k t v xs ho hq
    refine ⟨ho.1, ?_⟩
    rcases ho.2 with h2 | ⟨g, cap, cur, rfl, hbg, hg, r⟩
    · exact .inl h2
    · exact .inr ⟨g, cap, cur, rfl, hbg, hk.block g _ (hq g rfl) hg, r⟩
  exact ⟨(hs h hlt (by omega)).trans h0, vv, ww, hk.block h _ h0 hb, row hv o1, row hw o2, fun b e => (hs b (OwnL.lt hv b e).2 (by rw [o1 b e]; omega)).trans (o1 b e), fun b e => (hs b (OwnL.lt hw b e).2 (by rw [o2 b e]; omega)).trans (o2 b e)⟩
theorem Bytes.keep (h1 : Bytes ow w vs us) (hk : KeepsP (fun r => ow r = 1) w w') (hs : ∀ r, r < w.heap.size → ow r ≠ 0 → ow' r = ow r) : Bytes ow' w' vs us := by
  have f : ∀ {x : Bs}, Rd (fun r => ow r = 1) w x → Rd (fun r => ow' r = 1) w' x := fun {x} hx =>
    (Rd.less (S' := fun r => ow' r = 1 ∧ ow r = 1) hx fun b hb hlt => ⟨(hs b hlt (by omega)).trans hb, hb⟩).keep (hk.less fun r hr => hr.2) |>.less fun b hb _ => hb.1
  exact ⟨fun x hx => f (h1.vs x hx), fun v hv => ⟨f (h1.us v hv).1, (h1.us v hv).2⟩⟩
theorem HistAt.lt (h1 : HistAt ow w h vs us) : h < w.heap.size := by
  obtain ⟨_, vv, ww, hb, _⟩ := h1
  exact hb.lt
theorem Sto.lt (H : Sto ow w s W N es) : s < w.heap.size := by
  obtain ⟨mv, hb, _⟩ := H.blk
  exact hb.lt
theorem Sto.ne (H : Sto ow w s W N es) (he : e ∈ es) : e.h ≠ s := fun h0 => by
  obtain ⟨mv, hb, _⟩ := H.blk
  obtain ⟨_, vv, ww, hb', _⟩ := H.hist e he
  rw [h0] at hb'
  unfold Blk at hb hb'
  rw [hb] at hb'
  simp at hb'
theorem Sto.keep (H : Sto ow w s W N es) (hk : KeepsP (fun r => ow r ≠ 0) w w') : Sto ow w' s W N es where
  own := H.own
  blk := by
    obtain ⟨mv, hb, hm⟩ := H.blk
    refine ⟨mv, hk.block s _ (by show ow s ≠ 0; rw [H.own]; omega) hb, hm.imp id fun ⟨b, e1, e2, e3⟩ => ⟨b, e1, e2, e3.same fun o ho => hk.block b _ (by show ow b ≠ 0; rw [e2]; omega) ho⟩⟩
  hist := fun e he => (H.hist e he).keep (hk.less fun r hr => by omega) (fun _ _ _ => rfl)
  bytes := fun e he => (H.bytes e he).keep (hk.less fun r hr => by omega) (fun _ _ _ => rfl)
  keys := H.keys
  apart := H.apart
  few := H.few
  len := H.len
  low := fun r hr => Nat.lt_of_lt_of_le (H.low r hr) hk.size
  wf := H.wf
theorem Sto.below (H : Sto ow w s W N es) (hb : Below w.heap.size w w') : Sto ow w' s W N es := H.keep (KeepsP.of_below hb)
theorem Sto.more (H : Sto ow w s W N es) {N' : Nat} (hN : N ≤ N') : Sto ow w s W N' es where
  own := H.own
  blk := by
    obtain ⟨mv, hb, hm⟩ := H.blk
    exact ⟨mv, hb, hm.imp id fun ⟨b, e1, e2, e3⟩ => ⟨b, e1, e2, e3.mono hN⟩⟩
  hist := H.hist
  bytes := H.bytes
  keys := H.keys
  apart := H.apart
  few := fun e he => ⟨Nat.le_trans (H.few e he).1 hN, Nat.le_trans (H.few e he).2.1 hN, (H.few e he).2.2⟩
  len := Nat.le_trans H.len hN
  low := H.low
  wf := ⟨H.wf.1, by have := H.wf.2; omega⟩
theorem Sto.label (H : Sto ow w s W N es) (hs : ∀ r, ow r ≠ 0 → ow' r = ow r) (hl : ∀ r, ow' r ≠ 0 → r < w.heap.size) : Sto ow' w s W N es where
  own := (hs s (by rw [H.own]; omega)).trans H.own
  blk := by
    obtain ⟨mv, hb, hm⟩ := H.blk
    exact ⟨mv, hb, hm.imp id fun ⟨b, e1, e2, e3⟩ => ⟨b, e1, (hs b (by rw [e2]; omega)).trans e2, e3⟩⟩
  hist := fun e he => (H.hist e he).keep (KeepsP.refl _ _) (fun r _ h => hs r h)
  bytes := fun e he => (H.bytes e he).keep (KeepsP.refl _ _) (fun r _ h => hs r h)
  keys := H.keys
  apart := H.apart
  few := H.few
  len := H.len
  low := hl
  wf := H.wf
theorem at_ne {i : Nat} (H : Sto ow w s W N es) (hi : es[i]? = some e) {j : Nat} {e' : Ent} (hj : es[j]? = some e') (hne : j ≠ i) : e'.h ≠ e.h := fun h0 => by
  have hli := (List.getElem?_eq_some_iff.1 hi).1
  have hlj := (List.getElem?_eq_some_iff.1 hj).1
  have h1 : (es.map (·.h))[i]? = some e.h := by rw [List.getElem?_map, hi]; rfl
  have h2 : (es.map (·.h))[j]? = some e'.h := by rw [List.getElem?_map, hj]; rfl
  have h3 := List.pairwise_iff_getElem.1 H.apart
  have li : i < (es.map (·.h)).length := by simpa using hli
  have lj : j < (es.map (·.h)).length := by simpa using hlj
  rw [List.getElem?_eq_getElem li] at h1
  rw [List.getElem?_eq_getElem lj] at h2
  injection h1 with h1
  injection h2 with h2
  rcases Nat.lt_or_ge i j with h | h
  · exact h3 i j li lj h (by rw [h1, h2, h0])
  · exact h3 j i lj li (by omega) (by rw [h1, h2, h0])
theorem Sto.upd (H : Sto ow w s W N es) {i : Nat} (hi : es[i]? = some e) (hk : KeepsP (fun r => ow r ≠ e.h + 2 ∧ r < w.heap.size) w w') (hs : ∀ r, r < w.heap.size → ow' r = ow r) (hl : ∀ r, ow' r ≠ 0 → r < w'.heap.size)
    (hh : HistAt ow' w' e.h vs us) (hb : Bytes ow' w' vs us) (hn : vs.length ≤ N ∧ us.length ≤ N) : Sto ow' w' s W N (es.set i { e with vs := vs, us := us }) ∧ Chg ow ow' w w' := by
  have hm := List.mem_of_getElem? hi
  have hil := (List.getElem?_eq_some_iff.1 hi).1
  have hne := H.ne hm
  have hk' : ∀ {S : Nat → Prop}, (∀ r, S r → r < w.heap.size → ow r ≠ e.h + 2) → KeepsP S w w' := fun {S} hS =>
    ⟨hk.os, hk.tape, hk.output, hk.size, fun r o hr ho => hk.block r o ⟨hS r hr (Array.getElem?_eq_some_iff.1 ho).1, (Array.getElem?_eq_some_iff.1 ho).1⟩ ho⟩
  have hmap : ∀ {γ : Type} (f : Ent → γ), f { e with vs := vs, us := us } = f e → (es.set i { e with vs := vs, us := us }).map f = es.map f := fun {γ} f hf => by
    rw [List.map_set, hf]
    apply List.ext_getElem?
    intro j
    rw [List.getElem?_set]
    split
    · rename_i h
      subst h
      rw [if_pos (by simpa using hil), List.getElem?_map, hi]
      rfl
    · rfl
  have hmem : ∀ x ∈ es.set i { e with vs := vs, us := us }, x = { e with vs := vs, us := us } ∨ (x ∈ es ∧ x.h ≠ e.h) := fun x hx => by
    obtain ⟨j, hj⟩ := List.getElem?_of_mem hx
    rw [List.getElem?_set] at hj
    split at hj
    · rename_i h
      subst h
      injection hj with hj
      exact .inl hj.symm
    · rename_i h
      exact .inr ⟨List.mem_of_getElem? hj, at_ne H hi hj (fun e => h e.symm)⟩
  refine ⟨⟨(hs s H.lt).trans H.own, ?_, fun x hx => ?_, fun x hx => ?_, by rw [hmap (·.k) rfl]; exact H.keys, by rw [hmap (·.h) rfl]; exact H.apart, fun x hx => ?_, by rw [List.length_set]; exact H.len, hl, H.wf⟩, hk' fun r hr _ => by omega, hs⟩
  · obtain ⟨mv, hbs, hmv⟩ := H.blk
    refine ⟨mv, hk.block s _ ⟨by rw [H.own]; omega, H.lt⟩ hbs, hmv.imp (fun h => ⟨h.1, by rw [h.2]; rfl⟩) fun ⟨b, e1, e2, e3⟩ => ⟨b, e1, (hs b e3.lt).trans e2, ?_⟩⟩
    rw [hmap (fun e => (e.k, some e.h)) rfl]
    exact e3.same fun o ho => hk.block b _ ⟨by rw [e2]; omega, e3.lt⟩ ho
  · rcases hmem x hx with rfl | ⟨hx, hne⟩
    · exact hh
    · exact (H.hist x hx).keep (hk' fun r hr _ => by omega) (fun r h _ => hs r h)
  · rcases hmem x hx with rfl | ⟨hx, _⟩
    · exact hb
    · exact (H.bytes x hx).keep (hk' fun r hr _ => by omega) (fun r h _ => hs r h)
  · rcases hmem x hx with rfl | ⟨hx, _⟩
    · exact ⟨hn.1, hn.2, (H.few e hm).2.2⟩
    · exact H.few x hx
theorem Sto.add (H : Sto ow w s W N es) {k : Nm} {b g : Nat} (hk : k.length ≤ maxLen) (hne : ∀ e ∈ es, e.k ≠ k) (hkp : KeepsP (fun r => ow r ≠ s + 2 ∧ r < w.heap.size) w w')
    (hb : Blk w' s 64 #[.map (some b), .int .i64 W]) (hM : MpS eP Try.prog 9 w' b (N + 1) ((es ++ [(⟨k, g, [], []⟩ : Ent)]).map fun e => (e.k, some e.h))) (hob : ow b = s + 2 ∨ w.heap.size ≤ b) (hg : Blk w' g 71 #[.slice none 0 0, .slice none 0 0]) (hgn : w.heap.size ≤ g) :
    ∃ ow', Sto ow' w' s W (N + 1) (es ++ [⟨k, g, [], []⟩]) ∧ Chg ow ow' w w' := by
  have hsl := H.lt
  have hfree : ∀ r, w.heap.size ≤ r → ow r = 0 := fun r hr => by
    rcases Nat.eq_zero_or_pos (ow r) with h | h
    · exact h
    · have := H.low r (by omega); omega
  have hbg : b ≠ g := fun e => by
    obtain ⟨es', clock, h1⟩ := hM.obj
    have hg' : w'.heap[g]? = some (.cells #[.slice none 0 0, .slice none 0 0] 71 (0, 0)) := hg
    rw [e, hg'] at h1
    cases h1
  have hsg : s ≠ g := by omega
  obtain ⟨ow', how⟩ : ∃ ow' : Nat → Nat, ow' = fun r => if r = g then g + 2 else if r = b then s + 2 else ow r := ⟨_, rfl⟩
  have og : ow' g = g + 2 := by rw [how]; exact if_pos rfl
  have ob : ow' b = s + 2 := by rw [how]; show (if _ then _ else _) = _; rw [if_neg hbg, if_pos rfl]
  have hold : ∀ r, r < w.heap.size → ow' r = ow r := fun r hr => by
    rw [how]
    show (if _ then _ else _) = _
    rw [if_neg (by omega)]
    split
    · rename_i e
      subst e
      rcases hob with h | h
      · exact h.symm
      · omega
    · rfl
  have hk' : ∀ {S : Nat → Prop}, (∀ r, S r → ow r ≠ s + 2) → KeepsP S w w' := fun {S} hS =>
    ⟨hkp.os, hkp.tape, hkp.output, hkp.size, fun r o hr ho => hkp.block r o ⟨hS r hr, (Array.getElem?_eq_some_iff.1 ho).1⟩ ho⟩
  refine ⟨ow', ⟨(hold s hsl).trans H.own, ⟨_, hb, .inr ⟨b, rfl, ob, hM⟩⟩, fun e he => ?_, fun e he => ?_, ?_, ?_, fun e he => ?_, by have := H.len; simp; omega, fun r hr => ?_, ⟨H.wf.1, by have := H.wf.2; omega⟩⟩, hk' fun r hr => by omega, hold⟩
  · rcases List.mem_append.1 he with he | he
    · have hnes := H.ne he
      exact (H.hist e he).keep (hk' fun r hr => by omega) (fun r h _ => hold r h)
    · rw [List.mem_singleton.1 he]
      exact ⟨og, _, _, hg, OwnL.nil _ _ _ _, OwnL.nil _ _ _ _, fun b e => (by cases e), fun b e => (by cases e)⟩
  · rcases List.mem_append.1 he with he | he
    · exact (H.bytes e he).keep (hk' fun r hr => by omega) (fun r h _ => hold r h)
    · rw [List.mem_singleton.1 he]
      exact ⟨by simp, by simp⟩
  · rw [List.map_append]
    exact List.nodup_append.2 ⟨H.keys, by simp, fun a ha c hc e => by
      obtain ⟨x, hx, rfl⟩ := List.mem_map.1 ha
      simp at hc
      exact hne x hx (e.trans hc)⟩
  · rw [List.map_append]
    exact List.nodup_append.2 ⟨H.apart, by simp, fun a ha c hc e => by
      obtain ⟨x, hx, rfl⟩ := List.mem_map.1 ha
      simp at hc
      have := (H.hist x hx).lt
      omega⟩
  · rcases List.mem_append.1 he with he | he
    · have := H.few e he
      exact ⟨by omega, by omega, this.2.2⟩
    · rw [List.mem_singleton.1 he]
      exact ⟨Nat.zero_le _, Nat.zero_le _, hk⟩
  · rw [how] at hr
    by_cases h1 : r = g
    · rw [h1]; exact hg.lt
    · by_cases h2 : r = b
      · rw [h2]; exact hM.lt
      · simp [h1, h2] at hr
        exact Nat.lt_of_lt_of_le (H.low r hr) hkp.size
end
section
variable {ow ow' : Nat → Nat} {w w' : World} {s N : Nat} {W : Int} {es : List Ent}
def Vw.p (v : Vw) : Vp := ⟨v.t, v.is, v.x.zs⟩
def Ent.p (e : Ent) : List UInt8 × Hp := (e.k, ⟨e.vs.map (·.zs), e.us.map Vw.p⟩)
def absL (es : List Ent) : Lp := es.map Ent.p
theorem abs_keys (es : List Ent) : keysP (absL es) = es.map (·.k) := by
  unfold keysP absL
  rw [List.map_map]
  rfl
theorem abs_set {i : Nat} {e e' : Ent} (hd : (es.map (·.k)).Nodup) (hi : es[i]? = some e) (hk : e'.k = e.k) {f : Hp → Hp} (hf : e'.p.2 = f e.p.2) : absL (es.set i e') = modP e.k f (absL es) := by
  unfold absL modP
  rw [List.map_map]
  apply List.ext_getElem?
  intro j
  rw [List.getElem?_map, List.getElem?_set, List.getElem?_map]
  have hil := (List.getElem?_eq_some_iff.1 hi).1
  by_cases hj : i = j
  · subst hj
    rw [if_pos rfl, if_pos hil, hi]
    show some e'.p = some (if e.k = e.k then _ else _)
    rw [if_pos rfl, ← hf]
    show some (e'.k, e'.p.2) = _
    rw [hk]
    rfl
  · rw [if_neg hj]
    cases hx : es[j]? with
    | none => rfl
    | some x =>
      have hjl := (List.getElem?_eq_some_iff.1 hx).1
      have hne : x.k ≠ e.k := fun h0 => by
        have h3 := List.pairwise_iff_getElem.1 hd
        have li : i < (es.map (·.k)).length := by simpa using hil
        have lj : j < (es.map (·.k)).length := by simpa using hjl
        have h1 : (es.map (·.k))[i]? = some e.k := by rw [List.getElem?_map, hi]; rfl
        have h2 : (es.map (·.k))[j]? = some x.k := by rw [List.getElem?_map, hx]; rfl
        rw [List.getElem?_eq_getElem li] at h1
        rw [List.getElem?_eq_getElem lj] at h2
        injection h1 with h1
        injection h2 with h2
        rcases Nat.lt_or_ge i j with h | h
        · exact h3 i j li lj h (by rw [h1, h2, h0])
        · exact h3 j i lj li (by omega) (by rw [h1, h2, h0])
      show some x.p = some (if x.k = e.k then _ else _)
      rw [if_neg hne]
theorem abs_app (es fs : List Ent) : absL (es ++ fs) = absL es ++ absL fs := List.map_append
theorem abs_mem {e : Ent} (he : e ∈ es) : e.p ∈ absL es := List.mem_map.2 ⟨e, he, rfl⟩
theorem Sto.ent (H : Sto ow w s W N es) {e : Ent} (he : e ∈ es) : entP (absL es) e.k = some e.p.2 := ent_at (L := absL es) (by rw [abs_keys]; exact H.keys) (abs_mem he)
theorem ent_no {k : Nm} (h : ∀ e ∈ es, e.k ≠ k) : entP (absL es) k = none := ent_none.2 (by
  rw [abs_keys, List.mem_map]
  rintro ⟨e, he, h0⟩
  exact h e he h0)
theorem Sto.turn {mv : Value} {W' : Int} (H : Sto ow w s W N es) (hb0 : Blk w s 64 #[mv, .int .i64 W]) (hg : w.grownBy w' (some s)) (hb : Blk w' s 64 #[mv, .int .i64 W']) (hW : 0 ≤ W' ∧ W' ≤ N) : Sto ow w' s W' N es ∧ Chg ow ow w w' := by
  have hk : ∀ {S : Nat → Prop}, (∀ r, S r → r ≠ s) → KeepsP S w w' := fun {S} hS => KeepsP.of_grown hg fun r e hr => by cases e; exact hS _ hr rfl
  refine ⟨⟨H.own, ?_, fun e he => ?_, fun e he => ?_, H.keys, H.apart, H.few, H.len, fun r hr => Nat.lt_of_lt_of_le (H.low r hr) hg.size, hW⟩, hk fun r hr e => by subst e; have := H.own; omega, fun _ _ => rfl⟩
  · obtain ⟨mv', hb1, hm⟩ := H.blk
    have e : mv' = mv := by
      have h1 : w.heap[s]? = some (.cells #[mv', .int .i64 W] 64 (0, 0)) := hb1
      have h2 : w.heap[s]? = some (.cells #[mv, .int .i64 W] 64 (0, 0)) := hb0
      rw [h1] at h2
      simpa using h2
    subst e
    refine ⟨mv', hb, hm.imp id fun ⟨b, e1, e2, e3⟩ => ⟨b, e1, e2, e3.kept hg fun e => ?_⟩⟩
    injection e with e
    subst e
    obtain ⟨es', clock, h1⟩ := e3.obj
    have h2 : w.heap[b]? = some (.cells #[mv', .int .i64 W] 64 (0, 0)) := hb1
    rw [h1] at h2
    cases h2
  · have := H.ne he
    exact (H.hist e he).keep (hk fun r hr e1 => by subst e1; have := H.own; omega) (fun _ _ _ => rfl)
  · exact (H.bytes e he).keep (hk fun r hr e1 => by subst e1; have := H.own; omega) (fun _ _ _ => rfl)
theorem Sto.take (H : Sto ow w s W N es) (hb : Below w.heap.size w w') {y : Bs} (hy : Rd (fun b => w.heap.size ≤ b) w' y) : ∃ ow', Sto ow' w' s W N es ∧ Chg ow ow' w w' ∧ Rd (fun r => ow' r = 1) w' y := by
  obtain ⟨yb, hyb⟩ : ∃ yb : Option Nat, yb = if y.n = 0 then none else y.A.map (·.block) := ⟨_, rfl⟩
  have h1 : ∀ r, yb = some r → w.heap.size ≤ r ∧ r < w'.heap.size := fun r e => by
    rw [e] at hyb
    split at hyb
    · cases hyb
    · rename_i hn
      obtain ⟨b, off, e1, hlt, _⟩ := hy.1.2.2 (by omega)
      rw [e1] at hyb
      simp at hyb
      exact ⟨by rw [hyb]; exact hy.2.2 b off none e1 (by omega), by rw [hyb]; exact hlt⟩
  have hold : ∀ r, ow r ≠ 0 → (if yb = some r then 1 else ow r) = ow r := fun r hr => by
    rw [if_neg]
    intro e
    have := (h1 r e).1
    have := H.low r hr
    omega
  refine ⟨fun r => if yb = some r then 1 else ow r, (H.below hb).label hold (fun r hr => ?_), ⟨KeepsP.of_below hb, fun r hr => ?_⟩, hy.1, hy.2.1, fun b off p e hn => ?_⟩
  · by_cases e : yb = some r
    · exact (h1 r e).2
    · simp [e] at hr
      exact Nat.lt_of_lt_of_le (H.low r hr) hb.size
  · show (if _ then _ else _) = _
    rw [if_neg]
    intro e
    have := (h1 r e).1
    omega
  · show (if _ then _ else _) = _
    rw [if_pos]
    rw [hyb, if_neg (by omega), e]
    rfl
theorem Chg.rd (h : Chg ow ow' w w') (hl : ∀ r, ow r ≠ 0 → r < w.heap.size) {y : Bs} (hy : Rd (fun r => ow r = 1) w y) : Rd (fun r => ow' r = 1) w' y :=
  (hy.keep (h.keep.less fun r hr => by omega)).less (S' := fun r => ow' r = 1) fun b hb _ => by rw [h.same b (hl b (by omega))]; exact hb
theorem Sto.push {w1 w2 w3 : World} (H : Sto ow w s W N es) {i : Nat} {e : Ent} (hi : es[i]? = some e) {y : Bs} (hy : Rd (fun r => ow r = 1) w y) {vv ww v' : Value} (hb : Blk w e.h 71 #[vv, ww]) (hv : OwnL kB 31 w 0 vv e.vs) (hw : OwnL kV 73 w 0 ww e.us)
    (ho1 : ∀ b, vv.ownBlock = some b → ow b = e.h + 2) (ho2 : ∀ b, ww.ownBlock = some b → ow b = e.h + 2) (g1 : w.grownBy w1 none) (o2 : OwnL kB 31 w2 0 v' (e.vs ++ [y])) (g2 : w1.grownBy w2 vv.ownBlock) (n2 : v'.ownBlock = vv.ownBlock ∨ v'.ownBlock = some w1.heap.size)
    (q3 : Blk w3 e.h 71 #[v', ww]) (g3 : w2.grownBy w3 (some e.h)) : ∃ ow', Sto ow' w3 s W (N + 1) (es.set i { e with vs := e.vs ++ [y] }) ∧ Chg ow ow' w w3 := by
  have hm := List.mem_of_getElem? hi
  have hf := H.few e hm
  have hoh : ow e.h = e.h + 2 := (H.hist e hm).1
  have hsz := Nat.le_trans g1.size (Nat.le_trans g2.size g3.size)
  have KP : KeepsP (fun r => ow r ≠ e.h + 2 ∧ r < w.heap.size) w w3 := (KeepsP.of_grown g1 (fun r e => by cases e)).trans ((KeepsP.of_grown g2 (fun r e' hr => hr.1 (ho1 r e'))).trans (KeepsP.of_grown g3 (fun r e' hr => by cases e'; exact hr.1 hoh)))
  have hk1 : KeepsP (fun r => ow r = 1) w w3 := ⟨KP.os, KP.tape, KP.output, KP.size, fun r o hr ho => KP.block r o ⟨by have h0 : ow r = 1 := hr; omega, (Array.getElem?_eq_some_iff.1 ho).1⟩ ho⟩
  have hh2 : Blk w2 e.h 71 #[vv, ww] := (Blk.grown hb g1 (by simp)).grown g2 (fun e' => OwnL.ne_blk hv hb (by decide) e'.symm)
  have o3 : OwnL kB 31 w3 0 v' (e.vs ++ [y]) := OwnL.kept o2 g3 (.inr fun e' => OwnL.ne_blk o2 hh2 (by decide) e')
  have hw1 : OwnL kV 73 w1 0 ww e.us := OwnL.kept hw g1 (by cases ww.ownBlock <;> simp)
  have hv1 : OwnL kB 31 w1 0 vv e.vs := OwnL.kept hv g1 (by cases vv.ownBlock <;> simp)
  have hw2 : OwnL kV 73 w2 0 ww e.us := OwnL.kept hw1 g2 (by
    cases e0 : ww.ownBlock with
    | none => exact .inl rfl
    | some g =>
      refine .inr fun e' => ?_
      rcases hw1.2 with ⟨rfl, _⟩ | ⟨g', cap, cur, rfl, _, hg, _⟩
      · cases e0
      · rcases hv1.2 with ⟨rfl, _⟩ | ⟨g2', cap2, cur2, rfl, _, hg2, _⟩
        · cases e'
        · have e1 : some g' = some g := e0
          have e2 : some g = some g2' := e'
          injection e1 with e1
          injection e2 with e2
          subst e1
          subst e2
          rw [hg] at hg2
          cases hg2)
  have hw3 : OwnL kV 73 w3 0 ww e.us := OwnL.kept hw2 g3 (.inr fun e' => OwnL.ne_blk hw2 hh2 (by decide) e')
  have key : ∀ r, v'.ownBlock = some r → ow r = e.h + 2 ∨ (w.heap.size ≤ r ∧ r < w3.heap.size) := fun r e' => by
    rcases n2 with n2 | n2
    · exact .inl (ho1 r (n2 ▸ e'))
    · rw [n2] at e'
      injection e' with e'
      subst e'
      exact .inr ⟨g1.size, (OwnL.lt o3 _ n2).2⟩
  obtain ⟨ow', how⟩ : ∃ ow' : Nat → Nat, ow' = fun r => if v'.ownBlock = some r then e.h + 2 else ow r := ⟨_, rfl⟩
  have hold : ∀ r, r < w.heap.size → ow' r = ow r := fun r hr => by
    rw [how]
    show (if _ then _ else _) = _
    split
    · rename_i e'
      rcases key r e' with h0 | h0
      · exact h0.symm
      · omega
    · rfl
  have hin : ∀ r, ow r = e.h + 2 → ow' r = e.h + 2 := fun r h => by
    rw [how]
    show (if _ then _ else _) = _
    split
    · rfl
    · exact h
  refine ⟨ow', (H.more (Nat.le_succ N)).upd hi KP hold (fun r hr => ?_) ⟨hin _ hoh, v', ww, q3, o3, hw3, fun b e' => by rw [how]; exact if_pos e', fun b e' => hin _ (ho2 b e')⟩ ?_ ⟨by simp; omega, by omega⟩⟩
  · rw [how] at hr
    by_cases e' : v'.ownBlock = some r
    · rcases key r e' with h0 | h0
      · exact Nat.lt_of_lt_of_le (H.low r (by omega)) hsz
      · exact h0.2
    · simp [e'] at hr
      exact Nat.lt_of_lt_of_le (H.low r hr) hsz
  · have hbt := (H.bytes e hm).keep hk1 (fun r h _ => hold r h)
    have hy3 : Rd (fun r => ow' r = 1) w3 y := (hy.keep hk1).less (S' := fun r => ow' r = 1) fun b hb' _ => by rw [hold b (H.low b (by omega))]; exact hb'
    refine ⟨fun x hx => ?_, hbt.us⟩
    rcases List.mem_append.1 hx with hx | hx
    · exact hbt.vs x hx
    · rw [List.mem_singleton.1 hx]; exact hy3
end
end Go.Proofs.Ytbippmbcgkicaaa.Sto
