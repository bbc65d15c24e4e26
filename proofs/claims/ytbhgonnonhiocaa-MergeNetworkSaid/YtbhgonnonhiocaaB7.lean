/-
  Lists of structs in memory, of any kind whose fields are one cell each: what they read as, literals, appends, stores: no program here.
  More of lists of structs in memory: made (zeros), copied: no program here.
  More steps of a region: a nil check passed, one cell or one struct stored into a block that is known whole, some numbers copied to its head: no program here.
  More steps of a region: a struct allocated, a list of structs built: no program here.
  One struct stored into a list whose block is known whole: no program here.
  Package merge's leads and settle by their contracts: which of two records stands ahead by either order; two neighbours of a list of the call's own.
  Lists of structs in a block that is filled step by step; append within the room: no program here.
  Appending a list of structs of any length, none among them, onto a list of the call's own; the library's slices.Clone and slices.Grow of records, by their contracts.
-/
import Derived.Test.YtbhgonnonhiocaaB2
import Derived.OwnWalk
import Derived.Deep.MidRow
import Derived.Maps.AppendAt
import Derived.Lib.BufferOwn
import Derived.Great.BuildSlice
import Derived.Great.FillDense
import Derived.Laws.CopyOwn
import Derived.Test.YtbhgonnonhiocaaB5
import Derived.Test.YtbhgonnonhiocaaB6
import Derived.Test.YtbhgonnonhiocaaB4
import Derived.Lib.LazyBuf
set_option linter.unusedVariables false
namespace Go.Proofs.Ytbhgonnonhiocaa.Sl
open Go.RowKit Go.Shelf Mem Held
structure St (α : Type) where
  s : Nat
  cells : α → List Value
  wf : α → Prop
  d : α
  len : ∀ x, (cells x).length = s
  one : ∀ x, ∀ u ∈ cells x, u.oneCell' = true
  pos : 0 < s
section
variable {α : Type} {k : St α}
def flat (k : St α) (xs : List α) : List Value := xs.flatMap k.cells
theorem flat_length (k : St α) : ∀ xs : List α, (flat k xs).length = xs.length * k.s
  | [] => by simp [flat]
  | x :: xs => by
    have := flat_length k xs
    simp only [flat, List.flatMap_cons, List.length_append, List.length_cons, k.len] at this ⊢
    rw [this, Nat.add_mul, Nat.one_mul, Nat.add_comm]
theorem flat_append (xs ys : List α) : flat k (xs ++ ys) = flat k xs ++ flat k ys := by simp [flat]
theorem flat_at : ∀ (xs : List α) (i j : Nat), j < k.s → i < xs.length → (flat k xs)[i * k.s + j]? = (k.cells (xs.getD i k.d))[j]?
  | [], i, j, _, h => absurd h (by simp)
  | x :: xs, 0, j, hj, _ => by
    simp only [flat, List.flatMap_cons, Nat.zero_mul, Nat.zero_add, List.getD_cons_zero]
    rw [List.getElem?_append_left (by rw [k.len]; exact hj)]
  | x :: xs, i + 1, j, hj, h => by
    have := flat_at xs i j hj (by simpa using h)
    simp only [flat, List.flatMap_cons, List.getD_cons_succ] at this ⊢
    have hm : (i + 1) * k.s + j = k.s + (i * k.s + j) := by rw [Nat.add_mul, Nat.one_mul]; omega
    rw [List.getElem?_append_right (by rw [k.len]; omega), k.len, hm, Nat.add_sub_cancel_left, this]
theorem flat_cell (xs : List α) : ∀ u ∈ flat k xs, u.oneCell' = true := fun u hu => by
  obtain ⟨x, _, h⟩ := List.mem_flatMap.1 hu
  exact k.one x u h
theorem flat_take (xs : List α) (i : Nat) (h : i ≤ xs.length) : (flat k xs).take (i * k.s) = flat k (xs.take i) := by
  have e : flat k xs = flat k (xs.take i) ++ flat k (xs.drop i) := by rw [← flat_append, List.take_append_drop]
  rw [e, List.take_left' (by rw [flat_length, List.length_take, Nat.min_eq_left h])]
theorem flat_drop (xs : List α) (i : Nat) (h : i ≤ xs.length) : (flat k xs).drop (i * k.s) = flat k (xs.drop i) := by
  have e : flat k xs = flat k (xs.take i) ++ flat k (xs.drop i) := by rw [← flat_append, List.take_append_drop]
  rw [e, List.drop_left' (by rw [flat_length, List.length_take, Nat.min_eq_left h])]
theorem flat_set (xs : List α) (i : Nat) (x : α) (h : i < xs.length) : flat k (xs.set i x) = (flat k xs).take (i * k.s) ++ k.cells x ++ (flat k xs).drop (i * k.s + k.s) := by
  rw [List.set_eq_take_append_cons_drop, if_pos h, flat_take xs i (by omega), show i * k.s + k.s = (i + 1) * k.s by rw [Nat.add_mul, Nat.one_mul], flat_drop xs (i + 1) (by omega)]
  simp [flat]
def Lst (k : St α) (w : World) (B : Nat) (A : Option Addr) (n : Nat) (xs : List α) : Prop :=
  xs.length = n ∧ (∀ x ∈ xs, k.wf x) ∧ (0 < n → ∃ b off, A = some ⟨b, off, none⟩ ∧ b < B ∧ w.rangeAt b off (flat k xs))
variable {w w' : World} {B B' n : Nat} {A : Option Addr} {xs : List α}
theorem Lst.nil (k : St α) (w : World) (B : Nat) (A : Option Addr) : Lst k w B A 0 [] := ⟨rfl, by simp, fun h => absurd h (by omega)⟩
theorem Lst.keep (h : Lst k w B A n xs) (hk : ∀ p : Addr, p.block < B → w'.cell? p = w.cell? p) : Lst k w' B A n xs :=
  ⟨h.1, h.2.1, fun hn => by
    obtain ⟨b, off, e, hb, hc⟩ := h.2.2 hn
    exact ⟨b, off, e, hb, fun j v hv => (hk ⟨b, off + j, none⟩ hb).trans (hc j v hv)⟩⟩
theorem Lst.more (h : Lst k w B A n xs) (hB : B ≤ B') : Lst k w B' A n xs :=
  ⟨h.1, h.2.1, fun hn => by
    obtain ⟨b, off, e, hb, hc⟩ := h.2.2 hn
    exact ⟨b, off, e, by omega, hc⟩⟩
theorem Lst.below (h : Lst k w B A n xs) (hb : Below B w w') : Lst k w' B A n xs := h.keep fun _ hp => hb.cell hp
theorem Lst.at_ (h : Lst k w B A n xs) {i : Nat} (hi : i < n) : ∃ b off, A = some ⟨b, off, none⟩ ∧ b < B ∧ w.rangeAt b (off + i * k.s) (k.cells (xs.getD i k.d)) := by
  obtain ⟨b, off, e, hb, hc⟩ := h.2.2 (by omega)
  refine ⟨b, off, e, hb, fun j v hv => ?_⟩
  have hj : j < k.s := by have := (List.getElem?_eq_some_iff.1 hv).1; rwa [k.len] at this
  rw [Nat.add_assoc]
  exact hc (i * k.s + j) v (by rw [flat_at xs i j hj (by rw [h.1]; exact hi)]; exact hv)
theorem lst_of_blk {g : Nat} {t : TypeId} {ys : List α} (h : Blk w g t (flat k (xs ++ ys)).toArray) (hw : ∀ x ∈ xs, k.wf x) : Lst k w w.heap.size (some ⟨g, 0, none⟩) xs.length xs :=
  ⟨rfl, hw, fun _ => ⟨g, 0, rfl, h.lt, fun j v hv => by
    rw [Nat.zero_add]
    refine h.cell ?_
    rw [List.getElem?_toArray, flat_append, List.getElem?_append_left (List.getElem?_eq_some_iff.1 hv).1]
    exact hv⟩⟩
theorem lst_whole {g : Nat} {t : TypeId} (h : Blk w g t (flat k xs).toArray) (hn : xs.length = n) (hw : ∀ x ∈ xs, k.wf x) : Lst k w w.heap.size (some ⟨g, 0, none⟩) n xs := by
  subst hn
  exact lst_of_blk (ys := []) (by rw [List.append_nil]; exact h) hw
def OwnL (k : St α) (t : TypeId) (w : World) (base : Nat) (v : Value) (xs : List α) : Prop := w.ownsRow base t k.s v xs.length (flat k xs)
variable {t : TypeId} {base : Nat} {v : Value}
theorem OwnL.nil (k : St α) (t : TypeId) (w : World) (base : Nat) : OwnL k t w base (.slice none 0 0) [] := ⟨by simp [flat], .inl ⟨rfl, rfl⟩⟩
theorem OwnL.form (h : OwnL k t w base v xs) : ∃ A c, v = .slice A xs.length c ∧ xs.length ≤ c ∧ c ≤ maxLen := Held.row_form h
theorem OwnL.form2 (h : OwnL k t w base v xs) : ∃ A n c, v = .slice A n c ∧ Hid (xs.length = n) ∧ n ≤ c ∧ c ≤ maxLen := by
  obtain ⟨A, c, e, h1, h2⟩ := h.form
  exact ⟨A, _, c, e, Lib.hid rfl, h1, h2⟩
theorem OwnL.ne_blk (h : OwnL k t w base v xs) {g : Nat} {t' : TypeId} {cs : Array Value} (hb : Blk w g t' cs) (ht : t ≠ t') : v.ownBlock ≠ some g := fun e => by
  rcases h.2 with ⟨rfl, _⟩ | ⟨g', cap, cur, rfl, _, hg, _⟩
  · cases e
  · have e : some g' = some g := e
    injection e with e
    subst e
    have hb : w.heap[g']? = some (.cells cs t' (0, 0)) := hb
    rw [hg] at hb
    injection hb with hb
    injection hb with _ hb
    exact ht hb
theorem OwnL.kept (h : OwnL k t w base v xs) {row : Option Nat} (hg : w.grownBy w' row) (hne : v.ownBlock = none ∨ v.ownBlock ≠ row) : OwnL k t w' base v xs := World.ownsRow.kept h hg hne
theorem OwnL.below (h : OwnL k t w base v xs) (hb : Below w.heap.size w w') : OwnL k t w' base v xs := h.kept (grown_of_below hb none) (by cases v.ownBlock <;> simp)
theorem OwnL.lt (h : OwnL k t w base v xs) : ∀ b, v.ownBlock = some b → base ≤ b ∧ b < w.heap.size := World.ownsRow.lt h
theorem OwnL.less (h : OwnL k t w base v xs) {b : Nat} (hb : b ≤ base) : OwnL k t w b v xs := by
  refine ⟨h.1, ?_⟩
  rcases h.2 with h0 | ⟨g, cap, cur, e, hg, rest⟩
  · exact .inl h0
  · exact .inr ⟨g, cap, cur, e, Nat.le_trans hb hg, rest⟩
theorem OwnL.lst {c : Nat} (h : OwnL k t w base (.slice A n c) xs) (hw : ∀ x ∈ xs, k.wf x) : Lst k w w.heap.size A n xs := by
  rcases h.2 with ⟨e, hn⟩ | ⟨g, cap, cur, e, hb, hg, hnc, hcm, hcs, ht⟩
  · injection e with e1 e2 e3
    subst e1
    subst e2
    have : xs = [] := List.eq_nil_of_length_eq_zero hn
    subst this
    exact Lst.nil _ _ _ _
  · injection e with e1 e2 e3
    subst e1
    subst e2
    refine ⟨rfl, hw, fun _ => ⟨g, 0, rfl, (Array.getElem?_eq_some_iff.1 hg).1, fun j v hv => ?_⟩⟩
    rw [Nat.zero_add, cell_of_row w g j _ _ (0, 0) hg]
    have hj := (List.getElem?_eq_some_iff.1 hv).1
    rw [flat_length] at hj
    have := congrArg (fun l => l[j]?) ht
    simp only [List.getElem?_take, hj, if_true] at this
    rw [← hv, ← this]
    simp
theorem own_of_blk {g : Nat} (h : Blk w g t (flat k xs).toArray) (hb : base ≤ g) (hm : xs.length ≤ maxLen) : OwnL k t w base (.slice (some ⟨g, 0, none⟩) xs.length xs.length) xs :=
  ⟨flat_length k xs, .inr ⟨g, xs.length, _, rfl, hb, h, Nat.le_refl _, hm, by simp [flat_length], by rw [List.take_of_length_le (by simp [flat_length])]⟩⟩
end
section
variable {α : Type} {k : St α} {P : Program} {ops : Array Oper} {rest : List Oper} {o : Oper} {a : Act} {w : World} {Q : Exit → Act → World → Prop}
theorem wpList_append_lst (hgd : o.guard = none) (s x : Operand) (ts e : TypeId) (ho : o.op = .call { callee := .builtin .append, args := #[s, x], argTypes := #[ts, ts] }) (hu : P.underlying ts = some (.slice e)) (z : Value) (bytes : Nat) (hinfo : (P.info? e).map (fun i => (i.zero, i.size, i.bytes)) = some (some z, k.s, bytes)) (hz : z.cells.size = k.s)
    (base B g off m c : Nat) (v : Value) (xs ys : List α) (hs : a.eval s = v) (hx : a.eval x = .slice (some ⟨g, off, none⟩) m c) (hown : OwnL k e w base v xs) (hq : Lst k w B (some ⟨g, off, none⟩) m ys) (hm : xs.length + m ≤ 1048576) (hby : bytes ≤ 1048576) (hbase : base ≤ w.heap.size)
    (h : ∀ v' w', OwnL k e w' base v' (xs ++ ys) → w.grownBy w' v.ownBlock → (v'.ownBlock = v.ownBlock ∨ v'.ownBlock = some w.heap.size) → wpList P ops Q rest (a.put o.dst v') w') : wpList P ops Q (o :: rest) a w := by
  obtain ⟨ie, hie, hz0, hsz, hb⟩ := info_parts hinfo
  have hcells : ∀ j u, (flat k ys)[j]? = some u → w.cell? ((Addr.mk g off none).add j) = some u := fun j u hu => by
    have hj := (List.getElem?_eq_some_iff.1 hu).1
    have hm0 : 0 < m := by
      rcases Nat.eq_zero_or_pos m with h0 | h0
      · have : ys = [] := List.eq_nil_of_length_eq_zero (by rw [hq.1, h0])
        rw [this] at hj
        simp [flat] at hj
      · exact h0
    obtain ⟨b, off', e, _, hc⟩ := hq.2.2 hm0
    injection e with e
    injection e with e1 e2
    subst e1
    subst e2
    rw [show (Addr.mk g off none).add j = ⟨g, off + j, none⟩ by (unfold Addr.add; split <;> simp_all)]
    exact hc j u hu
  refine wpList_append_own_at w hgd s x ts ho base e ie _ k.s bytes hu hie hz0 hsz hb hz k.pos v xs.length (flat k xs) hs hown ⟨g, off, none⟩ m c (flat k ys) hx (by rw [flat_length, hq.1]) hcells (flat_cell ys) (by unfold maxLen; omega)
    (Nat.le_trans (Nat.mul_le_mul hm hby) (by omega)) hbase ?_
  intro v' w' h1 h2 _ h4
  refine h v' w' ?_ h2 h4
  unfold OwnL
  rw [flat_append, List.length_append, hq.1]
  exact h1
theorem heap_setCells {g : Nat} {t : TypeId} : ∀ (vs : List Value) (q : Nat) (w : World) (cur : Array Value), w.heap[g]? = some (.cells cur t (0, 0)) → q + vs.length ≤ cur.size →
    ∃ cur', (w.setCells g q vs).heap[g]? = some (.cells cur' t (0, 0)) ∧ cur'.size = cur.size ∧ cur'.toList = cur.toList.take q ++ vs ++ cur.toList.drop (q + vs.length)
  | [], q, w, cur, h, _ => ⟨cur, h, rfl, by simp⟩
  | v :: r, q, w, cur, h, hl => by
    have hl' : q < cur.toList.length := by simp at hl ⊢; omega
    have hb : Blk (w.setCell ⟨g, q, none⟩ v) g t (cur.setIfInBounds q v) := Blk.set (w := w) (cs := cur) h q v
    obtain ⟨cur', h1, h2, h3⟩ := heap_setCells r (q + 1) (w.setCell ⟨g, q, none⟩ v) (cur.setIfInBounds q v) hb (by simp at hl ⊢; omega)
    refine ⟨cur', h1, by rw [h2]; simp, ?_⟩
    rw [h3]
    have e : (cur.setIfInBounds q v).toList = cur.toList.take q ++ v :: cur.toList.drop (q + 1) := by
      rw [Array.toList_setIfInBounds, List.set_eq_take_append_cons_drop, if_pos hl']
    have hq : (cur.toList.take q).length = q := by rw [List.length_take]; omega
    rw [e, List.take_append, hq, List.take_of_length_le (by omega), show q + 1 - q = 1 by omega, List.take_succ_cons, List.take_zero, List.drop_append, hq, List.drop_of_length_le (by omega), show q + 1 + r.length - q = r.length + 1 by omega, List.drop_succ_cons, List.drop_drop, List.nil_append, List.append_assoc, List.append_assoc]
    simp only [List.cons_append, List.nil_append, List.length_cons, List.append_assoc]
    rw [show q + 1 + r.length = q + (r.length + 1) by omega]
theorem grown_setCells (g : Nat) : ∀ (vs : List Value) (q : Nat) (w : World), w.grownBy (w.setCells g q vs) (some g)
  | [], _, w => World.grownBy.refl w _
  | v :: r, q, w => Lib.grownBy_trans (grown_setCell w g q v) (grown_setCells g r (q + 1) _)
theorem wpList_store_lst (hgd : o.guard = none) (e : TypeId) (x y : Operand) (ho : o.op = .store e x y) (hsz : (P.info? e).map (·.size) = some k.s) (base g n cap i : Nat) (xs : List α) (f : α) (hx : a.eval x = .pointer (some ⟨g, i * k.s, none⟩)) (hy : a.eval y = .agg (k.cells f).toArray)
    (hown : OwnL k e w base (.slice (some ⟨g, 0, none⟩) n cap) xs) (hi : i < xs.length)
    (h : ∀ w', OwnL k e w' base (.slice (some ⟨g, 0, none⟩) n cap) (xs.set i f) → w.grownBy w' (some g) → wpList P ops Q rest (a.put o.dst undef) w') : wpList P ops Q (o :: rest) a w := by
  rcases hown.2 with ⟨e', _⟩ | ⟨g', cap', cur, e', hb, hg, hnc, hcm, hcs, ht⟩
  · cases e'
  · injection e' with e1 e2 e3
    injection e1 with e1
    injection e1 with e1
    subst e1
    subst e3
    have hle : (i + 1) * k.s ≤ cap * k.s := Nat.mul_le_mul_right _ (by omega)
    have hle2 : (i + 1) * k.s ≤ xs.length * k.s := Nat.mul_le_mul_right _ (by omega)
    rw [Nat.add_mul, Nat.one_mul] at hle hle2
    have hth : w.there g (i * k.s) (k.cells f).toArray.size := fun j hj => by
      have hj' : j < k.s := by rw [List.size_toArray, k.len] at hj; exact hj
      refine ⟨?_, by simp [World.frozen?, hg]⟩
      rw [cell_of_row w g _ _ _ (0, 0) hg, Array.getElem?_eq_getElem (by omega)]
      rfl
    obtain ⟨cur', h1, h2, h3⟩ := heap_setCells (k.cells f) (i * k.s) w cur hg (by rw [k.len]; omega)
    refine wpList_store_mid hgd e x y ho g (i * k.s) (k.cells f).toArray hx hy hth (by rw [hsz, List.size_toArray, k.len]) (all_oneCell_toArray (k.one f)) (h _ ?_ (grown_setCells g _ _ _))
    refine ⟨flat_length k _, .inr ⟨g, cap, cur', by rw [List.length_set]; exact congrArg (fun n => Value.slice (some ⟨g, 0, none⟩) n cap) e2, hb, h1, by rw [List.length_set]; exact hnc, hcm, by rw [h2, hcs], ?_⟩⟩
    rw [List.length_set, h3, flat_set xs i f hi, ← ht, k.len]
    have hcl : cur.toList.length = cap * k.s := by simpa using hcs
    have hl : xs.length * k.s ≤ cur.toList.length := by rw [hcl]; exact Nat.mul_le_mul_right _ hnc
    apply List.ext_getElem?
    intro j
    have hc0 : (k.cells f).length = k.s := k.len f
    have ha : (cur.toList.take (i * k.s)).length = i * k.s := by rw [List.length_take]; omega
    have ha2 : ((cur.toList.take (xs.length * k.s)).take (i * k.s)).length = i * k.s := by rw [List.length_take, List.length_take]; omega
    rw [List.getElem?_take]
    simp only [List.append_assoc, List.getElem?_append, ha, ha2, hc0, List.getElem?_take, List.getElem?_drop]
    by_cases hj : j < xs.length * k.s
    · rw [if_pos hj]
      by_cases h4 : j < i * k.s
      · rw [if_pos h4, if_pos h4, if_pos h4, if_pos h4, if_pos hj]
      · rw [if_neg h4, if_neg h4]
        by_cases h5 : j - i * k.s < k.s
        · rw [if_pos h5, if_pos h5]
        · rw [if_neg h5, if_neg h5, if_pos (by omega)]
    · rw [if_neg hj, if_neg (by omega), if_neg (by omega), if_neg (by omega)]
end
end Go.Proofs.Ytbhgonnonhiocaa.Sl
namespace Go.Proofs.Ytbhgonnonhiocaa.Sl
open Go.RowKit Go.Shelf Mem Held
section
variable {α : Type} {k : St α}
theorem lst_take {w : World} {B n : Nat} {A : Option Addr} {xs : List α} (h : Lst k w B A n xs) (m : Nat) (hm : m ≤ n) : Lst k w B A m (xs.take m) := by
  refine ⟨by rw [List.length_take, h.1]; omega, fun x hx => h.2.1 x (List.mem_of_mem_take hx), fun h0 => ?_⟩
  obtain ⟨b, off, e, hb, hc⟩ := h.2.2 (by omega)
  refine ⟨b, off, e, hb, fun j v hv => hc j v ?_⟩
  have e2 := flat_take (k := k) xs m (by rw [h.1]; exact hm)
  rw [← e2, List.getElem?_take] at hv
  split at hv
  · exact hv
  · cases hv
end
section
variable {α : Type} {k : St α} {P : Program} {ops : Array Oper} {rest : List Oper} {o : Oper} {a : Act} {w : World} {Q : Exit → Act → World → Prop}
end
theorem run_front_s {P : Program} {t e : TypeId} (sz : Nat) (ht : P.underlying t = some (.slice e)) (hs : (P.info? e).map (·.size) = some sz) (g off n cap : Nat) {h : Nat} (hh : h ≤ cap) (w : World) :
    (Instr.sliceAt t (.slice (some ⟨g, off, none⟩) n cap) none (some (.int .i64 (h : Int))) none).run P w = .ok (.slice (some ⟨g, off, none⟩) h cap) w := by
  have he : P.elem t = e := by simp [Program.elem, ht]
  have ht' : P.underlying t = some (.slice (P.elem t)) := by rw [he]; exact ht
  obtain ⟨inf, hi, h1⟩ := Option.map_eq_some_iff.1 hs
  have hz : (sizeOf e).run P w = .ok sz w := by simp [sizeOf, typeInfo, hi, h1]
  rw [run_sliceAt_slice w t _ _ _ _ ht', run_slice_h w t _ n cap ht' .i64 _ (by omega) (by omega), he, hz]
  simp only [Result.andThen, sliced, Nat.sub_zero, Int.toNat_natCast, Nat.zero_mul]
  congr 2
  split
  · rfl
  · simp [Addr.add]
theorem run_back_s {P : Program} {t e : TypeId} (sz : Nat) (ht : P.underlying t = some (.slice e)) (hs : (P.info? e).map (·.size) = some sz) (g off n cap : Nat) {l : Nat} (hl : l ≤ n) (hc : l < cap) (w : World) :
    (Instr.sliceAt t (.slice (some ⟨g, off, none⟩) n cap) (some (.int .i64 (l : Int))) none none).run P w = .ok (.slice (some ⟨g, off + l * sz, none⟩) (n - l) (cap - l)) w := by
  have he : P.elem t = e := by simp [Program.elem, ht]
  have ht' : P.underlying t = some (.slice (P.elem t)) := by rw [he]; exact ht
  obtain ⟨inf, hi, h1⟩ := Option.map_eq_some_iff.1 hs
  have hz : (sizeOf e).run P w = .ok sz w := by simp [sizeOf, typeInfo, hi, h1]
  have hne : ¬ cap = l := by omega
  rw [run_sliceAt_slice w t _ _ _ _ ht', run_slice_l w t _ n cap ht' .i64 _ (by omega) (by omega), he, hz]
  simp [Result.andThen, sliced, Addr.add, hne]
end Go.Proofs.Ytbhgonnonhiocaa.Sl
namespace Go.Proofs.Ytbhgonnonhiocaa.Sl
open Go.RowKit Go.Shelf Mem Held
section
variable {P : Program} {S : World → Prop} {ρ : Operand → Value} {o : Oper}
end
section
variable {α : Type} {k : St α} {P : Program} {ops : Array Oper} {rest : List Oper} {o : Oper} {a : Act} {w : World} {Q : Exit → Act → World → Prop}
end
end Go.Proofs.Ytbhgonnonhiocaa.Sl
namespace Go.Proofs.Ytbhgonnonhiocaa.Sl
open Go.RowKit Go.Shelf Mem Held
section
variable {α : Type} {k : St α} {P : Program} {ops : Array Oper} {o : Oper} {a : Act} {w : World} {Q : Exit → Act → World → Prop}
theorem op_alloc_blk (i : Nat) (d : Option Tmp) {K : Act → World → Prop} (ty : TypeId) (cs : Array Value) (hi : ops[i]? = some o) (hd : o.dst = d) (hw : Region.wanted o (yielded ops a.tmps) = true)
    (ho : o.op = .alloc ty) (hz : (P.info? ty).bind (·.zero) = some (.agg cs))
    (h : ∀ g w', Blk w' g ty cs → Below w.heap.size w w' → Hid (w.heap.size ≤ g) → K (a.put d (.pointer (some ⟨g, 0, none⟩))) w') : wpOp P ops Q i K a w := by
  subst hd
  refine op_wp i hi hw ?_
  unfold Oper.wp execOp
  simp only [ho, run_alloc_blk ty cs hz, Sem.run_bind, Sem.run_pure, Result.andThen_ok]
  exact h _ _ (heap_alloc_new w _) ((Below.refl _ w).alloc (Nat.le_refl _) _) (Lib.hid (Nat.le_refl _))
end
end Go.Proofs.Ytbhgonnonhiocaa.Sl
namespace Go.Proofs.Ytbhgonnonhiocaa.Sl
open Go.RowKit Go.Shelf Mem Held
section
variable {α : Type} {k : St α} {P : Program} {ops : Array Oper} {o : Oper} {a : Act} {w : World} {Q : Exit → Act → World → Prop}
end
end Go.Proofs.Ytbhgonnonhiocaa.Sl
namespace Go.Proofs.Ytbhgonnonhiocaa.Mg
open Go.RowKit Go.Shelf Go.Proofs.Ytbhgonnonhiocaa Mem Held Ct Rc Rs Sl
attribute [local irreducible] wpList wpListIn Calls
theorem rec_one (x : R) : ∀ u ∈ x.cells, u.oneCell' = true := fun u hu => by
  simp only [R.cells, List.mem_cons, List.not_mem_nil, or_false] at hu
  rcases hu with rfl | rfl | rfl | rfl <;> rfl
def kRec : St R := ⟨4, R.cells, R.wf, R0, fun _ => rfl, rec_one, by omega⟩
theorem info_kRec : (Try.prog.info? 26).map (fun i => (i.zero, i.size, i.bytes)) = some (some (.agg (kRec.cells kRec.d).toArray), kRec.s, 32) := by kernel_rfl
set_option maxRecDepth 100000 in
set_option maxHeartbeats 4000000 in
theorem leads_any (seq : Bool) (a b : R) (ha : a.wf) (hb : b.wf) (w : World) :
    Calls Try.prog 30 #[.agg #[.bool a.d, .int .i64 a.k, .int .i64 a.v, .int .i64 a.s], .agg #[.bool b.d, .int .i64 b.k, .int .i64 b.v, .int .i64 b.s], .bool seq] w fun e w' => e = .returned (.int .u64 (oneI (lead seq a b))) ∧ Below w.heap.size w w' := by
  go_enter Try.func30, Try.ntmps30
  cases seq with
  | true =>
    go_wp2_with (first
      | (refine wpList_box_blk (w := w) rfl 26 _ rfl _ rfl ?_; intro w1 q1 g1 z1)
      | (refine wpList_box_blk (w := w1) rfl 26 _ rfl _ rfl ?_; intro w2 q2 g2 z2; have q1 := q1.grown g2 (by simp))
      | (refine wpList_load_blk (w := w2) rfl 26 _ rfl w.heap.size 4 rfl 26 _ q1 _ Try.underlying26 rfl (by kernel_rfl) rfl ?_)
      | (refine wpList_load_blk (w := w2) rfl 26 _ rfl w1.heap.size 4 rfl 26 _ q2 _ Try.underlying26 rfl (by kernel_rfl) rfl ?_))
    have b2 : Below w.heap.size w w2 := ((Below.refl _ w).grown g1 (Nat.le_refl _) (by simp)).grown g2 g1.size (by simp)
    refine (before_any a.d a.k a.v a.s b.d b.k b.v b.s ha.1 ha.2.2 hb.1 hb.2.2 _).mono ?_
    rintro e w3 ⟨rfl, b3⟩
    go_wp2_with fail
    go_ret
    exact ⟨rfl, b2.trans (b3.mono b2.size)⟩
  | false =>
    go_wp2_with (first
      | (refine wpList_box_blk (w := w) rfl 26 _ rfl _ rfl ?_; intro w1 q1 g1 z1)
      | (refine wpList_box_blk (w := w1) rfl 26 _ rfl _ rfl ?_; intro w2 q2 g2 z2; have q1 := q1.grown g2 (by simp))
      | (refine wpList_load_blk (w := w2) rfl 26 _ rfl w.heap.size 4 rfl 26 _ q1 _ Try.underlying26 rfl (by kernel_rfl) rfl ?_)
      | (refine wpList_load_blk (w := w2) rfl 26 _ rfl w1.heap.size 4 rfl 26 _ q2 _ Try.underlying26 rfl (by kernel_rfl) rfl ?_))
    have b2 : Below w.heap.size w w2 := ((Below.refl _ w).grown g1 (Nat.le_refl _) (by simp)).grown g2 g1.size (by simp)
    refine (ahead_any a.d a.k a.v a.s b.d b.k b.v b.s ha.1 ha.2.2 hb.1 hb.2.2 _).mono ?_
    rintro e w3 ⟨rfl, b3⟩
    go_wp2_with fail
    go_ret
    exact ⟨rfl, b2.trans (b3.mono b2.size)⟩
theorem getD_mem {rs : List R} {i : Nat} (hi : i < rs.length) : rs.getD i R0 ∈ rs := by
  rw [List.getD_eq_getElem?_getD, List.getElem?_eq_getElem hi]
  exact List.getElem_mem hi
set_option maxRecDepth 100000 in
set_option maxHeartbeats 8000000 in
theorem settle_any (seq : Bool) (base g n c p : Nat) (rs : List R) (w : World) (h : OwnL kRec 26 w base (.slice (some ⟨g, 0, none⟩) n c) rs) (hwf : ∀ r ∈ rs, r.wf) (hp : p + 1 < n) (hn : n ≤ 1073741824) :
    Calls Try.prog 28 #[.slice (some ⟨g, 0, none⟩) n c, .int .i64 (p : Int), .bool seq] w fun e w' => (∃ v, e = .returned v) ∧ OwnL kRec 26 w' base (.slice (some ⟨g, 0, none⟩) n c) (settleR seq rs p) ∧ w.grownBy w' (some g) := by
  have hl := OwnL.lst h hwf
  have hp0 : p < n := by omega
  obtain ⟨b, off, e1, hg, hx⟩ := hl.at_ hp0
  injection e1 with e1
  injection e1 with e1 e2
  subst e1
  subst e2
  obtain ⟨b, off, e1, _, hy⟩ := hl.at_ hp
  injection e1 with e1
  injection e1 with e1 e2
  subst e1
  subst e2
  have hx : w.rangeAt g (0 + p * 4) (rs.getD p R0).cells := hx
  have hy : w.rangeAt g (0 + (p + 1) * 4) (rs.getD (p + 1) R0).cells := hy
  have hL := hl.1
  have wa := hwf _ (getD_mem (rs := rs) (i := p) (by omega))
  have wb := hwf _ (getD_mem (rs := rs) (i := p + 1) (by omega))
  have HSET := Lib.hid (show settleR seq rs p = (rs.set p (if lead seq (rs.getD (p + 1) R0) (rs.getD p R0) then rs.getD (p + 1) R0 else rs.getD p R0)).set (p + 1) (if lead seq (rs.getD (p + 1) R0) (rs.getD p R0) then rs.getD p R0 else rs.getD (p + 1) R0) from rfl)
  have HP1 := Lib.hid (show IntKind.i64.wrap ((p : Int) + 1) = ((p + 1 : Nat) : Int) by rw [IntKind.wrap_i64]; omega)
  have HLP := Lib.hid (show p < rs.length by omega)
  have HLQ := Lib.hid (show p + 1 < rs.length by omega)
  generalize rs.getD p R0 = ra at hx HSET wa
  generalize rs.getD (p + 1) R0 = rb at hy HSET wb
  clear hl hL
  go_enter Try.func28, Try.ntmps28
  go_wp2_with fail
  refine wp_mono (Q := fun e a' w' => e = .normal ∧ ∃ p6 p7, a' = { tmps := #[.slice (some ⟨g, 0, none⟩) n c, .int .i64 (p : Int), .bool seq, undef, undef, undef, .pointer (some ⟨p6, 0, none⟩), .pointer (some ⟨p7, 0, none⟩), undef, .slice (some ⟨g, 0, none⟩) n c, .int .i64 (p : Int), .pointer (some ⟨g, 0 + p * 4, none⟩), .agg #[.bool ra.d, .int .i64 ra.k, .int .i64 ra.v, .int .i64 ra.s], .slice (some ⟨g, 0, none⟩) n c, .int .i64 (p : Int), .int .i64 ((p + 1 : Nat) : Int), .pointer (some ⟨g, 0 + (p + 1) * 4, none⟩), .agg #[.bool rb.d, .int .i64 rb.k, .int .i64 rb.v, .int .i64 rb.s], undef, undef, undef, undef, undef, undef, undef, undef, undef, undef, undef, undef, undef, undef, undef, undef, undef, undef, undef], defers := [] } ∧ Blk w' p6 26 #[.bool ra.d, .int .i64 ra.k, .int .i64 ra.v, .int .i64 ra.s] ∧ Blk w' p7 26 #[.bool rb.d, .int .i64 rb.k, .int .i64 rb.v, .int .i64 rb.s] ∧ p6 ≠ p7 ∧ w.heap.size ≤ p6 ∧ w.heap.size ≤ p7 ∧ Below w.heap.size w w') ?_ ?_
  · refine wp_region_held (S := fun W => Below w.heap.size w W) (by kernel_rfl) ?_
    change wpAnyH _ _ _ _ _ _ _ _ w.drew
    have c0_0 := (Below.refl w.heap.size w).drew
    refine Held.take (v := .slice (some ⟨g, 0, none⟩) n c) 0 (some 9) rfl rfl (by kernel_rfl) (by kernel_rfl) (by kernel_rfl) (fun _ _ _ h => by cases h.1) rfl (Held.y_move rfl rfl) c0_0 ?_
    simp only [Act.put, Z1, Z2, Z3]
    refine Held.take (v := .int .i64 (p : Int)) 1 (some 10) rfl rfl (by kernel_rfl) (by kernel_rfl) (by kernel_rfl) (fun _ _ _ h => by cases h.1) rfl (Held.y_move rfl rfl) c0_0 ?_
    simp only [Act.put, Z1, Z2, Z3]
    refine Held.take (v := .pointer (some ⟨g, 0 + p * 4, none⟩)) 2 (some 11) rfl rfl (by kernel_rfl) (by kernel_rfl) (by kernel_rfl) (fun _ _ _ h => by cases h.1) rfl (Held.y_addr rfl rfl rfl (run_addr_of 22 26 g 0 n c p 4 .i64 Try.underlying22 (by kernel_rfl) hp0)) c0_0 ?_
    simp only [Act.put, Z1, Z2, Z3]
    refine Held.take (v := .agg #[.bool ra.d, .int .i64 ra.k, .int .i64 ra.v, .int .i64 ra.s]) 3 (some 12) rfl rfl (by kernel_rfl) (by kernel_rfl) (by kernel_rfl) (fun _ _ _ h => by cases h.1) rfl (y_load_range (n := 4) (cs := ra.cells) rfl rfl Try.underlying26 rfl (by kernel_rfl) rfl (fun W hW => range_below hx hW hg)) c0_0 ?_
    simp only [Act.put, Z1, Z2, Z3]
    refine Held.take (v := .slice (some ⟨g, 0, none⟩) n c) 4 (some 13) rfl rfl (by kernel_rfl) (by kernel_rfl) (by kernel_rfl) (fun _ _ _ h => by cases h.1) rfl (Held.y_move rfl rfl) c0_0 ?_
    simp only [Act.put, Z1, Z2, Z3]
    refine Held.take (v := .int .i64 (p : Int)) 5 (some 14) rfl rfl (by kernel_rfl) (by kernel_rfl) (by kernel_rfl) (fun _ _ _ h => by cases h.1) rfl (Held.y_move rfl rfl) c0_0 ?_
    simp only [Act.put, Z1, Z2, Z3]
    refine Held.take (v := .int .i64 ((p + 1 : Nat) : Int)) 6 (some 15) rfl rfl (by kernel_rfl) (by kernel_rfl) (by kernel_rfl) (fun _ _ _ h => by cases h.1) rfl (Held.y_int rfl rfl rfl (Held.run_add 3 .i64 HP1.out)) c0_0 ?_
    simp only [Act.put, Z1, Z2, Z3]
    refine Held.take (v := .pointer (some ⟨g, 0 + (p + 1) * 4, none⟩)) 7 (some 16) rfl rfl (by kernel_rfl) (by kernel_rfl) (by kernel_rfl) (fun _ _ _ h => by cases h.1) rfl (Held.y_addr rfl rfl rfl (run_addr_of 22 26 g 0 n c (p + 1) 4 .i64 Try.underlying22 (by kernel_rfl) hp)) c0_0 ?_
    simp only [Act.put, Z1, Z2, Z3]
    refine Held.take (v := .agg #[.bool rb.d, .int .i64 rb.k, .int .i64 rb.v, .int .i64 rb.s]) 8 (some 17) rfl rfl (by kernel_rfl) (by kernel_rfl) (by kernel_rfl) (fun _ _ _ h => by cases h.1) rfl (y_load_range (n := 4) (cs := rb.cells) rfl rfl Try.underlying26 rfl (by kernel_rfl) rfl (fun W hW => range_below hy hW hg)) c0_0 ?_
    simp only [Act.put, Z1, Z2, Z3]
    refine Held.two 9 10 (by kernel_rfl) ?_ ?_
    · refine op_alloc_blk 9 (some 6) 26 _ rfl rfl rfl rfl zero_rec ?_
      intro p6 w1 r6 b1 h6
      have q6 := Nat.le_trans c0_0.size h6.out
      have c0_1 := c0_0.trans (b1.mono c0_0.size)
      refine ⟨c0_1, ?_⟩
      simp only [Act.put, Z1, Z2, Z3]
      refine Held.one 10 (by kernel_rfl) ?_
      refine op_alloc_blk 10 (some 7) 26 _ rfl rfl rfl rfl zero_rec ?_
      intro p7 w2 r7 b2 h7
      have q7 := Nat.le_trans c0_1.size h7.out
      have c0_2 := c0_1.trans (b2.mono c0_1.size)
      have n67 : p6 ≠ p7 := fun x => by have := r6.lt; have := h7.out; omega
      have r6 := r6.after b2
      refine ⟨c0_2, ?_⟩
      simp only [Act.put, Z1, Z2, Z3]
      refine Held.one 11 (by kernel_rfl) ?_
      refine op_store_blk 11 none 26 p6 4 26 _ #[.bool ra.d, .int .i64 ra.k, .int .i64 ra.v, .int .i64 ra.s] rfl rfl rfl rfl rfl rfl r6 info_rec rfl rfl (by kernel_rfl) ?_
      intro w3 r6 g3
      have c0_3 := c0_2.grown g3 c0_2.size (fun r e => by cases e; exact q6)
      have r7 := r7.grown g3 (by intro e; injection e with e; exact n67 e.symm)
      refine ⟨c0_3, ?_⟩
      simp only [Act.put, Z1, Z2, Z3]
      refine Held.one 12 (by kernel_rfl) ?_
      refine op_store_blk 12 none 26 p7 4 26 _ #[.bool rb.d, .int .i64 rb.k, .int .i64 rb.v, .int .i64 rb.s] rfl rfl rfl rfl rfl rfl r7 info_rec rfl rfl (by kernel_rfl) ?_
      intro w4 r7 g4
      have c0_4 := c0_3.grown g4 c0_3.size (fun r e => by cases e; exact q7)
      have r6 := r6.grown g4 (by intro e; injection e with e; exact n67 e)
      refine ⟨c0_4, ?_⟩
      simp only [Act.put, Z1, Z2, Z3]
      refine wpAnyH_done (by kernel_rfl) ?_ _
      exact ⟨rfl, p6, p7, rfl, r6, r7, n67, q6, q7, c0_4⟩
    · refine op_alloc_blk 10 (some 7) 26 _ rfl rfl rfl rfl zero_rec ?_
      intro p7 w1 r7 b1 h7
      have q7 := Nat.le_trans c0_0.size h7.out
      have c0_1 := c0_0.trans (b1.mono c0_0.size)
      refine ⟨c0_1, ?_⟩
      simp only [Act.put, Z1, Z2, Z3]
      refine Held.one 9 (by kernel_rfl) ?_
      refine op_alloc_blk 9 (some 6) 26 _ rfl rfl rfl rfl zero_rec ?_
      intro p6 w2 r6 b2 h6
      have q6 := Nat.le_trans c0_1.size h6.out
      have c0_2 := c0_1.trans (b2.mono c0_1.size)
      have n67 : p6 ≠ p7 := fun x => by have := r7.lt; have := h6.out; omega
      have r7 := r7.after b2
      refine ⟨c0_2, ?_⟩
      simp only [Act.put, Z1, Z2, Z3]
      refine Held.one 11 (by kernel_rfl) ?_
      refine op_store_blk 11 none 26 p6 4 26 _ #[.bool ra.d, .int .i64 ra.k, .int .i64 ra.v, .int .i64 ra.s] rfl rfl rfl rfl rfl rfl r6 info_rec rfl rfl (by kernel_rfl) ?_
      intro w3 r6 g3
      have c0_3 := c0_2.grown g3 c0_2.size (fun r e => by cases e; exact q6)
      have r7 := r7.grown g3 (by intro e; injection e with e; exact n67 e.symm)
      refine ⟨c0_3, ?_⟩
      simp only [Act.put, Z1, Z2, Z3]
      refine Held.one 12 (by kernel_rfl) ?_
      refine op_store_blk 12 none 26 p7 4 26 _ #[.bool rb.d, .int .i64 rb.k, .int .i64 rb.v, .int .i64 rb.s] rfl rfl rfl rfl rfl rfl r7 info_rec rfl rfl (by kernel_rfl) ?_
      intro w4 r7 g4
      have c0_4 := c0_3.grown g4 c0_3.size (fun r e => by cases e; exact q7)
      have r6 := r6.grown g4 (by intro e; injection e with e; exact n67 e)
      refine ⟨c0_4, ?_⟩
      simp only [Act.put, Z1, Z2, Z3]
      refine wpAnyH_done (by kernel_rfl) ?_ _
      exact ⟨rfl, p6, p7, rfl, r6, r7, n67, q6, q7, c0_4⟩
  rintro e a' wz ⟨rfl, p6, p7, rfl, r6, r7, n67, q6, q7, bz⟩
  have hz := OwnL.below h bz
  have gz : w.grownBy wz (some g) := grown_of_below bz _
  clear h hx hy
  go_wp2_with (first
    | (refine wpList_load_blk (w := wz) rfl 26 _ rfl p7 4 rfl 26 _ r7 _ Try.underlying26 rfl (by kernel_rfl) rfl ?_)
    | (refine wpList_load_blk (w := wz) rfl 26 _ rfl p6 4 rfl 26 _ r6 _ Try.underlying26 rfl (by kernel_rfl) rfl ?_))
  refine (leads_any seq rb ra wb wa _).mono ?_
  rintro e w1 ⟨rfl, b1⟩
  have r6 := r6.after b1
  have r7 := r7.after b1
  have hz := OwnL.below hz b1
  have gz : w.grownBy w1 (some g) := Lib.grownBy_trans gz (grown_of_below b1 _)
  have g6 : p6 ≠ g := by omega
  have g7 : p7 ≠ g := by omega
  clear b1 bz
  cases hs : lead seq rb ra with
  | true =>
    rw [hs] at HSET
    have HSET := Lib.hid (show settleR seq rs p = (rs.set p rb).set (p + 1) ra from HSET.out)
    clear hs
    go_wp2_with (first
      | (refine wpList_load_blk (w := w1) rfl 26 _ rfl p7 4 rfl 26 _ r7 _ Try.underlying26 rfl (by kernel_rfl) rfl ?_)
      | (refine wpList_load_blk (w := w1) rfl 26 _ rfl p6 4 rfl 26 _ r6 _ Try.underlying26 rfl (by kernel_rfl) rfl ?_))
    refine (pick_any 1 rb.d rb.k rb.v rb.s ra.d ra.k ra.v ra.s rfl wb.1 wb.2.1 wb.2.2 wa.1 wa.2.1 wa.2.2 _).mono ?_
    rintro e w2 ⟨rfl, b2⟩
    have r6 := r6.after b2
    have r7 := r7.after b2
    have hz := OwnL.below hz b2
    have gz : w.grownBy w2 (some g) := Lib.grownBy_trans gz (grown_of_below b2 _)
    clear b2
    go_wp2_with (first
      | (refine Held.wpList_run (w := w2) rfl (v := .pointer (some ⟨g, 0 + p * 4, none⟩)) (Held.y_addr (S := fun _ => True) rfl rfl rfl (run_addr_of 22 26 g 0 n c p 4 .i64 Try.underlying22 (by kernel_rfl) hp0) _ trivial) ?_)
      | (refine wpList_store_lst (k := kRec) (w := w2) rfl 26 _ _ rfl (by kernel_rfl) base g n c p rs rb (by rw [Nat.zero_add]; rfl) rfl hz HLP.out ?_; intro w3 h3 g3; have gz := Lib.grownBy_trans gz g3; have r6 := r6.grown g3 (by simpa using g6); have r7 := r7.grown g3 (by simpa using g7))
      | (refine wpList_load_blk (w := w3) rfl 26 _ rfl p7 4 rfl 26 _ r7 _ Try.underlying26 rfl (by kernel_rfl) rfl ?_)
      | (refine wpList_load_blk (w := w3) rfl 26 _ rfl p6 4 rfl 26 _ r6 _ Try.underlying26 rfl (by kernel_rfl) rfl ?_)
      | (refine Held.wpList_run (w := w3) rfl (v := .int .i64 ((p + 1 : Nat) : Int)) (Held.y_int (S := fun _ => True) rfl rfl rfl (Held.run_add 3 .i64 HP1.out) _ trivial) ?_))
    refine (pick_any 1 ra.d ra.k ra.v ra.s rb.d rb.k rb.v rb.s rfl wa.1 wa.2.1 wa.2.2 wb.1 wb.2.1 wb.2.2 _).mono ?_
    rintro e w4 ⟨rfl, b4⟩
    have h4 := OwnL.below h3 b4
    have gz : w.grownBy w4 (some g) := Lib.grownBy_trans gz (grown_of_below b4 _)
    have HLQ' := Lib.hid (show p + 1 < (rs.set p rb).length by rw [List.length_set]; exact HLQ.out)
    go_wp2_with (first
      | (refine Held.wpList_run (w := w4) rfl (v := .pointer (some ⟨g, 0 + (p + 1) * 4, none⟩)) (Held.y_addr (S := fun _ => True) rfl rfl rfl (run_addr_of 22 26 g 0 n c (p + 1) 4 .i64 Try.underlying22 (by kernel_rfl) hp) _ trivial) ?_)
      | (refine wpList_store_lst (k := kRec) (w := w4) rfl 26 _ _ rfl (by kernel_rfl) base g n c (p + 1) (rs.set p rb) ra (by rw [Nat.zero_add]; rfl) rfl h4 HLQ'.out ?_; intro w5 h5 g5; have gz := Lib.grownBy_trans gz g5))
    go_end0
    exact ⟨⟨_, rfl⟩, by rw [HSET.out]; exact h5, gz⟩
  | false =>
    rw [hs] at HSET
    have HSET := Lib.hid (show settleR seq rs p = (rs.set p ra).set (p + 1) rb from HSET.out)
    clear hs
    go_wp2_with (first
      | (refine wpList_load_blk (w := w1) rfl 26 _ rfl p7 4 rfl 26 _ r7 _ Try.underlying26 rfl (by kernel_rfl) rfl ?_)
      | (refine wpList_load_blk (w := w1) rfl 26 _ rfl p6 4 rfl 26 _ r6 _ Try.underlying26 rfl (by kernel_rfl) rfl ?_))
    refine (pick_any 0 rb.d rb.k rb.v rb.s ra.d ra.k ra.v ra.s rfl wb.1 wb.2.1 wb.2.2 wa.1 wa.2.1 wa.2.2 _).mono ?_
    rintro e w2 ⟨rfl, b2⟩
    have r6 := r6.after b2
    have r7 := r7.after b2
    have hz := OwnL.below hz b2
    have gz : w.grownBy w2 (some g) := Lib.grownBy_trans gz (grown_of_below b2 _)
    clear b2
    go_wp2_with (first
      | (refine Held.wpList_run (w := w2) rfl (v := .pointer (some ⟨g, 0 + p * 4, none⟩)) (Held.y_addr (S := fun _ => True) rfl rfl rfl (run_addr_of 22 26 g 0 n c p 4 .i64 Try.underlying22 (by kernel_rfl) hp0) _ trivial) ?_)
      | (refine wpList_store_lst (k := kRec) (w := w2) rfl 26 _ _ rfl (by kernel_rfl) base g n c p rs ra (by rw [Nat.zero_add]; rfl) rfl hz HLP.out ?_; intro w3 h3 g3; have gz := Lib.grownBy_trans gz g3; have r6 := r6.grown g3 (by simpa using g6); have r7 := r7.grown g3 (by simpa using g7))
      | (refine wpList_load_blk (w := w3) rfl 26 _ rfl p7 4 rfl 26 _ r7 _ Try.underlying26 rfl (by kernel_rfl) rfl ?_)
      | (refine wpList_load_blk (w := w3) rfl 26 _ rfl p6 4 rfl 26 _ r6 _ Try.underlying26 rfl (by kernel_rfl) rfl ?_)
      | (refine Held.wpList_run (w := w3) rfl (v := .int .i64 ((p + 1 : Nat) : Int)) (Held.y_int (S := fun _ => True) rfl rfl rfl (Held.run_add 3 .i64 HP1.out) _ trivial) ?_))
    refine (pick_any 0 ra.d ra.k ra.v ra.s rb.d rb.k rb.v rb.s rfl wa.1 wa.2.1 wa.2.2 wb.1 wb.2.1 wb.2.2 _).mono ?_
    rintro e w4 ⟨rfl, b4⟩
    have h4 := OwnL.below h3 b4
    have gz : w.grownBy w4 (some g) := Lib.grownBy_trans gz (grown_of_below b4 _)
    have HLQ' := Lib.hid (show p + 1 < (rs.set p ra).length by rw [List.length_set]; exact HLQ.out)
    go_wp2_with (first
      | (refine Held.wpList_run (w := w4) rfl (v := .pointer (some ⟨g, 0 + (p + 1) * 4, none⟩)) (Held.y_addr (S := fun _ => True) rfl rfl rfl (run_addr_of 22 26 g 0 n c (p + 1) 4 .i64 Try.underlying22 (by kernel_rfl) hp) _ trivial) ?_)
      | (refine wpList_store_lst (k := kRec) (w := w4) rfl 26 _ _ rfl (by kernel_rfl) base g n c (p + 1) (rs.set p ra) rb (by rw [Nat.zero_add]; rfl) rfl h4 HLQ'.out ?_; intro w5 h5 g5; have gz := Lib.grownBy_trans gz g5))
    go_end0
    exact ⟨⟨_, rfl⟩, by rw [HSET.out]; exact h5, gz⟩
end Go.Proofs.Ytbhgonnonhiocaa.Mg
namespace Go.Proofs.Ytbhgonnonhiocaa.Sl
open Go.RowKit Go.Shelf Mem Held
section
variable {α : Type} {k : St α}
end
section
variable {α : Type} {k : St α} {P : Program} {ops : Array Oper} {rest : List Oper} {o : Oper} {a : Act} {w : World} {Q : Exit → Act → World → Prop}
end
end Go.Proofs.Ytbhgonnonhiocaa.Sl
namespace Go.Proofs.Ytbhgonnonhiocaa.Mg
open Go.RowKit Go.Shelf Go.Proofs.Ytbhgonnonhiocaa Mem Held Ct Rc Rs Sl
attribute [local irreducible] wpList wpListIn Calls
section
variable {P : Program} {S : World → Prop} {ρ : Operand → Value} {o : Oper}
theorem y_slnil {t e ty : TypeId} {x y : Operand} {A : Option Addr} {n c : Nat} (ho : o.op = .binOp .eql t x y ty) (hx : ρ x = .slice A n c) (hy : ρ y = .slice none 0 0) (hu : P.underlying t = some (.slice e)) : ∀ w, S w → (execOp ρ o).run P w = .ok (.value (.bool A.isNone)) w :=
  Held.y_bin ho hx hy (fun w => by cases A <;> simp [eqGuard, run_underlying hu]) (fun w => run_eql_slice_nil w t e A n c hu)
theorem run_append_zero (ts e : TypeId) (hu : P.underlying ts = some (.slice e)) (ie : TypeInfo) (hie : P.info? e = some ie) {ty : TypeId} (w : World) (As A : Option Addr) (n cap c : Nat) (hn : n ≤ cap) :
    (Builtin.append_ #[ts, ts] ty #[.slice As n cap, .slice A 0 c]).run P w = .ok (.slice As n cap) w := by
  cases A with
  | none => cases As <;> simp [Builtin.append_, run_underlying hu, sizeOf, typeInfo, hie, Builtin.lenOf, Builtin.firstCells, hn, storeCells]
  | some ad => cases As <;> simp [Builtin.append_, run_underlying hu, sizeOf, typeInfo, hie, Builtin.lenOf, Builtin.firstCells, hn, storeCells, loadCells, loadCellsFrom]
theorem run_build_none (ts e : TypeId) (hu : P.underlying ts = some (.slice e)) (ie : TypeInfo) (hie : P.info? e = some ie) (w : World) :
    (Instr.buildSlice ts 0 #[]).run P w = .ok (.slice (some ⟨w.heap.size, 0, none⟩) 0 0) (w.alloc (.cells #[] e)) := by
  simp [Instr.buildSlice, run_underlying hu, sizeOf, typeInfo, hie, newRow, Instr.fill]
  have : Array.range 0 = #[] := by simp
  rw [this, Array.map_empty]
end
section
variable {α : Type} {k : St α} {P : Program} {ops : Array Oper} {rest : List Oper} {o : Oper} {a : Act} {w : World} {Q : Exit → Act → World → Prop}
theorem wpList_append_all (hgd : o.guard = none) (s x : Operand) (ts e : TypeId) (ho : o.op = .call { callee := .builtin .append, args := #[s, x], argTypes := #[ts, ts] }) (hu : P.underlying ts = some (.slice e)) (z : Value) (bytes : Nat) (hinfo : (P.info? e).map (fun i => (i.zero, i.size, i.bytes)) = some (some z, k.s, bytes)) (hz : z.cells.size = k.s)
    (base B m c : Nat) (A : Option Addr) (v : Value) (xs ys : List α) (hs : a.eval s = v) (hx : a.eval x = .slice A m c) (hown : OwnL k e w base v xs) (hq : Lst k w B A m ys) (hm : xs.length + m ≤ 1048576) (hby : bytes ≤ 1048576) (hbase : base ≤ w.heap.size)
    (h : ∀ v' w', OwnL k e w' base v' (xs ++ ys) → w.grownBy w' v.ownBlock → (v'.ownBlock = v.ownBlock ∨ v'.ownBlock = some w.heap.size) → wpList P ops Q rest (a.put o.dst v') w') : wpList P ops Q (o :: rest) a w := by
  rcases Nat.eq_zero_or_pos m with h0 | h0
  · subst h0
    have e0 : ys = [] := List.eq_nil_of_length_eq_zero hq.1
    subst e0
    obtain ⟨A', c', rfl, hle, _⟩ := OwnL.form hown
    obtain ⟨ie, hie, _⟩ := info_parts hinfo
    exact Rs.wpList_append_ran hgd s x ts ts ho _ _ _ w hs hx (run_append_zero ts e hu ie hie w A' A _ c' c hle) (h _ w (by rw [List.append_nil]; exact hown) (World.grownBy.refl w _) (.inl rfl))
  · obtain ⟨g, off, rfl, _, _⟩ := hq.2.2 h0
    exact wpList_append_lst hgd s x ts e ho hu z bytes hinfo hz base B g off m c v xs ys hs hx hown hq hm hby hbase h
theorem wpList_build_none (hgd : o.guard = none) (ts e : TypeId) (ho : o.op = .buildSlice ts 0 #[]) (hu : P.underlying ts = some (.slice e)) (hinfo : (P.info? e).isSome = true)
    (h : ∀ w', Blk w' w.heap.size e #[] → w.grownBy w' none → wpList P ops Q rest (a.put o.dst (.slice (some ⟨w.heap.size, 0, none⟩) 0 0)) w') : wpList P ops Q (o :: rest) a w := by
  obtain ⟨ie, hie⟩ := Option.isSome_iff_exists.1 hinfo
  refine wpList_plain hgd fun K hK => ?_
  unfold Oper.wp execOp
  simp only [ho, Sem.run_bind, List.map_toArray, List.map_nil, run_build_none ts e hu ie hie w, Result.andThen_ok]
  exact hK _ _ (h _ (heap_alloc_new w _) (World.grownBy_alloc w _ none))
end
set_option maxRecDepth 100000 in
set_option maxHeartbeats 4000000 in
theorem clone_any (B : Nat) (A : Option Addr) (n c : Nat) (rs : List R) (w : World) (h : Lst kRec w B A n rs) (hB : B ≤ w.heap.size) (hn : n ≤ 1048576) :
    Calls Try.prog 24 #[.slice A n c] w fun e w' => ∃ v, e = .returned v ∧ OwnL kRec 26 w' w.heap.size v rs ∧ Below w.heap.size w w' := by
  go_enter Try.func24, Try.ntmps24
  cases A with
  | none =>
    have e0 : n = 0 := by
      rcases Nat.eq_zero_or_pos n with h0 | h0
      · exact h0
      · obtain ⟨_, _, e, _⟩ := h.2.2 h0
        cases e
    subst e0
    have e1 : rs = [] := List.eq_nil_of_length_eq_zero h.1
    subst e1
    go_wp2_with (refine Held.wpList_run (w := w) rfl (v := .bool true) (y_slnil (S := fun _ => True) (A := none) rfl rfl rfl Try.underlying22 _ trivial) ?_)
    go_ret
    exact ⟨_, rfl, OwnL.nil _ _ _ _, Below.refl _ _⟩
  | some ad =>
    have HL := Lib.hid h.1
    go_wp2_with (first
      | (refine Held.wpList_run (w := w) rfl (v := .bool false) (y_slnil (S := fun _ => True) (A := some ad) rfl rfl rfl Try.underlying22 _ trivial) ?_)
      | (at_builtin; refine wpList_append_all (k := kRec) (w := w1) rfl _ _ 22 26 rfl Try.underlying22 _ 32 info_kRec rfl w.heap.size B n c (some ad) _ [] rs rfl rfl o1 (Lst.below h (b1.mono hB)) (by simp; exact hn) (by omega) b1.size ?_; intro v2 w2 o2 g2 n2)
      | (refine wpList_build_none (w := w) rfl 22 26 rfl Try.underlying22 (by kernel_rfl) ?_; intro w1 q1 g1; have b1 : Below w.heap.size w w1 := (Below.refl _ w).grown g1 (Nat.le_refl _) (by simp); have o1 : OwnL kRec 26 w1 w.heap.size (.slice (some ⟨w.heap.size, 0, none⟩) 0 0) [] := own_of_blk (k := kRec) (xs := []) q1 (Nat.le_refl _) (by simp [maxLen])))
    have b2 : Below w.heap.size w w2 := b1.grown g2 b1.size (fun r e => by have e : some w.heap.size = some r := e; cases e; exact Nat.le_refl _)
    go_ret
    exact ⟨_, rfl, o2, b2⟩
end Go.Proofs.Ytbhgonnonhiocaa.Mg
