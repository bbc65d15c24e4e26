/-
  Lists of structs in memory, of any kind whose fields are one cell each: what they read as, literals, appends, stores: no program here.
  What there is to do in a job, plain: its tasks, group by group and one behind the other, what each reads and writes, who makes a spot, when a task is ready: no program here but the kinds of its lists.
  What the frame of a proof says of a record that came in by value; two records, two arrays of numbers held against each other.
  Package record's mayBe, and its iterator over words, by their contracts.
  Package record's Pack and Take, by their contracts.
  Records as plain things, lists of them in memory, cell by cell; a call of a function value within a region that draws its order: no program here but the type of a record.
  Programs of layer 11 as plain functions: which may be, what each operation makes of its numbers, what a part leaves in its registers and emits: no program here but the kinds of its lists.
  Package vm's same, pick, result and emitted, by their contracts.
  Package vm's mayStand, by its contract.
  The functions Same and Plain of package dominohelp on records, by their contracts.
  The functions Own and Kept of package dominohelp on records, by their contracts.
  Package record's Take, by its contract.
  A number's eight bytes, numbers' bytes, and a number of bytes, by the document's own, by their contracts: with no other layer.
  Slices cut: s[:h] and s[l:] by their run, and what they read as.
  The document's own Ahead, Before, Pack and Take of records, and the laws' first line, by their contracts.
  The document's own may, Size and Pack of blocks, by their contracts.
  The document's own Size of blocks (package dominoref10) by its contract.
  Package block: which sizes may be, how long blocks are, and the iterator over records with dead ones behind them, by their contracts.
  Package vm's iterator over a part's operations, by its contract: it hands out each of them, in order, till it is told to stop.
  Package vm's mayBe, by its contract.
  Package vm's Check, by its contract.
  More of lists of structs in memory: made (zeros), copied: no program here.
  slices.Repeat of one record, up to four times, by its contract.
  More steps of a region: a nil check passed, one cell or one struct stored into a block that is known whole, some numbers copied to its head: no program here.
  What a machine of package vm holds, as plain functions: its cells, one operation more, and that its numbers fit: no program here but the kinds.
  What a job is to tell, as plain functions: the records that are not dead, each key's values as one, the keys in order: no program here but the kinds of its lists.
  The method run of package vm's machine, by its contract: its registers and slots are what the operations leave, one by one.
  Package vm's Fold and Finish, by their contracts.
-/
import Derived.Test.YtipmfficjomcoaaDoorB2
import Derived.OwnWalk
import Derived.Deep.MidRow
import Derived.Maps.AppendAt
import Derived.Lib.BufferOwn
import Derived.Great.BuildSlice
import Derived.Great.FillDense
import Derived.Test.YtipmfficjomcoaaDoorB1
import Derived.WideShapes
import Derived.ChangeArms
import Derived.Laws.StructEq
import Derived.Laws.Bits128
import Derived.WalkMore
import Derived.Laws.Slices
import Derived.BigQuiet
import Derived.Laws.CopyOwn
set_option linter.unusedVariables false
namespace Go.Proofs.YtipmfficjomcoaaDoor.Sl
open Go.RowKit Go.Shelf Mem Held
structure St (α : Type) where
  s : Nat
  cells : α → List Value
  wf : α → Prop
  d : α
  len : ∀ x, (cells x).length = s
  one : ∀ x, ∀ u ∈ cells x, u.oneCell' = true
  pos : 0 < s
section
variable {α : Type} {k : St α}
def flat (k : St α) (xs : List α) : List Value := xs.flatMap k.cells
theorem flat_length (k : St α) : ∀ xs : List α, (flat k xs).length = xs.length * k.s
  | [] => by simp [flat]
  | x :: xs => by
    have := flat_length k xs
    simp only [flat, List.flatMap_cons, List.length_append, List.length_cons, k.len] at this ⊢
    rw [this, Nat.add_mul, Nat.one_mul, Nat.add_comm]
theorem flat_append (xs ys : List α) : flat k (xs ++ ys) = flat k xs ++ flat k ys := by simp [flat]
theorem flat_at : ∀ (xs : List α) (i j : Nat), j < k.s → i < xs.length → (flat k xs)[i * k.s + j]? = (k.cells (xs.getD i k.d))[j]?
  | [], i, j, _, h => absurd h (by simp)
  | x :: xs, 0, j, hj, _ => by
    simp only [flat, List.flatMap_cons, Nat.zero_mul, Nat.zero_add, List.getD_cons_zero]
    rw [List.getElem?_append_left (by rw [k.len]; exact hj)]
  | x :: xs, i + 1, j, hj, h => by
    have := flat_at xs i j hj (by simpa using h)
    simp only [flat, List.flatMap_cons, List.getD_cons_succ] at this ⊢
    have hm : (i + 1) * k.s + j = k.s + (i * k.s + j) := by rw [Nat.add_mul, Nat.one_mul]; omega
    rw [List.getElem?_append_right (by rw [k.len]; omega), k.len, hm, Nat.add_sub_cancel_left, this]
theorem flat_cell (xs : List α) : ∀ u ∈ flat k xs, u.oneCell' = true := fun u hu => by
  obtain ⟨x, _, h⟩ := List.mem_flatMap.1 hu
  exact k.one x u h
def Lst (k : St α) (w : World) (B : Nat) (A : Option Addr) (n : Nat) (xs : List α) : Prop :=
  xs.length = n ∧ (∀ x ∈ xs, k.wf x) ∧ (0 < n → ∃ b off, A = some ⟨b, off, none⟩ ∧ b < B ∧ w.rangeAt b off (flat k xs))
variable {w w' : World} {B B' n : Nat} {A : Option Addr} {xs : List α}
theorem Lst.nil (k : St α) (w : World) (B : Nat) (A : Option Addr) : Lst k w B A 0 [] := ⟨rfl, by simp, fun h => absurd h (by omega)⟩
theorem Lst.keep (h : Lst k w B A n xs) (hk : ∀ p : Addr, p.block < B → w'.cell? p = w.cell? p) : Lst k w' B A n xs :=
  ⟨h.1, h.2.1, fun hn => by
    obtain ⟨b, off, e, hb, hc⟩ := h.2.2 hn
    exact ⟨b, off, e, hb, fun j v hv => (hk ⟨b, off + j, none⟩ hb).trans (hc j v hv)⟩⟩
theorem Lst.more (h : Lst k w B A n xs) (hB : B ≤ B') : Lst k w B' A n xs :=
  ⟨h.1, h.2.1, fun hn => by
    obtain ⟨b, off, e, hb, hc⟩ := h.2.2 hn
    exact ⟨b, off, e, by omega, hc⟩⟩
theorem Lst.below (h : Lst k w B A n xs) (hb : Below B w w') : Lst k w' B A n xs := h.keep fun _ hp => hb.cell hp
theorem Lst.at_ (h : Lst k w B A n xs) {i : Nat} (hi : i < n) : ∃ b off, A = some ⟨b, off, none⟩ ∧ b < B ∧ w.rangeAt b (off + i * k.s) (k.cells (xs.getD i k.d)) := by
  obtain ⟨b, off, e, hb, hc⟩ := h.2.2 (by omega)
  refine ⟨b, off, e, hb, fun j v hv => ?_⟩
  have hj : j < k.s := by have := (List.getElem?_eq_some_iff.1 hv).1; rwa [k.len] at this
  rw [Nat.add_assoc]
  exact hc (i * k.s + j) v (by rw [flat_at xs i j hj (by rw [h.1]; exact hi)]; exact hv)
theorem lst_of_blk {g : Nat} {t : TypeId} {ys : List α} (h : Blk w g t (flat k (xs ++ ys)).toArray) (hw : ∀ x ∈ xs, k.wf x) : Lst k w w.heap.size (some ⟨g, 0, none⟩) xs.length xs :=
  ⟨rfl, hw, fun _ => ⟨g, 0, rfl, h.lt, fun j v hv => by
    rw [Nat.zero_add]
    refine h.cell ?_
    rw [List.getElem?_toArray, flat_append, List.getElem?_append_left (List.getElem?_eq_some_iff.1 hv).1]
    exact hv⟩⟩
theorem lst_whole {g : Nat} {t : TypeId} (h : Blk w g t (flat k xs).toArray) (hn : xs.length = n) (hw : ∀ x ∈ xs, k.wf x) : Lst k w w.heap.size (some ⟨g, 0, none⟩) n xs := by
  subst hn
  exact lst_of_blk (ys := []) (by rw [List.append_nil]; exact h) hw
def OwnL (k : St α) (t : TypeId) (w : World) (base : Nat) (v : Value) (xs : List α) : Prop := w.ownsRow base t k.s v xs.length (flat k xs)
variable {t : TypeId} {base : Nat} {v : Value}
theorem OwnL.nil (k : St α) (t : TypeId) (w : World) (base : Nat) : OwnL k t w base (.slice none 0 0) [] := ⟨by simp [flat], .inl ⟨rfl, rfl⟩⟩
theorem OwnL.form (h : OwnL k t w base v xs) : ∃ A c, v = .slice A xs.length c ∧ xs.length ≤ c ∧ c ≤ maxLen := Held.row_form h
theorem OwnL.form2 (h : OwnL k t w base v xs) : ∃ A n c, v = .slice A n c ∧ Hid (xs.length = n) ∧ n ≤ c ∧ c ≤ maxLen := by
  obtain ⟨A, c, e, h1, h2⟩ := h.form
  exact ⟨A, _, c, e, Lib.hid rfl, h1, h2⟩
theorem OwnL.ne_blk (h : OwnL k t w base v xs) {g : Nat} {t' : TypeId} {cs : Array Value} (hb : Blk w g t' cs) (ht : t ≠ t') : v.ownBlock ≠ some g := fun e => by
  rcases h.2 with ⟨rfl, _⟩ | ⟨g', cap, cur, rfl, _, hg, _⟩
  · cases e
  · have e : some g' = some g := e
    injection e with e
    subst e
    have hb : w.heap[g']? = some (.cells cs t' (0, 0)) := hb
    rw [hg] at hb
    injection hb with hb
    injection hb with _ hb
    exact ht hb
theorem OwnL.kept (h : OwnL k t w base v xs) {row : Option Nat} (hg : w.grownBy w' row) (hne : v.ownBlock = none ∨ v.ownBlock ≠ row) : OwnL k t w' base v xs := World.ownsRow.kept h hg hne
theorem OwnL.below (h : OwnL k t w base v xs) (hb : Below w.heap.size w w') : OwnL k t w' base v xs := h.kept (grown_of_below hb none) (by cases v.ownBlock <;> simp)
theorem OwnL.lt (h : OwnL k t w base v xs) : ∀ b, v.ownBlock = some b → base ≤ b ∧ b < w.heap.size := World.ownsRow.lt h
theorem OwnL.less (h : OwnL k t w base v xs) {b : Nat} (hb : b ≤ base) : OwnL k t w b v xs := by
  refine ⟨h.1, ?_⟩
  rcases h.2 with h0 | ⟨g, cap, cur, e, hg, rest⟩
  · exact .inl h0
  · exact .inr ⟨g, cap, cur, e, Nat.le_trans hb hg, rest⟩
end
section
variable {α : Type} {k : St α} {P : Program} {ops : Array Oper} {rest : List Oper} {o : Oper} {a : Act} {w : World} {Q : Exit → Act → World → Prop}
theorem wpList_build_lst (hgd : o.guard = none) (ts e : TypeId) (n : Nat) (parts : Array (Nat × Operand)) (ho : o.op = .buildSlice ts n parts) (hu : P.underlying ts = some (.slice e)) (z : Value) (bytes : Nat) (hinfo : (P.info? e).map (fun i => (i.zero, i.size, i.bytes)) = some (some z, k.s, bytes)) (hz : z.cells.size = k.s)
    (xs : List α) (hn : xs.length = n) (hp : (parts.map fun (i, x) => (i, a.eval x)).toList = ((xs.map fun x => Value.agg (k.cells x).toArray).zipIdx 0).map fun x => (x.2, x.1)) (h0 : 0 < n) (h24 : n * k.s ≤ 16777216)
    (h : ∀ w', Blk w' w.heap.size e (flat k xs).toArray → w.grownBy w' none → Hid (w'.heap.size = w.heap.size + 1) → wpList P ops Q rest (a.put o.dst (.slice (some ⟨w.heap.size, 0, none⟩) n n)) w') : wpList P ops Q (o :: rest) a w := by
  obtain ⟨ie, hie, hz0, hs, hb⟩ := info_parts hinfo
  refine Go.wpList_buildSlice hgd ts e n parts ho (flat k xs).toArray ie z hu hie hz0 (by rw [hs]; omega) (by rw [hs]; have := Nat.mul_pos h0 k.pos; omega) ?_ (h _ (heap_alloc_new w _) (World.grownBy_alloc w _ none) (Lib.hid (by simp)))
  rw [hp, hs]
  refine (Great.fill_whole k.pos (xs.map fun x => Value.agg (k.cells x).toArray) _ (fun v hv => ?_) (by simp [hn])).trans ?_
  · obtain ⟨x, _, rfl⟩ := List.mem_map.1 hv
    simp [Value.cells, k.len]
  · rw [List.flatMap_map]
    simp [flat, Value.cells]
theorem wpList_append_lst (hgd : o.guard = none) (s x : Operand) (ts e : TypeId) (ho : o.op = .call { callee := .builtin .append, args := #[s, x], argTypes := #[ts, ts] }) (hu : P.underlying ts = some (.slice e)) (z : Value) (bytes : Nat) (hinfo : (P.info? e).map (fun i => (i.zero, i.size, i.bytes)) = some (some z, k.s, bytes)) (hz : z.cells.size = k.s)
    (base B g off m c : Nat) (v : Value) (xs ys : List α) (hs : a.eval s = v) (hx : a.eval x = .slice (some ⟨g, off, none⟩) m c) (hown : OwnL k e w base v xs) (hq : Lst k w B (some ⟨g, off, none⟩) m ys) (hm : xs.length + m ≤ 1048576) (hby : bytes ≤ 1048576) (hbase : base ≤ w.heap.size)
    (h : ∀ v' w', OwnL k e w' base v' (xs ++ ys) → w.grownBy w' v.ownBlock → (v'.ownBlock = v.ownBlock ∨ v'.ownBlock = some w.heap.size) → wpList P ops Q rest (a.put o.dst v') w') : wpList P ops Q (o :: rest) a w := by
  obtain ⟨ie, hie, hz0, hsz, hb⟩ := info_parts hinfo
  have hcells : ∀ j u, (flat k ys)[j]? = some u → w.cell? ((Addr.mk g off none).add j) = some u := fun j u hu => by
    have hj := (List.getElem?_eq_some_iff.1 hu).1
    have hm0 : 0 < m := by
      rcases Nat.eq_zero_or_pos m with h0 | h0
      · have : ys = [] := List.eq_nil_of_length_eq_zero (by rw [hq.1, h0])
        rw [this] at hj
        simp [flat] at hj
      · exact h0
    obtain ⟨b, off', e, _, hc⟩ := hq.2.2 hm0
    injection e with e
    injection e with e1 e2
    subst e1
    subst e2
    rw [show (Addr.mk g off none).add j = ⟨g, off + j, none⟩ by (unfold Addr.add; split <;> simp_all)]
    exact hc j u hu
  refine wpList_append_own_at w hgd s x ts ho base e ie _ k.s bytes hu hie hz0 hsz hb hz k.pos v xs.length (flat k xs) hs hown ⟨g, off, none⟩ m c (flat k ys) hx (by rw [flat_length, hq.1]) hcells (flat_cell ys) (by unfold maxLen; omega)
    (Nat.le_trans (Nat.mul_le_mul hm hby) (by omega)) hbase ?_
  intro v' w' h1 h2 _ h4
  refine h v' w' ?_ h2 h4
  unfold OwnL
  rw [flat_append, List.length_append, hq.1]
  exact h1
end
end Go.Proofs.YtipmfficjomcoaaDoor.Sl
namespace Go.Proofs.YtipmfficjomcoaaDoor.Sh
open Go.RowKit Go.Shelf Mem Held Sl
structure Tk where
  kd : Int
  rd : Int
  a : Int
  b : Int
  up : Bool
structure Sp where
  ph : Int
  rd : Int
  ad : Int
structure Gr where
  kd : Int
  rd : Int
  sz : Nat
  fi : Nat
def Tk.cells (t : Tk) : List Value := [.int .i64 t.kd, .int .i64 t.rd, .int .i64 t.a, .int .i64 t.b, .bool t.up]
def Sp.cells (s : Sp) : List Value := [.int .i64 s.ph, .int .i64 s.rd, .int .i64 s.ad]
def Tk.wf (t : Tk) : Prop := (Lit.int .i64 t.kd).wf = true ∧ (Lit.int .i64 t.rd).wf = true ∧ (Lit.int .i64 t.a).wf = true ∧ (Lit.int .i64 t.b).wf = true
def Sp.wf (s : Sp) : Prop := (Lit.int .i64 s.ph).wf = true ∧ (Lit.int .i64 s.rd).wf = true ∧ (Lit.int .i64 s.ad).wf = true
def S0 : Sp := ⟨0, 0, 0⟩
theorem tk_one (t : Tk) : ∀ u ∈ t.cells, u.oneCell' = true := fun u hu => by
  simp only [Tk.cells, List.mem_cons, List.not_mem_nil, or_false] at hu
  rcases hu with rfl | rfl | rfl | rfl | rfl <;> rfl
theorem sp_one (s : Sp) : ∀ u ∈ s.cells, u.oneCell' = true := fun u hu => by
  simp only [Sp.cells, List.mem_cons, List.not_mem_nil, or_false] at hu
  rcases hu with rfl | rfl | rfl <;> rfl
def kS : St Sp := ⟨3, Sp.cells, Sp.wf, S0, fun _ => rfl, sp_one, by omega⟩
theorem Tk.ext' {x y : Tk} (h1 : x.kd = y.kd) (h2 : x.rd = y.rd) (h3 : x.a = y.a) (h4 : x.b = y.b) (h5 : x.up = y.up) : x = y := by
  cases x
  cases y
  simp_all
instance decT : DecidableEq Tk := fun x y =>
  if h : x.kd = y.kd ∧ x.rd = y.rd ∧ x.a = y.a ∧ x.b = y.b ∧ x.up = y.up then .isTrue (Tk.ext' h.1 h.2.1 h.2.2.1 h.2.2.2.1 h.2.2.2.2)
  else .isFalse fun e => h (by rw [e]; exact ⟨rfl, rfl, rfl, rfl, rfl⟩)
theorem Sp.ext' {x y : Sp} (h1 : x.ph = y.ph) (h2 : x.rd = y.rd) (h3 : x.ad = y.ad) : x = y := by
  cases x
  cases y
  simp_all
instance decS : DecidableEq Sp := fun x y =>
  if h : x.ph = y.ph ∧ x.rd = y.rd ∧ x.ad = y.ad then .isTrue (Sp.ext' h.1 h.2.1 h.2.2)
  else .isFalse fun e => h (by rw [e]; exact ⟨rfl, rfl, rfl⟩)
def stF : Nat → Nat → Nat → Nat × Nat
  | 0, s, r => (s, s - r)
  | f + 1, s, r => if r < s then (s, s - r) else stF f (s + 1) (r - s)
def stT (r : Nat) : Nat × Nat := stF 16 1 r
theorem stF_stp : ∀ (f s r S : Nat), 1 ≤ s → s ≤ S → Bi.tri (s - 1) + r < Bi.tri S → S ≤ s + f → Bi.Stp S ((Bi.tri (s - 1) + r : Nat) : Int) (stF f s r).1 (stF f s r).2
  | 0, s, r, S => by
    intro h1 h2 h3 h4
    obtain rfl : s = S := by omega
    obtain ⟨q, rfl⟩ : ∃ q, s = q + 1 := ⟨s - 1, by omega⟩
    rw [Bi.tri_succ, Nat.add_sub_cancel] at h3
    refine ⟨by simp only [stF]; omega, by simp only [stF]; omega, Nat.le_refl _, ?_⟩
    simp only [stF, Nat.add_sub_cancel]
    omega
  | f + 1, s, r, S => by
    intro h1 h2 h3 h4
    obtain ⟨q, rfl⟩ : ∃ q, s = q + 1 := ⟨s - 1, by omega⟩
    unfold stF
    split
    · rename_i h
      refine ⟨by simp only; omega, by simp only; omega, h2, ?_⟩
      simp only [Nat.add_sub_cancel]
      omega
    · rename_i h
      have hS : q + 1 ≠ S := by
        rintro rfl
        rw [Bi.tri_succ, Nat.add_sub_cancel] at h3
        omega
      have e := Bi.tri_succ q
      have := stF_stp f (q + 1 + 1) (r - (q + 1)) S (by omega) (by omega) (by simp only [Nat.add_sub_cancel] at h3 ⊢; omega) (by omega)
      simp only [Nat.add_sub_cancel] at this ⊢
      rw [show Bi.tri q + r = Bi.tri (q + 1) + (r - (q + 1)) by omega]
      exact this
theorem stT_stp {r S : Nat} (h : r < Bi.tri S) (hS : S ≤ 16) : Bi.Stp S (r : Int) (stT r).1 (stT r).2 := by
  have h1 : 1 ≤ S := by
    rcases Nat.eq_zero_or_pos S with e | e
    · subst e; rw [Bi.tri_zero] at h; omega
    · exact e
  have := stF_stp 16 1 r S (by omega) h1 (by simp only [Nat.sub_self, Bi.tri_zero]; omega) (by omega)
  simpa [stT, Bi.tri_zero] using this
def pairT (kd : Int) (M r a : Nat) : Tk := ⟨kd, (r : Int) + 1, a, (a : Int) + 2 ^ ((stT r).2 - 1), Bi.upV M (stT r).1 (stT r).2 true a⟩
def roundT (kd : Int) (M r : Nat) : List Tk := (Net.firsts (2 ^ ((stT r).2 - 1)) M).map (pairT kd M r)
def sortsT (kd : Int) (M T : Nat) : List Tk := (List.range T).flatMap (roundT kd M)
def oneT (kd : Int) (a : Nat) : Tk := ⟨kd, 0, a, 0, false⟩
def tasksT (I mp M T : Nat) : List Tk :=
  (List.range I).map (oneT 1) ++ (List.range (M - mp)).map (fun i => oneT 2 (mp + i)) ++ sortsT 3 M T ++ (List.range M).map (oneT 4) ++ sortsT 5 M T
def tkOf (mp M : Nat) (g : Gr) : List Tk := if g.rd = 0 then (List.range g.sz).map (fun i => oneT g.kd ((if g.kd = 2 then mp else 0) + i)) else roundT g.kd M (g.rd - 1).toNat
def nrK (T k : Nat) : Nat := if k = 3 ∨ k = 5 then T else 1
def frK (k : Nat) : Nat := if k = 3 ∨ k = 5 then 1 else 0
def szK (I mp M k : Nat) : Nat := if k = 1 then I else if k = 2 then M - mp else if k = 4 then M else M / 2
def ixK (T : Nat) : Nat → Nat
  | 0 => 0
  | 1 => 0
  | k + 1 => ixK T k + nrK T k
def cnK (I mp M T : Nat) : Nat → Nat
  | 0 => 0
  | 1 => 0
  | k + 1 => cnK I mp M T k + nrK T k * szK I mp M k
def grK (I mp M T k i : Nat) : Gr := ⟨k, (frK k + i : Nat), szK I mp M k, cnK I mp M T k + i * szK I mp M k⟩
def grsK (I mp M T k : Nat) : List Gr := (List.range (nrK T k)).map (grK I mp M T k)
def grs (I mp M T : Nat) : List Gr := grsK I mp M T 1 ++ grsK I mp M T 2 ++ grsK I mp M T 3 ++ grsK I mp M T 4 ++ grsK I mp M T 5
section
variable {I mp M T : Nat}
theorem grsK_length (k : Nat) : (grsK I mp M T k).length = nrK T k := by simp [grsK]
theorem grs_length : (grs I mp M T).length = ixK T 6 := by simp [grs, grsK_length, ixK, nrK]; omega
theorem grs_at {k i : Nat} (h1 : 1 ≤ k) (h5 : k ≤ 5) (hi : i < nrK T k) : (grs I mp M T)[ixK T k + i]? = some (grK I mp M T k i) := by
  have hk : k = 1 ∨ k = 2 ∨ k = 3 ∨ k = 4 ∨ k = 5 := by omega
  have hg : ∀ k i, i < nrK T k → (grsK I mp M T k)[i]? = some (grK I mp M T k i) := fun k i hi => by simp [grsK, hi]
  unfold grs
  rcases hk with rfl | rfl | rfl | rfl | rfl
  all_goals simp [nrK] at hi
  · subst hi
    have e := hg 1 0 (by simp [nrK])
    rw [List.append_assoc, List.append_assoc, List.append_assoc, List.getElem?_append_left (by simp [grsK_length, ixK, nrK])]
    exact e
  · subst hi
    have e := hg 2 0 (by simp [nrK])
    rw [List.append_assoc, List.append_assoc, List.append_assoc, List.getElem?_append_right (by simp [grsK_length, ixK, nrK]), List.getElem?_append_left (by simp [grsK_length, ixK, nrK])]
    simpa [grsK_length, ixK, nrK] using e
  · have e := hg 3 i (by simp [nrK]; exact hi)
    rw [List.append_assoc, List.append_assoc, List.getElem?_append_right (by simp [grsK_length, ixK, nrK]), List.getElem?_append_left (by simp [grsK_length, ixK, nrK]; omega)]
    rw [show ixK T 3 + i - (grsK I mp M T 1 ++ grsK I mp M T 2).length = i by simp [grsK_length, ixK, nrK]]
    exact e
  · subst hi
    have e := hg 4 0 (by simp [nrK])
    have l3 : (grsK I mp M T 1 ++ grsK I mp M T 2 ++ grsK I mp M T 3).length = ixK T 4 := by simp [grsK_length, ixK, nrK]; omega
    rw [List.append_assoc, List.getElem?_append_right (by rw [l3]; omega), List.getElem?_append_left (by rw [l3, grsK_length]; simp [nrK])]
    rw [l3, Nat.add_zero, Nat.sub_self]
    exact e
  · have e := hg 5 i (by simp [nrK]; exact hi)
    rw [List.getElem?_append_right (by simp [grsK_length, ixK, nrK]; omega)]
    rw [show ixK T 5 + i - (grsK I mp M T 1 ++ grsK I mp M T 2 ++ grsK I mp M T 3 ++ grsK I mp M T 4).length = i by simp [grsK_length, ixK, nrK]; omega]
    exact e
theorem grs_end : (grs I mp M T)[ixK T 6]? = none := by
  rw [List.getElem?_eq_none_iff, grs_length]
  exact Nat.le_refl _
def Chn (f : Gr → List Tk) : Nat → List Gr → Prop
  | _, [] => True
  | c, g :: r => g.fi = c ∧ (f g).length = g.sz ∧ Chn f (c + g.sz) r
theorem chn_append {f : Gr → List Tk} : ∀ {a b : List Gr} {c : Nat}, Chn f c a → Chn f (c + (a.flatMap f).length) b → Chn f c (a ++ b)
  | [], b, c, _, h => by simpa using h
  | g :: a, b, c, h, h' => by
    obtain ⟨h1, h2, h3⟩ := h
    refine ⟨h1, h2, chn_append h3 ?_⟩
    rw [List.flatMap_cons, List.length_append, h2, ← Nat.add_assoc] at h'
    exact h'
theorem chn_at {f : Gr → List Tk} : ∀ {gs : List Gr} {c k : Nat} {g : Gr}, Chn f c gs → gs[k]? = some g → c + ((gs.take k).flatMap f).length = g.fi ∧ (f g).length = g.sz
  | [], _, _, _, _, h => by simp at h
  | g :: r, c, 0, g', h, e => by
    simp at e
    subst e
    exact ⟨by simp; exact h.1.symm, h.2.1⟩
  | g :: r, c, k + 1, g', h, e => by
    have := chn_at h.2.2 (k := k) (g := g') (by simpa using e)
    refine ⟨?_, this.2⟩
    rw [List.take_succ_cons, List.flatMap_cons, List.length_append, h.2.1, ← Nat.add_assoc]
    exact this.1
theorem flat_split {f : Gr → List Tk} {gs : List Gr} {k : Nat} {g : Gr} (h : gs[k]? = some g) : gs.flatMap f = (gs.take k).flatMap f ++ f g ++ (gs.drop (k + 1)).flatMap f := by
  have hlt := (List.getElem?_eq_some_iff.1 h).1
  have e : gs = gs.take k ++ g :: gs.drop (k + 1) := by
    rw [← (List.getElem?_eq_some_iff.1 h).2, List.getElem_cons_drop, List.take_append_drop]
  conv => lhs; rw [e]
  rw [List.flatMap_append, List.flatMap_cons, List.append_assoc]
theorem flat_at {f : Gr → List Tk} {gs : List Gr} {k i : Nat} {g : Gr} (hc : Chn f 0 gs) (h : gs[k]? = some g) (hi : i < g.sz) : (gs.flatMap f)[g.fi + i]? = (f g)[i]? := by
  obtain ⟨h1, h2⟩ := chn_at hc h
  rw [Nat.zero_add] at h1
  rw [flat_split h, List.append_assoc, List.getElem?_append_right (by omega), h1, Nat.add_sub_cancel_left, List.getElem?_append_left (by omega)]
theorem take_next {f : Gr → List Tk} {gs : List Gr} {k : Nat} {g : Gr} (hc : Chn f 0 gs) (h : gs[k]? = some g) : ((gs.take (k + 1)).flatMap f).length = g.fi + g.sz := by
  obtain ⟨h1, h2⟩ := chn_at hc h
  rw [List.take_add_one, h, List.flatMap_append, List.length_append, Option.toList_some, List.flatMap_cons, List.flatMap_nil, List.append_nil, h2]
  omega
theorem take_end {f : Gr → List Tk} {gs : List Gr} {k : Nat} (h : gs[k]? = none) : (gs.take k).flatMap f = gs.flatMap f := by
  rw [List.getElem?_eq_none_iff] at h
  rw [List.take_of_length_le h]
theorem half_pairs {S : Nat} (h1 : 1 ≤ S) (h5 : S ≤ 5) {r : Nat} (hr : r < Bi.tri S) : (Net.firsts (2 ^ ((stT r).2 - 1)) (2 ^ S)).length = 2 ^ S / 2 := by
  have hT : ∀ S : Fin 6, ∀ r : Fin 15, 1 ≤ S.val → r.val < Bi.tri S.val → (Net.firsts (2 ^ ((stT r.val).2 - 1)) (2 ^ S.val)).length = 2 ^ S.val / 2 := by decide +kernel
  have h15 : Bi.tri S ≤ 15 := Bi.tri_mono h5
  exact hT ⟨S, by omega⟩ ⟨r, by omega⟩ h1 hr
structure JobP (K : Int) (I mp M T : Nat) : Prop where
  K0 : -9223372036854775808 ≤ K
  K1 : K ≤ 9223372036854775807
  e : K * I = mp
  le : mp ≤ M
  m32 : M ≤ 32
  i32 : I ≤ M
  T : Bi.tri (Bi.stg M) = T
  S : M = 0 ∨ ∃ S, 1 ≤ S ∧ S ≤ 5 ∧ M = 2 ^ S
variable {K : Int}
theorem JobP.t15 (h : JobP K I mp M T) : T ≤ 15 := by
  rw [← h.T]
  rcases h.S with e | ⟨S, h1, h5, e⟩
  · rw [e]; decide
  · rw [e, ← Bi.two_nat, Bi.stg_pow (by omega)]; exact Bi.tri_mono h5
theorem JobP.round (h : JobP K I mp M T) {r : Nat} (hr : r < T) : Bi.Found (Bi.stg M) r (stT r).1 (stT r).2 true := .inl ⟨rfl, stT_stp (by rw [h.T]; exact hr) (Bi.stg_le _)⟩
theorem JobP.half (h : JobP K I mp M T) {r : Nat} (hr : r < T) : (Net.firsts (2 ^ ((stT r).2 - 1)) M).length = M / 2 := by
  have ht := h.T
  rcases h.S with e | ⟨S, h1, h5, e⟩
  · rw [e] at ht
    have : Bi.tri (Bi.stg ((0 : Nat) : Int)) = 0 := by decide
    omega
  · rw [e, ← Bi.two_nat, Bi.stg_pow (by omega)] at ht
    rw [e]
    exact half_pairs h1 h5 (by omega)
theorem chn_rounds (h : JobP K I mp M T) (kd : Nat) (c : Nat) : ∀ n, n ≤ T → Chn (tkOf mp M) c ((List.range n).map (fun i => (⟨(kd : Int), ((1 + i : Nat) : Int), M / 2, c + i * (M / 2)⟩ : Gr))) ∧ (((List.range n).map (fun i => (⟨(kd : Int), ((1 + i : Nat) : Int), M / 2, c + i * (M / 2)⟩ : Gr))).flatMap (tkOf mp M)).length = n * (M / 2)
  | 0, _ => by simp [Chn]
  | n + 1, hn => by
    obtain ⟨h1, h2⟩ := chn_rounds h kd c n (by omega)
    have hl : (tkOf mp M ⟨(kd : Int), ((1 + n : Nat) : Int), M / 2, c + n * (M / 2)⟩).length = M / 2 := by
      unfold tkOf
      rw [if_neg (by simp only; omega)]
      simp only [roundT, List.length_map]
      rw [show (((1 + n : Nat) : Int) - 1).toNat = n by omega]
      exact h.half (by omega)
    rw [List.range_succ, List.map_append, List.map_cons, List.map_nil]
    refine ⟨chn_append h1 ⟨by simp only [h2], hl, trivial⟩, ?_⟩
    rw [List.flatMap_append, List.length_append, h2, Nat.add_mul]
    rw [List.flatMap_cons, List.flatMap_nil, List.append_nil, hl, Nat.one_mul]
theorem singles_length (kd : Nat) (sz c : Nat) : (tkOf mp M ⟨kd, 0, sz, c⟩).length = sz := by simp [tkOf]
theorem grs_chn (h : JobP K I mp M T) : Chn (tkOf mp M) 0 (grs I mp M T) ∧ ((grs I mp M T).flatMap (tkOf mp M)).length = cnK I mp M T 6 := by
  have e1 : grsK I mp M T 1 = [⟨1, 0, I, 0⟩] := by simp [grsK, nrK, grK, frK, szK, cnK]
  have e2 : grsK I mp M T 2 = [⟨2, 0, M - mp, I⟩] := by simp [grsK, nrK, grK, frK, szK, cnK]
  have e3 : grsK I mp M T 3 = (List.range T).map (fun i => ⟨(3 : Nat), ((1 + i : Nat) : Int), M / 2, (I + (M - mp)) + i * (M / 2)⟩) := by simp [grsK, nrK]; intro a _; simp [grK, frK, szK, cnK, nrK]
  have e4 : grsK I mp M T 4 = [⟨4, 0, M, I + (M - mp) + T * (M / 2)⟩] := by simp [grsK, nrK, grK, frK, szK, cnK]
  have e5 : grsK I mp M T 5 = (List.range T).map (fun i => ⟨(5 : Nat), ((1 + i : Nat) : Int), M / 2, (I + (M - mp) + T * (M / 2) + M) + i * (M / 2)⟩) := by simp [grsK, nrK]; intro a _; simp [grK, frK, szK, cnK, nrK]
  obtain ⟨c3, l3⟩ := chn_rounds h 3 (I + (M - mp)) T (Nat.le_refl _)
  obtain ⟨c5, l5⟩ := chn_rounds h 5 (I + (M - mp) + T * (M / 2) + M) T (Nat.le_refl _)
  have s1 := singles_length (mp := mp) (M := M) 1 I 0
  have s2 := singles_length (mp := mp) (M := M) 2 (M - mp) I
  have s4 := singles_length (mp := mp) (M := M) 4 M (I + (M - mp) + T * (M / 2))
  unfold grs
  rw [e1, e2, e3, e4, e5]
  have s1 : (tkOf mp M ⟨1, 0, I, 0⟩).length = I := s1
  have s2 : (tkOf mp M ⟨2, 0, M - mp, I⟩).length = M - mp := s2
  have s4 : (tkOf mp M ⟨4, 0, M, I + (M - mp) + T * (M / 2)⟩).length = M := s4
  refine ⟨chn_append (chn_append (chn_append (chn_append ⟨rfl, s1, trivial⟩ ⟨?_, s2, trivial⟩) ?_) ⟨?_, s4, trivial⟩) ?_, ?_⟩
  · simp [s1]
  · simp only [List.flatMap_append, List.flatMap_cons, List.flatMap_nil, List.append_nil, List.length_append, s1, s2, Nat.zero_add]
    exact c3
  · simp only [List.flatMap_append, List.flatMap_cons, List.flatMap_nil, List.append_nil, List.length_append, s1, s2, l3, Nat.zero_add]
  · simp only [List.flatMap_append, List.flatMap_cons, List.flatMap_nil, List.append_nil, List.length_append, s1, s2, l3, s4, Nat.zero_add]
    exact c5
  · simp only [List.flatMap_append, List.flatMap_cons, List.flatMap_nil, List.append_nil, List.length_append, s1, s2, l3, s4, l5]
    simp [cnK, nrK, szK]
theorem grs_tasks : (grs I mp M T).flatMap (tkOf mp M) = tasksT I mp M T := by
  unfold grs tasksT
  simp only [List.flatMap_append]
  have h1 : (grsK I mp M T 1).flatMap (tkOf mp M) = (List.range I).map (oneT 1) := by simp [grsK, nrK, grK, frK, szK, tkOf]
  have h2 : (grsK I mp M T 2).flatMap (tkOf mp M) = (List.range (M - mp)).map (fun i => oneT 2 (mp + i)) := by simp [grsK, nrK, grK, frK, szK, tkOf]
  have h4 : (grsK I mp M T 4).flatMap (tkOf mp M) = (List.range M).map (oneT 4) := by simp [grsK, nrK, grK, frK, szK, tkOf]
  have hs : ∀ k, (k = 3 ∨ k = 5) → (grsK I mp M T k).flatMap (tkOf mp M) = sortsT k M T := fun k hk => by
    unfold sortsT grsK
    rw [List.flatMap_map]
    rw [show nrK T k = T by simp [nrK, hk]]
    congr 1
    funext i
    unfold tkOf grK
    rw [if_neg (by simp [frK, hk]; omega)]
    simp only
    congr 1
    simp [frK, hk]
    omega
  rw [h1, h2, h4, hs 3 (.inl rfl), hs 5 (.inr rfl)]
  rfl
end
end Go.Proofs.YtipmfficjomcoaaDoor.Sh
namespace Go.Proofs.YtipmfficjomcoaaDoor.Rc
open Go.RowKit Go.ChangeShapes Go.WideShapes Mem
section
variable {H : Type} {enc : TypeId × Value → H} {w : World} {base : Nat} {spare : Nat → Bool} {held : Bool}
theorem field_int {cs : List Value} {j n : Nat} {t : TypeId} {k : IntKind} {x : Option (DataW H × List MemPlace)} (hj : j < cs.length) (ht : Tryd.prog.underlying t = some (.int k)) (h : DataW.trod enc Tryd.prog w base spare held n t ((cs.drop j).take 1) = x) (hx : x.isSome = true) : ∃ z, cs[j]? = some (.int k z) ∧ (Lit.int k z).wf = true := by
  obtain ⟨y, rfl⟩ := Option.isSome_iff_exists.1 hx
  obtain ⟨z, h2, _, h3⟩ := DataW.trod_int ht h
  rw [List.drop_eq_getElem_cons hj] at h2
  simp only [List.take_succ_cons, List.take_zero] at h2
  exact ⟨z, by rw [List.getElem?_eq_getElem hj, (List.cons.inj h2).1], h3⟩
end
section
variable {S : World → Prop} {ρ : Operand → Value} {o : Oper}
end
end Go.Proofs.YtipmfficjomcoaaDoor.Rc
namespace Go.Proofs.YtipmfficjomcoaaDoor.Rc
open Go.RowKit Go.Shelf Go.Proofs.YtipmfficjomcoaaDoor Mem Help Go.Proofs.YtipmfficjomcoaaDoor.Sum Po Ky Ct Go.Proofs.YtipmfficjomcoaaDoor.Bit Held Go.Proofs.YtipmfficjomcoaaDoor.Range
attribute [local go_sem] Oper.semAt_some
attribute [local irreducible] wpList wpListIn Calls
def may (n0 n1 n2 n3 : Int) : Bool := decide (n0 = 0) || (decide (n0 = 1) && decide (n1 = 0 ∧ n2 = 0 ∧ n3 = 0))
end Go.Proofs.YtipmfficjomcoaaDoor.Rc
namespace Go.Proofs.YtipmfficjomcoaaDoor.Rc
open Go.RowKit Go.Shelf Go.Proofs.YtipmfficjomcoaaDoor Mem Help Go.Proofs.YtipmfficjomcoaaDoor.Sum Po Ky Ct Go.Proofs.YtipmfficjomcoaaDoor.Bit Held Go.Proofs.YtipmfficjomcoaaDoor.Range
attribute [local go_sem] Oper.semAt_some
attribute [local irreducible] wpList wpListIn Calls
end Go.Proofs.YtipmfficjomcoaaDoor.Rc
namespace Go.Proofs.YtipmfficjomcoaaDoor.Rs
open Go.RowKit Go.Shelf Mem Held Rc
structure R where
  d : Bool
  k : Int
  v : Int
  s : Int
theorem R.eq {a b : R} (h1 : a.d = b.d) (h2 : a.k = b.k) (h3 : a.v = b.v) (h4 : a.s = b.s) : a = b := by
  cases a
  cases b
  simp_all
instance decR : DecidableEq R := fun a b =>
  if h : a.d = b.d ∧ a.k = b.k ∧ a.v = b.v ∧ a.s = b.s then .isTrue (R.eq h.1 h.2.1 h.2.2.1 h.2.2.2)
  else .isFalse fun e => h (by rw [e]; exact ⟨rfl, rfl, rfl, rfl⟩)
def R.wf (r : R) : Prop := (Lit.int .i64 r.k).wf = true ∧ (Lit.int .i64 r.v).wf = true ∧ (Lit.int .i64 r.s).wf = true
def R.cells (r : R) : List Value := [.bool r.d, .int .i64 r.k, .int .i64 r.v, .int .i64 r.s]
def R0 : R := ⟨false, 0, 0, 0⟩
def flat (rs : List R) : List Value := rs.flatMap R.cells
theorem flat_length : ∀ rs : List R, (flat rs).length = rs.length * 4
  | [] => rfl
  | r :: rs => by
    have := flat_length rs
    simp only [flat, List.flatMap_cons, List.length_append, List.length_cons, R.cells, List.length_nil] at this ⊢
    omega
theorem flat_append (rs qs : List R) : flat (rs ++ qs) = flat rs ++ flat qs := by simp [flat]
theorem flat_at : ∀ (rs : List R) (i j : Nat), j < 4 → i < rs.length → (flat rs)[i * 4 + j]? = (rs.getD i R0).cells[j]?
  | [], i, j, _, h => absurd h (by simp)
  | r :: rs, 0, j, hj, _ => by
    simp only [flat, List.flatMap_cons, Nat.zero_mul, Nat.zero_add, List.getD_cons_zero]
    rw [List.getElem?_append_left (by simp [R.cells]; omega)]
  | r :: rs, i + 1, j, hj, h => by
    have := flat_at rs i j hj (by simpa using h)
    simp only [flat, List.flatMap_cons, List.getD_cons_succ] at this ⊢
    rw [List.getElem?_append_right (by simp [R.cells]; omega), show (i + 1) * 4 + j - r.cells.length = i * 4 + j by simp [R.cells]; omega, this]
def Recs (w : World) (B : Nat) (A : Option Addr) (n : Nat) (rs : List R) : Prop :=
  rs.length = n ∧ (∀ r ∈ rs, r.wf) ∧ (0 < n → ∃ b off, A = some ⟨b, off, none⟩ ∧ b < B ∧ w.rangeAt b off (flat rs))
section
variable {w w' : World} {B B' n : Nat} {A : Option Addr} {rs : List R}
theorem Recs.nil (w : World) (B : Nat) (A : Option Addr) : Recs w B A 0 [] := ⟨rfl, by simp, fun h => absurd h (by omega)⟩
theorem Recs.keep (h : Recs w B A n rs) (hk : ∀ p : Addr, p.block < B → w'.cell? p = w.cell? p) : Recs w' B A n rs :=
  ⟨h.1, h.2.1, fun hn => by
    obtain ⟨b, off, e, hb, hc⟩ := h.2.2 hn
    exact ⟨b, off, e, hb, fun j v hv => (hk ⟨b, off + j, none⟩ hb).trans (hc j v hv)⟩⟩
theorem Recs.more (h : Recs w B A n rs) (hB : B ≤ B') : Recs w B' A n rs :=
  ⟨h.1, h.2.1, fun hn => by
    obtain ⟨b, off, e, hb, hc⟩ := h.2.2 hn
    exact ⟨b, off, e, by omega, hc⟩⟩
theorem Recs.below (h : Recs w B A n rs) (hb : Below B w w') : Recs w' B A n rs := h.keep fun _ hp => hb.cell hp
theorem Recs.at_ (h : Recs w B A n rs) {i : Nat} (hi : i < n) : ∃ b off, A = some ⟨b, off, none⟩ ∧ b < B ∧ w.rangeAt b (off + i * 4) (rs.getD i R0).cells := by
  obtain ⟨b, off, e, hb, hc⟩ := h.2.2 (by omega)
  refine ⟨b, off, e, hb, fun j v hv => ?_⟩
  have hj : j < 4 := by have := (List.getElem?_eq_some_iff.1 hv).1; simpa [R.cells] using this
  rw [Nat.add_assoc]
  exact hc (i * 4 + j) v (by rw [flat_at rs i j hj (by rw [h.1]; exact hi)]; exact hv)
end
section
variable {P : Program} {ops : Array Oper} {Q : Exit → Act → World → Prop}
end
section
variable {P : Program} {S : World → Prop} {ρ : Operand → Value} {o : Oper}
end
end Go.Proofs.YtipmfficjomcoaaDoor.Rs
namespace Go.Proofs.YtipmfficjomcoaaDoor.Vm
open Go.RowKit Go.Shelf Mem Held Rc Rs Sl
structure O where
  code : Int
  d : Int
  a : Int
  b : Int
  c : Int
  n : Int
def O.wf (o : O) : Prop := (Lit.int .i64 o.code).wf = true ∧ (Lit.int .i64 o.d).wf = true ∧ (Lit.int .i64 o.a).wf = true ∧ (Lit.int .i64 o.b).wf = true ∧ (Lit.int .i64 o.c).wf = true ∧ (Lit.int .i64 o.n).wf = true
def O.cells (o : O) : List Value := [.int .i64 o.code, .int .i64 o.d, .int .i64 o.a, .int .i64 o.b, .int .i64 o.c, .int .i64 o.n]
def O0 : O := ⟨0, 0, 0, 0, 0, 0⟩
theorem O.ext' {x y : O} (h1 : x.code = y.code) (h2 : x.d = y.d) (h3 : x.a = y.a) (h4 : x.b = y.b) (h5 : x.c = y.c) (h6 : x.n = y.n) : x = y := by
  cases x
  cases y
  simp_all
instance decO : DecidableEq O := fun x y =>
  if h : x.code = y.code ∧ x.d = y.d ∧ x.a = y.a ∧ x.b = y.b ∧ x.c = y.c ∧ x.n = y.n then .isTrue (O.ext' h.1 h.2.1 h.2.2.1 h.2.2.2.1 h.2.2.2.2.1 h.2.2.2.2.2)
  else .isFalse fun e => h (by rw [e]; exact ⟨rfl, rfl, rfl, rfl, rfl, rfl⟩)
def isReg (x : Int) : Bool := decide (0 ≤ x) && decide (x < 8)
def mayO (o : O) (k : Int) : Bool := decide (1 ≤ o.code) && decide (o.code ≤ 12) && isReg o.d && isReg o.a && isReg o.b && isReg o.c && (!decide (o.code = 12) || (decide (0 ≤ o.n) && decide (o.n < k)))
def mayP (l : List O) (k : Int) : Bool := decide (l.length ≤ 40) && l.all (mayO · k)
def reg (r : List Int) (i : Int) : Int := r.getD i.toNat 0
def opV (o : O) (a b c : Int) : Int :=
  if o.code = 1 then o.n else if o.code = 2 then wrap64 (a + b) else if o.code = 3 then wrap64 (a - b) else if o.code = 4 then wrap64 (a * b)
  else if o.code = 5 then bits .and .i64 a b else if o.code = 6 then bits .or .i64 a b else if o.code = 7 then bits .xor .i64 a b
  else if o.code = 8 then (if a < b then 1 else 0) else if o.code = 9 then (if a = b then 1 else 0) else if o.code = 10 then (if a = 0 then c else b)
  else a / 2 ^ (b % 64).toNat
def stepR (o : O) (r : List Int) : List Int := if o.code = 12 then r else r.set o.d.toNat (opV o (reg r o.a) (reg r o.b) (reg r o.c))
def runR : List O → List Int → List Int
  | [], r => r
  | o :: l, r => runR l (stepR o r)
end Go.Proofs.YtipmfficjomcoaaDoor.Vm
namespace Go.Proofs.YtipmfficjomcoaaDoor.Vm
open Go.RowKit Go.Shelf Go.Proofs.YtipmfficjomcoaaDoor Mem Ct Go.Proofs.YtipmfficjomcoaaDoor.Bit Held Rc Rs Sl
attribute [local irreducible] wpList wpListIn Calls
def pk (c : Bool) (x y : Int) : Int := if c = true then x else y
end Go.Proofs.YtipmfficjomcoaaDoor.Vm
namespace Go.Proofs.YtipmfficjomcoaaDoor.Vm
open Go.RowKit Go.Shelf Go.Proofs.YtipmfficjomcoaaDoor Mem Ct Go.Proofs.YtipmfficjomcoaaDoor.Bit Held Rc Rs Sl
attribute [local irreducible] wpList wpListIn Calls
end Go.Proofs.YtipmfficjomcoaaDoor.Vm
namespace Go.Proofs.YtipmfficjomcoaaDoor.Rs
open Go.RowKit Go.Shelf Go.Proofs.YtipmfficjomcoaaDoor Mem Held Rc
attribute [local irreducible] wpList wpListIn Calls
end Go.Proofs.YtipmfficjomcoaaDoor.Rs
namespace Go.Proofs.YtipmfficjomcoaaDoor.Rs
open Go.RowKit Go.Shelf Go.Proofs.YtipmfficjomcoaaDoor Mem Held Rc
set_option maxRecDepth 100000
attribute [local irreducible] wpList wpListIn Calls
end Go.Proofs.YtipmfficjomcoaaDoor.Rs
namespace Go.Proofs.YtipmfficjomcoaaDoor.Rc
open Go.RowKit Go.Shelf Go.Proofs.YtipmfficjomcoaaDoor Mem Help Go.Proofs.YtipmfficjomcoaaDoor.Sum Po Ky Ct Go.Proofs.YtipmfficjomcoaaDoor.Bit Held Go.Proofs.YtipmfficjomcoaaDoor.Range
attribute [local go_sem] Oper.semAt_some
attribute [local irreducible] wpList wpListIn Calls
end Go.Proofs.YtipmfficjomcoaaDoor.Rc
namespace Go.Proofs.YtipmfficjomcoaaDoor.Rc
open Go.RowKit Go.Shelf Go.Proofs.YtipmfficjomcoaaDoor Mem Help Go.Proofs.YtipmfficjomcoaaDoor.Sum Po Ky Held
attribute [local irreducible] wpList wpListIn Calls
end Go.Proofs.YtipmfficjomcoaaDoor.Rc
namespace Go.Proofs.YtipmfficjomcoaaDoor.Mem
open Go.RowKit
def Flat (A : Option Addr) (cap : Nat) : Prop := cap = 0 ∨ A = none ∨ ∃ b off, A = some ⟨b, off, none⟩
theorem Flat.head (b off cap : Nat) : Flat (some ⟨b, off, none⟩) cap := .inr (.inr ⟨b, off, rfl⟩)
section
variable {P : Program} {t e : TypeId} {A : Option Addr} {n cap : Nat}
end
theorem Own.flat {w : World} {base : Nat} {t : TypeId} {k : IntKind} {A : Option Addr} {n c : Nat} {zs : List Int} (h : Own w base t k (.slice A n c) zs) : Flat A c := by
  rcases h.2.2 with ⟨hv, _⟩ | ⟨g, cap, cur, hv, _⟩
  · injection hv with e1; exact .inr (.inl e1)
  · injection hv with e1; exact .inr (.inr ⟨g, 0, e1⟩)
end Go.Proofs.YtipmfficjomcoaaDoor.Mem
namespace Go.Proofs.YtipmfficjomcoaaDoor.Rc
open Go.RowKit Go.Shelf Go.Proofs.YtipmfficjomcoaaDoor Mem Help Go.Proofs.YtipmfficjomcoaaDoor.Sum Po Ky Ct Go.Proofs.YtipmfficjomcoaaDoor.Bit Held
attribute [local irreducible] wpList wpListIn Calls
end Go.Proofs.YtipmfficjomcoaaDoor.Rc
namespace Go.Proofs.YtipmfficjomcoaaDoor.Rs
open Go.RowKit Go.Shelf Go.Proofs.YtipmfficjomcoaaDoor Mem Held Rc Po
attribute [local irreducible] wpList wpListIn Calls
def word (zs : List Int) (i : Nat) : List Int := (zs.drop (32 * i)).take 32
end Go.Proofs.YtipmfficjomcoaaDoor.Rs
namespace Go.Proofs.YtipmfficjomcoaaDoor.Rs
open Go.RowKit Go.Shelf Go.Proofs.YtipmfficjomcoaaDoor Mem
attribute [local irreducible] wpList wpListIn Calls
end Go.Proofs.YtipmfficjomcoaaDoor.Rs
namespace Go.Proofs.YtipmfficjomcoaaDoor.Rs
open Go.RowKit Go.Shelf Go.Proofs.YtipmfficjomcoaaDoor Mem Held Go.Proofs.YtipmfficjomcoaaDoor.Range Rc
attribute [local go_sem] Oper.semAt_some
attribute [local irreducible] wpList wpListIn Calls
theorem Recs.only {S : Nat → Prop} {w w' : World} {B n : Nat} {A : Option Addr} {rs : List R} (h : Recs w B A n rs) (ho : Only S w w') (hS : ∀ b, b < B → ¬ S b) : Recs w' B A n rs :=
  ⟨h.1, h.2.1, fun hn => by
    obtain ⟨b, off, e, hb, hc⟩ := h.2.2 hn
    exact ⟨b, off, e, hb, fun j v hv => ho.cell (p := ⟨b, off + j, none⟩) (hS b hb) (hc j v hv)⟩⟩
end Go.Proofs.YtipmfficjomcoaaDoor.Rs
namespace Go.Proofs.YtipmfficjomcoaaDoor.Vm
open Go.RowKit Go.Shelf Go.Proofs.YtipmfficjomcoaaDoor Mem Held Go.Proofs.YtipmfficjomcoaaDoor.Range Rc Rs Sl
attribute [local go_sem] Oper.semAt_some
attribute [local irreducible] wpList wpListIn Calls
theorem Lst.only {α : Type} {k : St α} {S : Nat → Prop} {w w' : World} {B n : Nat} {A : Option Addr} {xs : List α} (h : Lst k w B A n xs) (ho : Only S w w') (hS : ∀ b, b < B → ¬ S b) : Lst k w' B A n xs :=
  ⟨h.1, h.2.1, fun hn => by
    obtain ⟨b, off, e, hb, hc⟩ := h.2.2 hn
    exact ⟨b, off, e, hb, fun j v hv => ho.cell (p := ⟨b, off + j, none⟩) (hS b hb) (hc j v hv)⟩⟩
end Go.Proofs.YtipmfficjomcoaaDoor.Vm
namespace Go.Proofs.YtipmfficjomcoaaDoor.Vm
open Go.RowKit Go.Shelf Go.Proofs.YtipmfficjomcoaaDoor Mem Held Go.Proofs.YtipmfficjomcoaaDoor.Range Rc Rs Sl
attribute [local go_sem] Oper.semAt_some
attribute [local irreducible] wpList wpListIn Calls
def MbI (w : World) (r3 r4 : Nat) (l : List O) (kk : Int) (k : Nat) (W : World) : Prop :=
  k ≤ l.length ∧ W.heap[r3]? = some (.cells #[.int .i64 kk] 3 (0, 0)) ∧ W.heap[r4]? = some (.cells #[.bool false] 4 (0, 0)) ∧ (∀ i, i < k → mayO (l.getD i O0) kk = true) ∧ Below w.heap.size w W
def MbX (w : World) (r4 : Nat) (l : List O) (kk : Int) (c : Code) (k : Nat) (W : World) : Prop :=
  c = .ret ∧ W.heap[r4]? = some (.cells #[.bool false] 4 (0, 0)) ∧ mayP l kk = false ∧ Below w.heap.size w W
theorem MbI.far (w : World) (r3 r4 : Nat) (l : List O) (kk : Int) {B : Nat} (hw : w.heap.size < B) (h3 : r3 < B) (h4 : r4 < B) : Far B (MbI w r3 r4 l kk) := by
  intro k W W' row ⟨h0, h1, h2, ha, hb⟩ hgr hr
  have hne : ∀ i, i < B → some i ≠ row := fun i hi e => by have := hr i e.symm; omega
  exact ⟨h0, Held.keep_cells h1 hgr (hne _ h3), Held.keep_cells h2 hgr (hne _ h4), ha, hb.grown hgr hb.size (fun r e => by have := hr r e; omega)⟩
theorem MbX.far (w : World) (r4 : Nat) (l : List O) (kk : Int) (c : Code) {B : Nat} (hw : w.heap.size < B) (h4 : r4 < B) : Far B (MbX w r4 l kk c) := by
  intro k W W' row ⟨h0, h2, ha, hb⟩ hgr hr
  have hne : ∀ i, i < B → some i ≠ row := fun i hi e => by have := hr i e.symm; omega
  exact ⟨h0, Held.keep_cells h2 hgr (hne _ h4), ha, hb.grown hgr hb.size (fun r e => by have := hr r e; omega)⟩
end Go.Proofs.YtipmfficjomcoaaDoor.Vm
namespace Go.Proofs.YtipmfficjomcoaaDoor.Vm
open Go.RowKit Go.Shelf Go.Proofs.YtipmfficjomcoaaDoor Mem Held Go.Proofs.YtipmfficjomcoaaDoor.Range Rc Rs Sl
attribute [local irreducible] wpList wpListIn Calls
end Go.Proofs.YtipmfficjomcoaaDoor.Vm
namespace Go.Proofs.YtipmfficjomcoaaDoor.Sl
open Go.RowKit Go.Shelf Mem Held
section
variable {α : Type} {k : St α}
end
section
variable {α : Type} {k : St α} {P : Program} {ops : Array Oper} {rest : List Oper} {o : Oper} {a : Act} {w : World} {Q : Exit → Act → World → Prop}
end
end Go.Proofs.YtipmfficjomcoaaDoor.Sl
namespace Go.Proofs.YtipmfficjomcoaaDoor.Vm
open Go.RowKit Go.Shelf Go.Proofs.YtipmfficjomcoaaDoor Mem Held Go.Proofs.YtipmfficjomcoaaDoor.Range Rc Rs Sl
attribute [local irreducible] wpList wpListIn Calls
end Go.Proofs.YtipmfficjomcoaaDoor.Vm
namespace Go.Proofs.YtipmfficjomcoaaDoor.Sl
open Go.RowKit Go.Shelf Mem Held
section
variable {P : Program} {S : World → Prop} {ρ : Operand → Value} {o : Oper}
end
section
variable {α : Type} {k : St α} {P : Program} {ops : Array Oper} {rest : List Oper} {o : Oper} {a : Act} {w : World} {Q : Exit → Act → World → Prop}
end
end Go.Proofs.YtipmfficjomcoaaDoor.Sl
namespace Go.Proofs.YtipmfficjomcoaaDoor.Vm
open Go.RowKit Go.Shelf Go.Proofs.YtipmfficjomcoaaDoor Mem Held Go.Proofs.YtipmfficjomcoaaDoor.Range Rc Rs Sl
def Fit (r : List Int) : Prop := ∀ z ∈ r, (Lit.int .i64 z).wf = true
theorem Fit.at_ {r : List Int} (h : Fit r) (i : Nat) : (Lit.int .i64 (r.getD i 0)).wf = true := by
  rw [List.getD_eq_getElem?_getD]
  cases hq : r[i]? with
  | none => rfl
  | some z => exact h z (List.mem_of_getElem? hq)
theorem bits_wf' (op : BinOp) (h : op = .and ∨ op = .or ∨ op = .xor) (a b : Int) : (Lit.int .i64 (bits op .i64 a b)).wf = true := by
  rcases h with rfl | rfl | rfl <;> exact i64_wf _
theorem opV_wf (o : O) {a b c : Int} (hn : (Lit.int .i64 o.n).wf = true) (ha : (Lit.int .i64 a).wf = true) (hb : (Lit.int .i64 b).wf = true) (hc : (Lit.int .i64 c).wf = true) : (Lit.int .i64 (opV o a b c)).wf = true := by
  unfold opV
  by_cases h1 : o.code = 1
  · rw [if_pos h1]; exact hn
  rw [if_neg h1]
  by_cases h2 : o.code = 2
  · rw [if_pos h2]; exact wrap64_wf _
  rw [if_neg h2]
  by_cases h3 : o.code = 3
  · rw [if_pos h3]; exact wrap64_wf _
  rw [if_neg h3]
  by_cases h4 : o.code = 4
  · rw [if_pos h4]; exact wrap64_wf _
  rw [if_neg h4]
  by_cases h5 : o.code = 5
  · rw [if_pos h5]; exact bits_wf' _ (.inl rfl) _ _
  rw [if_neg h5]
  by_cases h6 : o.code = 6
  · rw [if_pos h6]; exact bits_wf' _ (.inr (.inl rfl)) _ _
  rw [if_neg h6]
  by_cases h7 : o.code = 7
  · rw [if_pos h7]; exact bits_wf' _ (.inr (.inr rfl)) _ _
  rw [if_neg h7]
  by_cases h8 : o.code = 8
  · rw [if_pos h8]; split <;> rfl
  rw [if_neg h8]
  by_cases h9 : o.code = 9
  · rw [if_pos h9]; split <;> rfl
  rw [if_neg h9]
  by_cases h10 : o.code = 10
  · rw [if_pos h10]; split <;> assumption
  rw [if_neg h10]
  have h := wf_i64 ha
  have hp : (0 : Int) < 2 ^ (b % 64).toNat := Int.pow_pos (by omega)
  have e : a / 2 ^ (b % 64).toNat ≤ 9223372036854775807 := by
    by_cases h0 : 0 ≤ a
    · exact Int.le_trans (Int.ediv_le_self _ h0) h.2
    · exact Int.le_trans (Int.le_of_lt (Int.ediv_neg_of_neg_of_pos (by omega) hp)) (by omega)
  have e' : -9223372036854775808 ≤ a / 2 ^ (b % 64).toNat := by
    have := Int.le_ediv_of_mul_le hp (a := -9223372036854775808) (b := a) (by
      have hq : (1 : Int) ≤ 2 ^ (b % 64).toNat := by omega
      have : (-9223372036854775808 : Int) * 2 ^ (b % 64).toNat ≤ -9223372036854775808 := by omega
      omega)
    exact this
  generalize a / 2 ^ (b % 64).toNat = z at e e' ⊢
  simp [Lit.wf, IntKind.min, IntKind.max, IntKind.signed, IntKind.bits]
  omega
theorem Fit.step {r : List Int} (h : Fit r) (o : O) (hn : (Lit.int .i64 o.n).wf = true) : Fit (stepR o r) := by
  unfold stepR
  split
  · exact h
  · intro z hz
    rcases List.mem_or_eq_of_mem_set hz with hz | rfl
    · exact h z hz
    · exact opV_wf o hn (h.at_ _) (h.at_ _) (h.at_ _)
theorem Fit.run : ∀ {l : List O} {r : List Int}, Fit r → (∀ o ∈ l, o.wf) → Fit (runR l r)
  | [], _, h, _ => h
  | o :: l, r, h, hl => by
    have h2 := h.step o (hl o (by simp)).2.2.2.2.2
    exact Fit.run (l := l) (r := stepR o r) h2 (fun x hx => hl x (by simp [hx]))
end Go.Proofs.YtipmfficjomcoaaDoor.Vm
namespace Go.Proofs.YtipmfficjomcoaaDoor.Sp
open Go.RowKit Go.Shelf Mem Held Rc Rs Sl Vm
def rightB (r k b wk : Int) : Bool := decide (1 ≤ r) && decide (r ≤ 64) && (decide (1 ≤ k) && decide (k ≤ 4)) && (decide (1 ≤ b) && decide (b ≤ 8)) && (decide (1 ≤ wk) && decide (wk ≤ 4)) && decide (k * ((r + b - 1) / b) < 32)
def rightE (r k b wk : Int) : Int := if rightB r k b wk = true then 0 else 1
end Go.Proofs.YtipmfficjomcoaaDoor.Sp
namespace Go.Proofs.YtipmfficjomcoaaDoor.Vm
open Go.RowKit Go.Shelf Go.Proofs.YtipmfficjomcoaaDoor Mem Held Go.Proofs.YtipmfficjomcoaaDoor.Range Rc Rs Sl
attribute [local go_sem] Oper.semAt_some
attribute [local irreducible] wpList wpListIn Calls
end Go.Proofs.YtipmfficjomcoaaDoor.Vm
namespace Go.Proofs.YtipmfficjomcoaaDoor.Vm
open Go.RowKit Go.Shelf Go.Proofs.YtipmfficjomcoaaDoor Mem Held Go.Proofs.YtipmfficjomcoaaDoor.Range Rc Rs Sl
attribute [local irreducible] wpList wpListIn Calls
end Go.Proofs.YtipmfficjomcoaaDoor.Vm
