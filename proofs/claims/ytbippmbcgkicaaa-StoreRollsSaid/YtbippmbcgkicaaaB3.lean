/-
  Records as plain things, lists of them in memory, cell by cell; a call of a function value within a region that draws its order: no program here but the type of a record.
  Which of two records stands ahead; the document's own sort, and neighbours that change places in rounds, as plain functions: they are the same.
  The functions Same and Plain of package dominohelp on records, by their contracts.
  The functions Own and Kept of package dominohelp on records, by their contracts.
  Lists of structs in memory, of any kind whose fields are one cell each: what they read as, literals, appends, stores: no program here.
  More of lists of structs in memory: made (zeros), copied: no program here.
  Where every activation may run, what is shown of one operation without a fence holds within a round, and within an iterator, too: no program here.
  More steps of a region: a nil check passed, one cell or one struct stored into a block that is known whole, some numbers copied to its head: no program here.
  More steps of a region: a struct allocated, a list of structs built: no program here.
  One struct stored into a list whose block is known whole: no program here.
  Package merge's leads and settle by their contracts: which of two records stands ahead by either order; two neighbours of a list of the call's own.
  Lists of structs in a block that is filled step by step; append within the room: no program here.
  Appending a list of structs of any length, none among them, onto a list of the call's own; the library's slices.Clone and slices.Grow of records, by their contracts.
  Package store, plain: what is known of each name, what each call makes of it, what is shown, what was shown directly ahead of a Put: no program here.
-/
import Derived.Test.YtbippmbcgkicaaaB2
import Derived.Deep.MidRow
import Derived.OwnWalk
import Derived.Lib.BufferOwn
import Derived.Maps.AppendAt
import Derived.Great.BuildSlice
import Derived.Great.FillDense
import Derived.Laws.CopyOwn
import Derived.Lib.LazyBuf
import Derived.WalkKit
set_option linter.unusedVariables false
namespace Go.Proofs.Ytbippmbcgkicaaa.Rs
open Go.RowKit Go.Shelf Mem Held Rc
structure R where
  d : Bool
  k : Int
  v : Int
  s : Int
theorem R.eq {a b : R} (h1 : a.d = b.d) (h2 : a.k = b.k) (h3 : a.v = b.v) (h4 : a.s = b.s) : a = b := by
  cases a
  cases b
  simp_all
instance decR : DecidableEq R := fun a b =>
  if h : a.d = b.d ∧ a.k = b.k ∧ a.v = b.v ∧ a.s = b.s then .isTrue (R.eq h.1 h.2.1 h.2.2.1 h.2.2.2)
  else .isFalse fun e => h (by rw [e]; exact ⟨rfl, rfl, rfl, rfl⟩)
def R.wf (r : R) : Prop := (Lit.int .i64 r.k).wf = true ∧ (Lit.int .i64 r.v).wf = true ∧ (Lit.int .i64 r.s).wf = true
def R.cells (r : R) : List Value := [.bool r.d, .int .i64 r.k, .int .i64 r.v, .int .i64 r.s]
def R0 : R := ⟨false, 0, 0, 0⟩
def flat (rs : List R) : List Value := rs.flatMap R.cells
theorem flat_length : ∀ rs : List R, (flat rs).length = rs.length * 4
  | [] => rfl
  | r :: rs => by
    have := flat_length rs
    simp only [flat, List.flatMap_cons, List.length_append, List.length_cons, R.cells, List.length_nil] at this ⊢
    omega
theorem flat_append (rs qs : List R) : flat (rs ++ qs) = flat rs ++ flat qs := by simp [flat]
theorem flat_at : ∀ (rs : List R) (i j : Nat), j < 4 → i < rs.length → (flat rs)[i * 4 + j]? = (rs.getD i R0).cells[j]?
  | [], i, j, _, h => absurd h (by simp)
  | r :: rs, 0, j, hj, _ => by
    simp only [flat, List.flatMap_cons, Nat.zero_mul, Nat.zero_add, List.getD_cons_zero]
    rw [List.getElem?_append_left (by simp [R.cells]; omega)]
  | r :: rs, i + 1, j, hj, h => by
    have := flat_at rs i j hj (by simpa using h)
    simp only [flat, List.flatMap_cons, List.getD_cons_succ] at this ⊢
    rw [List.getElem?_append_right (by simp [R.cells]; omega), show (i + 1) * 4 + j - r.cells.length = i * 4 + j by simp [R.cells]; omega, this]
def Recs (w : World) (B : Nat) (A : Option Addr) (n : Nat) (rs : List R) : Prop :=
  rs.length = n ∧ (∀ r ∈ rs, r.wf) ∧ (0 < n → ∃ b off, A = some ⟨b, off, none⟩ ∧ b < B ∧ w.rangeAt b off (flat rs))
section
variable {w w' : World} {B B' n : Nat} {A : Option Addr} {rs : List R}
theorem Recs.nil (w : World) (B : Nat) (A : Option Addr) : Recs w B A 0 [] := ⟨rfl, by simp, fun h => absurd h (by omega)⟩
theorem Recs.keep (h : Recs w B A n rs) (hk : ∀ p : Addr, p.block < B → w'.cell? p = w.cell? p) : Recs w' B A n rs :=
  ⟨h.1, h.2.1, fun hn => by
    obtain ⟨b, off, e, hb, hc⟩ := h.2.2 hn
    exact ⟨b, off, e, hb, fun j v hv => (hk ⟨b, off + j, none⟩ hb).trans (hc j v hv)⟩⟩
theorem Recs.more (h : Recs w B A n rs) (hB : B ≤ B') : Recs w B' A n rs :=
  ⟨h.1, h.2.1, fun hn => by
    obtain ⟨b, off, e, hb, hc⟩ := h.2.2 hn
    exact ⟨b, off, e, by omega, hc⟩⟩
theorem Recs.below (h : Recs w B A n rs) (hb : Below B w w') : Recs w' B A n rs := h.keep fun _ hp => hb.cell hp
theorem Recs.at_ (h : Recs w B A n rs) {i : Nat} (hi : i < n) : ∃ b off, A = some ⟨b, off, none⟩ ∧ b < B ∧ w.rangeAt b (off + i * 4) (rs.getD i R0).cells := by
  obtain ⟨b, off, e, hb, hc⟩ := h.2.2 (by omega)
  refine ⟨b, off, e, hb, fun j v hv => ?_⟩
  have hj : j < 4 := by have := (List.getElem?_eq_some_iff.1 hv).1; simpa [R.cells] using this
  rw [Nat.add_assoc]
  exact hc (i * 4 + j) v (by rw [flat_at rs i j hj (by rw [h.1]; exact hi)]; exact hv)
end
section
variable {P : Program} {ops : Array Oper} {Q : Exit → Act → World → Prop}
end
section
variable {P : Program} {S : World → Prop} {ρ : Operand → Value} {o : Oper}
theorem run_addr_of (t e : TypeId) (b off len cap i s : Nat) (k : IntKind) (ht : P.underlying t = some (.slice e)) (hs : (P.info? e).map (·.size) = some s) (hi : i < len) (w : World) :
    (Instr.indexAt t (.slice (some ⟨b, off, none⟩) len cap) (.int k (i : Int))).run P w = .ok (.pointer (some ⟨b, off + i * s, none⟩)) w := by
  have he : P.elem t = e := by simp [Program.elem, ht]
  have hz : (sizeOf e).run P w = .ok s w := by
    cases hq : P.info? e with
    | none => simp [hq] at hs
    | some q => simp [hq] at hs; simp [sizeOf, typeInfo, hq, hs]
  have ea : (Addr.mk b off none).add (i * s) = ⟨b, off + i * s, none⟩ := by unfold Addr.add; split <;> simp_all
  rw [run_indexAt_slice w t ⟨b, off, none⟩ len cap k (i : Int) (by rw [he]; exact ht), he, if_pos ⟨by omega, by omega⟩, hz]
  simp [Result.andThen, ea]
theorem y_load_range {ty : TypeId} {x : Operand} {b off n : Nat} {cs : List Value} {d : TypeDesc} (ho : o.op = .load ty x) (hx : ρ x = .pointer (some ⟨b, off, none⟩)) (hu : P.underlying ty = some d) (hd : d.isRow = true) (hi : (P.info? ty).map (·.size) = some n) (hn : cs.length = n)
    (hr : ∀ w, S w → w.rangeAt b off cs) : ∀ w, S w → (execOp ρ o).run P w = .ok (.value (.agg cs.toArray)) w := fun w hw => by
  have h := run_loadAt_mid (P := P) w b off ty cs d (hr w hw) hu hd (by rw [hi, hn])
  simp [execOp, ho, hx, h]
end
end Go.Proofs.Ytbippmbcgkicaaa.Rs
namespace Go.Proofs.Ytbippmbcgkicaaa.Mg
open Rc Rs
section
variable (seq : Bool)
def lead (a b : R) : Bool := if seq then bef a.d a.k a.s b.d b.k b.s else ahd a.d a.k b.d b.k
theorem lead_irr (a : R) : lead seq a a = false := by
  unfold lead bef ahd
  cases a.d <;> cases seq <;> simp
theorem lead_neg {a b c : R} (h1 : lead seq a b = false) (h2 : lead seq b c = false) : lead seq a c = false := by
  unfold lead bef ahd at *
  cases seq <;> simp only [Bool.false_eq_true, if_false, if_true, Bool.and_eq_false_iff, Bool.not_eq_false', Bool.or_eq_false_iff, decide_eq_false_iff_not] at *
  · rcases h1 with h1 | ⟨hb, h1⟩
    · exact .inl h1
    · rcases h2 with h2 | ⟨hc, h2⟩
      · rw [hb] at h2; cases h2
      · exact .inr ⟨hc, by omega⟩
  · rcases h1 with h1 | ⟨hb, h1⟩
    · exact .inl h1
    · rcases h2 with h2 | ⟨hc, h2⟩
      · rw [hb] at h2; cases h2
      · exact .inr ⟨hc, by omega⟩
def Srt : List R → Prop
  | [] => True
  | [_] => True
  | a :: b :: l => lead seq b a = false ∧ Srt (b :: l)
theorem Srt.tail {a : R} {l : List R} (h : Srt seq (a :: l)) : Srt seq l := by
  cases l with
  | nil => trivial
  | cons b l => exact h.2
theorem Srt.head {a : R} : ∀ {l : List R}, Srt seq (a :: l) → ∀ x ∈ l, lead seq x a = false
  | [], _, x, hx => by simp at hx
  | b :: l, h, x, hx => by
    rcases List.mem_cons.1 hx with rfl | hx
    · exact h.1
    · exact lead_neg seq (Srt.head (a := b) h.2 x hx) h.1
theorem srt_iff : ∀ (l : List R), Srt seq l ↔ ∀ i, i + 1 < l.length → lead seq (l.getD (i + 1) R0) (l.getD i R0) = false
  | [] => ⟨fun _ i h => absurd h (by simp), fun _ => trivial⟩
  | [a] => ⟨fun _ i h => absurd h (by simp), fun _ => trivial⟩
  | a :: b :: l => by
    have ih := srt_iff (b :: l)
    constructor
    · rintro ⟨h1, h2⟩ i hi
      cases i with
      | zero => exact h1
      | succ i => exact ih.1 h2 i (by simpa using hi)
    · intro h
      exact ⟨h 0 (by simp), ih.2 fun i hi => h (i + 1) (by simpa using hi)⟩
end
section
variable (seq : Bool)
def cnt (c : R) (l : List R) (q : Nat) : Nat := (l.drop q).countP (lead seq c)
theorem Srt.take {l : List R} (h : Srt seq l) (k : Nat) : Srt seq (l.take k) := by
  rw [srt_iff] at h ⊢
  intro i hi
  have hi' : i + 1 < k ∧ i + 1 < l.length := by rw [List.length_take] at hi; omega
  have := h i hi'.2
  simp only [List.getD_eq_getElem?_getD, List.getElem?_take] at this ⊢
  rw [if_pos hi'.1, if_pos (by omega)]
  exact this
theorem Srt.drop : ∀ (k : Nat) {l : List R}, Srt seq l → Srt seq (l.drop k)
  | 0, _, h => h
  | _ + 1, [], _ => trivial
  | k + 1, _ :: l, h => Srt.drop k (l := l) h.tail
theorem Srt.two {l : List R} (h : Srt seq l) {i j : Nat} (hij : i ≤ j) (hj : j < l.length) : lead seq (l.getD j R0) (l.getD i R0) = false := by
  rw [srt_iff] at h
  obtain ⟨k, rfl⟩ : ∃ k, j = i + k := ⟨j - i, by omega⟩
  clear hij
  induction k with
  | zero => exact lead_irr seq _
  | succ k ih => exact lead_neg seq (h (i + k) (by omega)) (ih (by omega))
end
end Go.Proofs.Ytbippmbcgkicaaa.Mg
namespace Go.Proofs.Ytbippmbcgkicaaa.Rs
open Go.RowKit Go.Shelf Go.Proofs.Ytbippmbcgkicaaa Mem Held Rc
attribute [local irreducible] wpList wpListIn Calls
end Go.Proofs.Ytbippmbcgkicaaa.Rs
namespace Go.Proofs.Ytbippmbcgkicaaa.Rs
open Go.RowKit Go.Shelf Go.Proofs.Ytbippmbcgkicaaa Mem Held Rc
set_option maxRecDepth 100000
attribute [local irreducible] wpList wpListIn Calls
end Go.Proofs.Ytbippmbcgkicaaa.Rs
namespace Go.Proofs.Ytbippmbcgkicaaa.Sl
open Go.RowKit Go.Shelf Mem Held
structure St (α : Type) where
  s : Nat
  cells : α → List Value
  wf : α → Prop
  d : α
  len : ∀ x, (cells x).length = s
  one : ∀ x, ∀ u ∈ cells x, u.oneCell' = true
  pos : 0 < s
section
variable {α : Type} {k : St α}
def flat (k : St α) (xs : List α) : List Value := xs.flatMap k.cells
theorem flat_length (k : St α) : ∀ xs : List α, (flat k xs).length = xs.length * k.s
  | [] => by simp [flat]
  | x :: xs => by
    have := flat_length k xs
    simp only [flat, List.flatMap_cons, List.length_append, List.length_cons, k.len] at this ⊢
    rw [this, Nat.add_mul, Nat.one_mul, Nat.add_comm]
theorem flat_append (xs ys : List α) : flat k (xs ++ ys) = flat k xs ++ flat k ys := by simp [flat]
theorem flat_at : ∀ (xs : List α) (i j : Nat), j < k.s → i < xs.length → (flat k xs)[i * k.s + j]? = (k.cells (xs.getD i k.d))[j]?
  | [], i, j, _, h => absurd h (by simp)
  | x :: xs, 0, j, hj, _ => by
    simp only [flat, List.flatMap_cons, Nat.zero_mul, Nat.zero_add, List.getD_cons_zero]
    rw [List.getElem?_append_left (by rw [k.len]; exact hj)]
  | x :: xs, i + 1, j, hj, h => by
    have := flat_at xs i j hj (by simpa using h)
    simp only [flat, List.flatMap_cons, List.getD_cons_succ] at this ⊢
    have hm : (i + 1) * k.s + j = k.s + (i * k.s + j) := by rw [Nat.add_mul, Nat.one_mul]; omega
    rw [List.getElem?_append_right (by rw [k.len]; omega), k.len, hm, Nat.add_sub_cancel_left, this]
theorem flat_cell (xs : List α) : ∀ u ∈ flat k xs, u.oneCell' = true := fun u hu => by
  obtain ⟨x, _, h⟩ := List.mem_flatMap.1 hu
  exact k.one x u h
theorem flat_take (xs : List α) (i : Nat) (h : i ≤ xs.length) : (flat k xs).take (i * k.s) = flat k (xs.take i) := by
  have e : flat k xs = flat k (xs.take i) ++ flat k (xs.drop i) := by rw [← flat_append, List.take_append_drop]
  rw [e, List.take_left' (by rw [flat_length, List.length_take, Nat.min_eq_left h])]
theorem flat_drop (xs : List α) (i : Nat) (h : i ≤ xs.length) : (flat k xs).drop (i * k.s) = flat k (xs.drop i) := by
  have e : flat k xs = flat k (xs.take i) ++ flat k (xs.drop i) := by rw [← flat_append, List.take_append_drop]
  rw [e, List.drop_left' (by rw [flat_length, List.length_take, Nat.min_eq_left h])]
theorem flat_set (xs : List α) (i : Nat) (x : α) (h : i < xs.length) : flat k (xs.set i x) = (flat k xs).take (i * k.s) ++ k.cells x ++ (flat k xs).drop (i * k.s + k.s) := by
  rw [List.set_eq_take_append_cons_drop, if_pos h, flat_take xs i (by omega), show i * k.s + k.s = (i + 1) * k.s by rw [Nat.add_mul, Nat.one_mul], flat_drop xs (i + 1) (by omega)]
  simp [flat]
def Lst (k : St α) (w : World) (B : Nat) (A : Option Addr) (n : Nat) (xs : List α) : Prop :=
  xs.length = n ∧ (∀ x ∈ xs, k.wf x) ∧ (0 < n → ∃ b off, A = some ⟨b, off, none⟩ ∧ b < B ∧ w.rangeAt b off (flat k xs))
variable {w w' : World} {B B' n : Nat} {A : Option Addr} {xs : List α}
theorem Lst.nil (k : St α) (w : World) (B : Nat) (A : Option Addr) : Lst k w B A 0 [] := ⟨rfl, by simp, fun h => absurd h (by omega)⟩
theorem Lst.keep (h : Lst k w B A n xs) (hk : ∀ p : Addr, p.block < B → w'.cell? p = w.cell? p) : Lst k w' B A n xs :=
  ⟨h.1, h.2.1, fun hn => by
    obtain ⟨b, off, e, hb, hc⟩ := h.2.2 hn
    exact ⟨b, off, e, hb, fun j v hv => (hk ⟨b, off + j, none⟩ hb).trans (hc j v hv)⟩⟩
theorem Lst.more (h : Lst k w B A n xs) (hB : B ≤ B') : Lst k w B' A n xs :=
  ⟨h.1, h.2.1, fun hn => by
    obtain ⟨b, off, e, hb, hc⟩ := h.2.2 hn
    exact ⟨b, off, e, by omega, hc⟩⟩
theorem Lst.below (h : Lst k w B A n xs) (hb : Below B w w') : Lst k w' B A n xs := h.keep fun _ hp => hb.cell hp
theorem Lst.at_ (h : Lst k w B A n xs) {i : Nat} (hi : i < n) : ∃ b off, A = some ⟨b, off, none⟩ ∧ b < B ∧ w.rangeAt b (off + i * k.s) (k.cells (xs.getD i k.d)) := by
  obtain ⟨b, off, e, hb, hc⟩ := h.2.2 (by omega)
  refine ⟨b, off, e, hb, fun j v hv => ?_⟩
  have hj : j < k.s := by have := (List.getElem?_eq_some_iff.1 hv).1; rwa [k.len] at this
  rw [Nat.add_assoc]
  exact hc (i * k.s + j) v (by rw [flat_at xs i j hj (by rw [h.1]; exact hi)]; exact hv)
theorem lst_of_blk {g : Nat} {t : TypeId} {ys : List α} (h : Blk w g t (flat k (xs ++ ys)).toArray) (hw : ∀ x ∈ xs, k.wf x) : Lst k w w.heap.size (some ⟨g, 0, none⟩) xs.length xs :=
  ⟨rfl, hw, fun _ => ⟨g, 0, rfl, h.lt, fun j v hv => by
    rw [Nat.zero_add]
    refine h.cell ?_
    rw [List.getElem?_toArray, flat_append, List.getElem?_append_left (List.getElem?_eq_some_iff.1 hv).1]
    exact hv⟩⟩
theorem lst_whole {g : Nat} {t : TypeId} (h : Blk w g t (flat k xs).toArray) (hn : xs.length = n) (hw : ∀ x ∈ xs, k.wf x) : Lst k w w.heap.size (some ⟨g, 0, none⟩) n xs := by
  subst hn
  exact lst_of_blk (ys := []) (by rw [List.append_nil]; exact h) hw
def OwnL (k : St α) (t : TypeId) (w : World) (base : Nat) (v : Value) (xs : List α) : Prop := w.ownsRow base t k.s v xs.length (flat k xs)
variable {t : TypeId} {base : Nat} {v : Value}
theorem OwnL.nil (k : St α) (t : TypeId) (w : World) (base : Nat) : OwnL k t w base (.slice none 0 0) [] := ⟨by simp [flat], .inl ⟨rfl, rfl⟩⟩
theorem OwnL.form (h : OwnL k t w base v xs) : ∃ A c, v = .slice A xs.length c ∧ xs.length ≤ c ∧ c ≤ maxLen := Held.row_form h
theorem OwnL.form2 (h : OwnL k t w base v xs) : ∃ A n c, v = .slice A n c ∧ Hid (xs.length = n) ∧ n ≤ c ∧ c ≤ maxLen := by
  obtain ⟨A, c, e, h1, h2⟩ := h.form
  exact ⟨A, _, c, e, Lib.hid rfl, h1, h2⟩
theorem OwnL.ne_blk (h : OwnL k t w base v xs) {g : Nat} {t' : TypeId} {cs : Array Value} (hb : Blk w g t' cs) (ht : t ≠ t') : v.ownBlock ≠ some g := fun e => by
  rcases h.2 with ⟨rfl, _⟩ | ⟨g', cap, cur, rfl, _, hg, _⟩
  · cases e
  · have e : some g' = some g := e
    injection e with e
    subst e
    have hb : w.heap[g']? = some (.cells cs t' (0, 0)) := hb
    rw [hg] at hb
    injection hb with hb
    injection hb with _ hb
    exact ht hb
theorem OwnL.kept (h : OwnL k t w base v xs) {row : Option Nat} (hg : w.grownBy w' row) (hne : v.ownBlock = none ∨ v.ownBlock ≠ row) : OwnL k t w' base v xs := World.ownsRow.kept h hg hne
theorem OwnL.below (h : OwnL k t w base v xs) (hb : Below w.heap.size w w') : OwnL k t w' base v xs := h.kept (grown_of_below hb none) (by cases v.ownBlock <;> simp)
theorem OwnL.lt (h : OwnL k t w base v xs) : ∀ b, v.ownBlock = some b → base ≤ b ∧ b < w.heap.size := World.ownsRow.lt h
theorem OwnL.less (h : OwnL k t w base v xs) {b : Nat} (hb : b ≤ base) : OwnL k t w b v xs := by
  refine ⟨h.1, ?_⟩
  rcases h.2 with h0 | ⟨g, cap, cur, e, hg, rest⟩
  · exact .inl h0
  · exact .inr ⟨g, cap, cur, e, Nat.le_trans hb hg, rest⟩
end
section
variable {α : Type} {k : St α} {P : Program} {ops : Array Oper} {rest : List Oper} {o : Oper} {a : Act} {w : World} {Q : Exit → Act → World → Prop}
theorem heap_setCells {g : Nat} {t : TypeId} : ∀ (vs : List Value) (q : Nat) (w : World) (cur : Array Value), w.heap[g]? = some (.cells cur t (0, 0)) → q + vs.length ≤ cur.size →
    ∃ cur', (w.setCells g q vs).heap[g]? = some (.cells cur' t (0, 0)) ∧ cur'.size = cur.size ∧ cur'.toList = cur.toList.take q ++ vs ++ cur.toList.drop (q + vs.length)
  | [], q, w, cur, h, _ => ⟨cur, h, rfl, by simp⟩
  | v :: r, q, w, cur, h, hl => by
    have hl' : q < cur.toList.length := by simp at hl ⊢; omega
    have hb : Blk (w.setCell ⟨g, q, none⟩ v) g t (cur.setIfInBounds q v) := Blk.set (w := w) (cs := cur) h q v
    obtain ⟨cur', h1, h2, h3⟩ := heap_setCells r (q + 1) (w.setCell ⟨g, q, none⟩ v) (cur.setIfInBounds q v) hb (by simp at hl ⊢; omega)
    refine ⟨cur', h1, by rw [h2]; simp, ?_⟩
    rw [h3]
    have e : (cur.setIfInBounds q v).toList = cur.toList.take q ++ v :: cur.toList.drop (q + 1) := by
      rw [Array.toList_setIfInBounds, List.set_eq_take_append_cons_drop, if_pos hl']
    have hq : (cur.toList.take q).length = q := by rw [List.length_take]; omega
    rw [e, List.take_append, hq, List.take_of_length_le (by omega), show q + 1 - q = 1 by omega, List.take_succ_cons, List.take_zero, List.drop_append, hq, List.drop_of_length_le (by omega), show q + 1 + r.length - q = r.length + 1 by omega, List.drop_succ_cons, List.drop_drop, List.nil_append, List.append_assoc, List.append_assoc]
    simp only [List.cons_append, List.nil_append, List.length_cons, List.append_assoc]
    rw [show q + 1 + r.length = q + (r.length + 1) by omega]
theorem grown_setCells (g : Nat) : ∀ (vs : List Value) (q : Nat) (w : World), w.grownBy (w.setCells g q vs) (some g)
  | [], _, w => World.grownBy.refl w _
  | v :: r, q, w => Lib.grownBy_trans (grown_setCell w g q v) (grown_setCells g r (q + 1) _)
end
end Go.Proofs.Ytbippmbcgkicaaa.Sl
namespace Go.Proofs.Ytbippmbcgkicaaa.Sl
open Go.RowKit Go.Shelf Mem Held
section
variable {α : Type} {k : St α}
end
section
variable {α : Type} {k : St α} {P : Program} {ops : Array Oper} {rest : List Oper} {o : Oper} {a : Act} {w : World} {Q : Exit → Act → World → Prop}
end
end Go.Proofs.Ytbippmbcgkicaaa.Sl
namespace Go.Proofs.Ytbippmbcgkicaaa.Held
open Go.RowKit
section
variable {P : Program} {ops : Array Oper} {Q Q' : Exit → Act → World → Prop} {n : Nat} {r : Option Nat} {rest : List Oper} {o : Oper} {a : Act} {w : World}
end
end Go.Proofs.Ytbippmbcgkicaaa.Held
namespace Go.Proofs.Ytbippmbcgkicaaa.Sl
open Go.RowKit Go.Shelf Mem Held
section
variable {P : Program} {S : World → Prop} {ρ : Operand → Value} {o : Oper}
theorem y_nil {x : Operand} {A : Addr} (ho : o.op = .nilCheck x) (hx : ρ x = .pointer (some A)) : ∀ w, S w → (execOp ρ o).run P w = .ok (.value (.pointer (some A))) w := fun w _ => by
  simp [execOp, ho, hx]
end
section
variable {α : Type} {k : St α} {P : Program} {ops : Array Oper} {rest : List Oper} {o : Oper} {a : Act} {w : World} {Q : Exit → Act → World → Prop}
theorem op_store_cell (i : Nat) (d : Option Tmp) {K : Act → World → Prop} (ty : TypeId) {x y : Operand} (g j : Nat) (t : TypeId) (cs : Array Value) (v : Value) (hi : ops[i]? = some o) (hd : o.dst = d) (hw : Region.wanted o (yielded ops a.tmps) = true)
    (ho : o.op = .store ty x y) (hx : a.eval x = .pointer (some ⟨g, j, none⟩)) (hy : a.eval y = v) (hb : Blk w g t cs) (hj : j < cs.size) (hsz : (P.info? ty).map (·.size) = some 1) (h1 : v.cells = #[v]) (ho1 : v.oneCell' = true)
    (h : ∀ w', Blk w' g t (cs.setIfInBounds j v) → w.grownBy w' (some g) → K (a.put d undef) w') : wpOp P ops Q i K a w := by
  subst hd
  refine op_wp i hi hw ?_
  unfold Oper.wp execOp
  simp only [ho, hx, hy, Instr.storeAt, Instr.sureAddr, Sem.run_bind, Sem.run_pure, Result.andThen_ok, run_store_elem ty g j _ v (hb.cell (Array.getElem?_eq_getElem hj)) (hb.frozen j) hsz h1 ho1]
  exact h _ (hb.set j v) (grown_setCell _ _ _ _)
end
end Go.Proofs.Ytbippmbcgkicaaa.Sl
namespace Go.Proofs.Ytbippmbcgkicaaa.Sl
open Go.RowKit Go.Shelf Mem Held
section
variable {α : Type} {k : St α} {P : Program} {ops : Array Oper} {o : Oper} {a : Act} {w : World} {Q : Exit → Act → World → Prop}
theorem op_build_lst (i : Nat) (d : Option Tmp) {K : Act → World → Prop} (ts e : TypeId) (n : Nat) {parts : Array (Nat × Operand)} (z : Value) (bytes : Nat) (xs : List α) (hi : ops[i]? = some o) (hd : o.dst = d) (hw : Region.wanted o (yielded ops a.tmps) = true)
    (ho : o.op = .buildSlice ts n parts) (hu : P.underlying ts = some (.slice e)) (hinfo : (P.info? e).map (fun i => (i.zero, i.size, i.bytes)) = some (some z, k.s, bytes)) (hz : z.cells.size = k.s)
    (hn : xs.length = n) (hp : (parts.map fun (i, x) => (i, a.eval x)).toList = ((xs.map fun x => Value.agg (k.cells x).toArray).zipIdx 0).map fun x => (x.2, x.1)) (h0 : 0 < n) (h24 : n * k.s ≤ 16777216)
    (h : ∀ g w', Blk w' g e (flat k xs).toArray → Below w.heap.size w w' → Hid (w.heap.size ≤ g) → K (a.put d (.slice (some ⟨g, 0, none⟩) n n)) w') : wpOp P ops Q i K a w := by
  subst hd
  refine op_wp i hi hw ?_
  obtain ⟨ie, hie, hz0, hs, hb⟩ := info_parts hinfo
  refine Go.wp_buildSlice ts e n parts ho (flat k xs).toArray ie z hu hie hz0 (by rw [hs]; omega) (by rw [hs]; have := Nat.mul_pos h0 k.pos; omega) ?_ (h _ _ (heap_alloc_new w _) ((Below.refl _ w).alloc (Nat.le_refl _) _) (Lib.hid (Nat.le_refl _)))
  rw [hp, hs]
  refine (Great.fill_whole k.pos (xs.map fun x => Value.agg (k.cells x).toArray) _ (fun v hv => ?_) (by simp [hn])).trans ?_
  · obtain ⟨x, _, rfl⟩ := List.mem_map.1 hv
    simp [Value.cells, k.len]
  · rw [List.flatMap_map]
    simp [flat, Value.cells]
end
end Go.Proofs.Ytbippmbcgkicaaa.Sl
namespace Go.Proofs.Ytbippmbcgkicaaa.Sl
open Go.RowKit Go.Shelf Mem Held
section
variable {α : Type} {k : St α} {P : Program} {ops : Array Oper} {o : Oper} {a : Act} {w : World} {Q : Exit → Act → World → Prop}
end
end Go.Proofs.Ytbippmbcgkicaaa.Sl
namespace Go.Proofs.Ytbippmbcgkicaaa.Mg
open Go.RowKit Go.Shelf Go.Proofs.Ytbippmbcgkicaaa Mem Held Ct Rc Rs Sl
attribute [local irreducible] wpList wpListIn Calls
end Go.Proofs.Ytbippmbcgkicaaa.Mg
namespace Go.Proofs.Ytbippmbcgkicaaa.Sl
open Go.RowKit Go.Shelf Mem Held
section
variable {α : Type} {k : St α}
end
section
variable {α : Type} {k : St α} {P : Program} {ops : Array Oper} {rest : List Oper} {o : Oper} {a : Act} {w : World} {Q : Exit → Act → World → Prop}
end
end Go.Proofs.Ytbippmbcgkicaaa.Sl
namespace Go.Proofs.Ytbippmbcgkicaaa.Mg
open Go.RowKit Go.Shelf Go.Proofs.Ytbippmbcgkicaaa Mem Held Ct Rc Rs Sl
attribute [local irreducible] wpList wpListIn Calls
section
variable {P : Program} {S : World → Prop} {ρ : Operand → Value} {o : Oper}
theorem run_append_zero (ts e : TypeId) (hu : P.underlying ts = some (.slice e)) (ie : TypeInfo) (hie : P.info? e = some ie) {ty : TypeId} (w : World) (As A : Option Addr) (n cap c : Nat) (hn : n ≤ cap) :
    (Builtin.append_ #[ts, ts] ty #[.slice As n cap, .slice A 0 c]).run P w = .ok (.slice As n cap) w := by
  cases A with
  | none => cases As <;> simp [Builtin.append_, run_underlying hu, sizeOf, typeInfo, hie, Builtin.lenOf, Builtin.firstCells, hn, storeCells]
  | some ad => cases As <;> simp [Builtin.append_, run_underlying hu, sizeOf, typeInfo, hie, Builtin.lenOf, Builtin.firstCells, hn, storeCells, loadCells, loadCellsFrom]
end
section
variable {α : Type} {k : St α} {P : Program} {ops : Array Oper} {rest : List Oper} {o : Oper} {a : Act} {w : World} {Q : Exit → Act → World → Prop}
end
end Go.Proofs.Ytbippmbcgkicaaa.Mg
namespace Go.Proofs.Ytbippmbcgkicaaa.Sto
structure Vp where
  t : Int
  is : Bool
  zs : List Int
structure Hp where
  vs : List (List Int)
  us : List Vp
abbrev Lp := List (List UInt8 × Hp)
def Vp.none : Vp := ⟨0, false, []⟩
def showP (t : Int) (v : Vp) (us : List Vp) : List Vp := if 0 < us.length ∧ (us.getD (us.length - 1) Vp.none).t = t then us.set (us.length - 1) ⟨t, v.is, v.zs⟩ else us ++ [⟨t, v.is, v.zs⟩]
def modP (k : List UInt8) (f : Hp → Hp) (L : Lp) : Lp := L.map fun p => if p.1 = k then (p.1, f p.2) else p
def addP (k : List UInt8) (L : Lp) : Lp := if k ∈ L.map (·.1) then L else L ++ [(k, ⟨[], []⟩)]
def shwF (t : Int) (v : Vp) (h : Hp) : Hp := ⟨h.vs, showP t v h.us⟩
def putF (t : Int) (zs : List Int) (h : Hp) : Hp := ⟨h.vs ++ [zs], showP t ⟨0, true, zs⟩ h.us⟩
def putP (t : Int) (k : List UInt8) (zs : List Int) (L : Lp) : Lp := modP k (putF t zs) (addP k L)
def lastP (us : List Vp) : Vp := us.getD (us.length - 1) Vp.none
def bhP (j : Int) (us : List Vp) : Vp := if us.countP (fun v => decide (v.t ≤ j)) = 0 then Vp.none else us.getD (us.countP (fun v => decide (v.t ≤ j)) - 1) Vp.none
def rollP (t j : Int) (L : Lp) : Lp := L.map fun p => (p.1, shwF t (bhP j p.2.us) p.2)
def entP : Lp → List UInt8 → Option Hp
  | [], _ => none
  | p :: L, k => if p.1 = k then some p.2 else entP L k
def shwP (L : Lp) (k : List UInt8) : Bool × List Int := match entP L k with
  | none => (false, [])
  | some h => ((lastP h.us).is, (lastP h.us).zs)
def verP (L : Lp) (k : List UInt8) : List (List Int) := match entP L k with
  | none => []
  | some h => h.vs
def bhdP (L : Lp) (k : List UInt8) (j : Int) : Bool × List Int := match entP L k with
  | none => (false, [])
  | some h => ((bhP j h.us).is, (bhP j h.us).zs)
def keysP (L : Lp) : List (List UInt8) := L.map (·.1)
theorem mod_keys (k : List UInt8) (f : Hp → Hp) (L : Lp) : keysP (modP k f L) = keysP L := by
  unfold keysP modP
  rw [List.map_map]
  refine List.map_congr_left fun p _ => ?_
  simp only [Function.comp]
  split <;> rfl
theorem add_nodup {k : List UInt8} {L : Lp} (h : (keysP L).Nodup) : (keysP (addP k L)).Nodup := by
  unfold keysP addP at *
  split
  · exact h
  · rename_i hk
    rw [List.map_append]
    exact List.nodup_append.2 ⟨h, by simp, fun a ha b hb e => hk (by simp at hb; rw [← hb, ← e]; exact ha)⟩
theorem ent_none {L : Lp} {k : List UInt8} : entP L k = none ↔ k ∉ keysP L := by
  induction L with
  | nil => simp [entP, keysP]
  | cons p L ih =>
    unfold keysP at *
    rw [entP, List.map_cons, List.mem_cons]
    split
    · rename_i h
      simp [h]
    · rename_i h
      rw [ih]
      exact ⟨fun h1 h2 => h2.elim (fun e => h e.symm) h1, fun h1 h2 => h1 (.inr h2)⟩
theorem ent_mod (k : List UInt8) (f : Hp → Hp) (x : List UInt8) : ∀ L : Lp, entP (modP k f L) x = if x = k then (entP L x).map f else entP L x
  | [] => by simp [modP, entP]
  | p :: L => by
    have ih := ent_mod k f x L
    unfold modP at ih ⊢
    rw [List.map_cons, entP, ih, entP]
    by_cases hp : p.1 = k
    · rw [if_pos hp]
      by_cases hx : p.1 = x
      · have : x = k := hx.symm.trans hp
        simp [hx, this]
      · have : x ≠ k := fun e => hx (hp.trans e.symm)
        simp [hx, this]
    · rw [if_neg hp]
      by_cases hx : p.1 = x
      · have : x ≠ k := fun e => hp (hx.trans e)
        simp [hx, this]
      · rw [if_neg hx, if_neg hx]
theorem ent_app (x : List UInt8) (M : Lp) : ∀ L : Lp, entP (L ++ M) x = (entP L x).or (entP M x)
  | [] => by simp [entP]
  | p :: L => by
    rw [List.cons_append, entP, entP, ent_app x M L]
    split <;> simp
theorem ent_add (k x : List UInt8) (L : Lp) : entP (addP k L) x = if x = k then some ((entP L x).getD ⟨[], []⟩) else entP L x := by
  unfold addP
  split
  · rename_i h
    split
    · rename_i e
      subst e
      cases he : entP L x with
      | none => exact absurd h (ent_none.1 he)
      | some v => rfl
    · rfl
  · rename_i h
    rw [ent_app]
    simp only [entP]
    by_cases e : x = k
    · subst e
      have hn : entP L x = none := ent_none.2 h
      simp [hn]
    · rw [if_neg e, if_neg (fun e' => e e'.symm)]
      cases entP L x <;> rfl
theorem ent_put (t : Int) (k : List UInt8) (zs : List Int) (L : Lp) (x : List UInt8) : entP (putP t k zs L) x = if x = k then some (putF t zs ((entP L x).getD ⟨[], []⟩)) else entP L x := by
  unfold putP
  rw [ent_mod, ent_add]
  split <;> rfl
theorem ent_roll (t j : Int) (x : List UInt8) : ∀ L : Lp, entP (rollP t j L) x = (entP L x).map fun h => shwF t (bhP j h.us) h
  | [] => rfl
  | p :: L => by
    have ih := ent_roll t j x L
    unfold rollP at ih ⊢
    rw [List.map_cons, entP, ih, entP]
    split <;> rfl
theorem roll_keys (t j : Int) (L : Lp) : keysP (rollP t j L) = keysP L := by
  unfold keysP rollP
  rw [List.map_map]
  rfl
theorem ent_mem {L : Lp} {k : List UInt8} {h : Hp} : entP L k = some h → (k, h) ∈ L := by
  induction L with
  | nil => intro e; cases e
  | cons p L ih =>
    rw [entP]
    split
    · rename_i e
      intro e2
      injection e2 with e2
      rw [← e, ← e2]
      exact List.mem_cons_self
    · intro e
      exact List.mem_cons_of_mem _ (ih e)
theorem ent_at {L : Lp} (hd : (keysP L).Nodup) {p : List UInt8 × Hp} : p ∈ L → entP L p.1 = some p.2 := by
  induction L with
  | nil => intro h; cases h
  | cons q L ih =>
    unfold keysP at *
    rw [List.map_cons, List.nodup_cons] at hd
    intro h
    rcases List.mem_cons.1 h with rfl | h
    · simp [entP]
    · rw [entP, if_neg (fun e => hd.1 (by rw [e]; exact List.mem_map.2 ⟨p, h, rfl⟩))]
      exact ih hd.2 h
structure GoodU (us : List Vp) (t : Int) : Prop where
  ne : us ≠ []
  up : (us.map (·.t)).Pairwise (· < ·)
  le : ∀ v ∈ us, v.t ≤ t
  off : ∀ v ∈ us, v.is = false → v.zs = []
theorem show_last (t : Int) (v : Vp) (us : List Vp) : lastP (showP t v us) = ⟨t, v.is, v.zs⟩ := by
  unfold lastP showP
  split
  · rename_i h
    rw [List.length_set, List.getD_eq_getElem?_getD, List.getElem?_set, if_pos rfl, if_pos (by omega)]
    rfl
  · simp [List.getD_eq_getElem?_getD]
theorem show_good {t : Int} {v : Vp} (hv : v.is = false → v.zs = []) {us : List Vp} {t0 : Int} (h : us = [] ∨ GoodU us t0) (ht : t0 ≤ t) : GoodU (showP t v us) t := by
  rcases h with rfl | h
  · exact ⟨by simp [showP], by simp [showP], by simp [showP], by simpa [showP] using hv⟩
  · have h0 : 0 < us.length := List.length_pos_iff.2 h.ne
    obtain ⟨us', l, rfl⟩ : ∃ us' l, us = us' ++ [l] := ⟨us.dropLast, us.getLast h.ne, (List.dropLast_concat_getLast h.ne).symm⟩
    have hd : (us' ++ [l]).getD ((us' ++ [l]).length - 1) Vp.none = l := by simp [List.getD_eq_getElem?_getD]
    have hup := h.up
    rw [List.map_append, List.pairwise_append] at hup
    unfold showP
    rw [hd]
    by_cases hl : l.t = t
    · rw [if_pos ⟨h0, hl⟩]
      have e : (us' ++ [l]).set ((us' ++ [l]).length - 1) ⟨t, v.is, v.zs⟩ = us' ++ [⟨t, v.is, v.zs⟩] := by simp
      rw [e]
      refine ⟨by simp, ?_, fun x hx => ?_, fun x hx => ?_⟩
      · rw [List.map_append, List.pairwise_append]
        exact ⟨hup.1, by simp, fun a ha b hb => by
          simp at hb
          rw [hb, ← hl]
          exact hup.2.2 a ha _ (by simp)⟩
      · rcases List.mem_append.1 hx with hx | hx
        · have := h.le x (List.mem_append_left _ hx); omega
        · rw [List.mem_singleton.1 hx]; exact Int.le_refl _
      · rcases List.mem_append.1 hx with hx | hx
        · exact h.off x (List.mem_append_left _ hx)
        · rw [List.mem_singleton.1 hx]; exact hv
    · rw [if_neg (fun h => hl h.2)]
      have hlt : l.t < t := by have := h.le l (by simp); omega
      refine ⟨by simp, ?_, fun x hx => ?_, fun x hx => ?_⟩
      · rw [List.map_append, List.pairwise_append]
        refine ⟨h.up, by simp, fun a ha b hb => ?_⟩
        simp at hb
        subst hb
        rw [List.map_append, List.mem_append] at ha
        rcases ha with ha | ha
        · have := hup.2.2 a ha l.t (by simp); omega
        · simp at ha; omega
      · rcases List.mem_append.1 hx with hx | hx
        · have := h.le x hx; omega
        · rw [List.mem_singleton.1 hx]; exact Int.le_refl _
      · rcases List.mem_append.1 hx with hx | hx
        · exact h.off x hx
        · rw [List.mem_singleton.1 hx]; exact hv
theorem bh_all {us : List Vp} {j : Int} (h : ∀ v ∈ us, v.t ≤ j) : bhP j us = lastP us := by
  unfold bhP lastP
  have e : us.countP (fun v => decide (v.t ≤ j)) = us.length := List.countP_eq_length.2 fun v hv => by simpa using h v hv
  rw [e]
  split
  · rename_i h0
    rw [List.eq_nil_of_length_eq_zero h0]
    rfl
  · rfl
theorem bh_show {t j : Int} (v : Vp) {us : List Vp} (hj : j < t) (h : us = [] ∨ GoodU us t) : bhP j (showP t v us) = bhP j us := by
  have app : ∀ (xs : List Vp) (a b : Vp), j < a.t → bhP j (xs ++ [a]) = bhP j xs := fun xs a b ha => by
    unfold bhP
    have e : (xs ++ [a]).countP (fun v => decide (v.t ≤ j)) = xs.countP (fun v => decide (v.t ≤ j)) := by
      rw [List.countP_append]
      simp [ha]
    rw [e]
    split
    · rfl
    · rename_i h0
      have := List.countP_le_length (p := fun v : Vp => decide (v.t ≤ j)) (l := xs)
      rw [List.getD_eq_getElem?_getD, List.getElem?_append_left (by omega), List.getD_eq_getElem?_getD]
  rcases h with rfl | h
  · unfold showP
    rw [if_neg (by simp)]
    exact app [] _ v hj
  · have h0 : 0 < us.length := List.length_pos_iff.2 h.ne
    obtain ⟨us', l, rfl⟩ : ∃ us' l, us = us' ++ [l] := ⟨us.dropLast, us.getLast h.ne, (List.dropLast_concat_getLast h.ne).symm⟩
    have hd : (us' ++ [l]).getD ((us' ++ [l]).length - 1) Vp.none = l := by simp [List.getD_eq_getElem?_getD]
    unfold showP
    rw [hd]
    by_cases hl : l.t = t
    · rw [if_pos ⟨h0, hl⟩]
      have e : (us' ++ [l]).set ((us' ++ [l]).length - 1) ⟨t, v.is, v.zs⟩ = us' ++ [⟨t, v.is, v.zs⟩] := by simp
      rw [e, app us' _ v (by exact hj), app us' l v (by omega)]
    · rw [if_neg (fun h => hl h.2)]
      exact app _ _ v hj
def GoodL (L : Lp) (t : Int) : Prop := (keysP L).Nodup ∧ ∀ p ∈ L, GoodU p.2.us t
theorem GoodL.nil (t : Int) : GoodL [] t := ⟨by simp [keysP], by simp⟩
theorem GoodL.at_ {L : Lp} {t : Int} (h : GoodL L t) {k : List UInt8} {x : Hp} (hx : entP L k = some x) : GoodU x.us t := h.2 _ (ent_mem hx)
theorem good_put {L : Lp} {t : Int} {k : List UInt8} {zs : List Int} (h : GoodL L t) : GoodL (putP (t + 1) k zs L) (t + 1) := by
  have up : ∀ {us : List Vp}, GoodU us t → GoodU us (t + 1) := fun {us} hu => ⟨hu.ne, hu.up, fun v hv => by have := hu.le v hv; omega, hu.off⟩
  refine ⟨by rw [putP, mod_keys]; exact add_nodup h.1, fun p hp => ?_⟩
  unfold putP modP at hp
  obtain ⟨q, hq, rfl⟩ := List.mem_map.1 hp
  have hq' : q ∈ L ∨ q = (k, ⟨[], []⟩) := by
    unfold addP at hq
    split at hq
    · exact .inl hq
    · rcases List.mem_append.1 hq with hq | hq
      · exact .inl hq
      · exact .inr (List.mem_singleton.1 hq)
  split
  · refine show_good (fun h => by cases h) ?_ (show t ≤ t + 1 by omega)
    rcases hq' with hq | rfl
    · exact .inr (h.2 q hq)
    · exact .inl rfl
  · rename_i hne
    rcases hq' with hq | rfl
    · exact up (h.2 q hq)
    · exact absurd rfl hne
theorem bh_off {us : List Vp} {t j : Int} (h : GoodU us t) : (bhP j us).is = false → (bhP j us).zs = [] := by
  unfold bhP
  split
  · intro _; rfl
  · rename_i h0
    have hc := List.countP_le_length (p := fun v : Vp => decide (v.t ≤ j)) (l := us)
    have hlt : us.countP (fun v => decide (v.t ≤ j)) - 1 < us.length := by omega
    rw [List.getD_eq_getElem?_getD, List.getElem?_eq_getElem hlt]
    exact h.off _ (List.getElem_mem hlt)
theorem good_roll {L : Lp} {t j : Int} (h : GoodL L t) : GoodL (rollP t j L) t := by
  refine ⟨by rw [roll_keys]; exact h.1, fun p hp => ?_⟩
  unfold rollP at hp
  obtain ⟨q, hq, rfl⟩ := List.mem_map.1 hp
  exact show_good (bh_off (h.2 q hq)) (.inr (h.2 q hq)) (Int.le_refl _)
theorem shw_put {t : Int} {k : List UInt8} {zs : List Int} {L : Lp} (x : List UInt8) : shwP (putP t k zs L) x = if x = k then (true, zs) else shwP L x := by
  unfold shwP
  rw [ent_put]
  by_cases h : x = k
  · rw [if_pos h, if_pos h]
    show ((lastP (showP _ _ _)).is, (lastP (showP _ _ _)).zs) = _
    rw [show_last]
  · rw [if_neg h, if_neg h]
theorem ver_put {t : Int} {k : List UInt8} {zs : List Int} {L : Lp} (x : List UInt8) : verP (putP t k zs L) x = if x = k then verP L x ++ [zs] else verP L x := by
  unfold verP
  rw [ent_put]
  by_cases h : x = k
  · rw [if_pos h, if_pos h]
    cases entP L x <;> rfl
  · rw [if_neg h, if_neg h]
theorem shw_roll {t j : Int} {L : Lp} (x : List UInt8) : shwP (rollP t j L) x = bhdP L x j := by
  unfold shwP bhdP
  rw [ent_roll]
  cases entP L x with
  | none => rfl
  | some y =>
    show ((lastP (showP _ _ _)).is, (lastP (showP _ _ _)).zs) = _
    rw [show_last]
theorem ver_roll {t j : Int} {L : Lp} (x : List UInt8) : verP (rollP t j L) x = verP L x := by
  unfold verP
  rw [ent_roll]
  cases entP L x <;> rfl
theorem bhd_put {t j : Int} {k : List UInt8} {zs : List Int} {L : Lp} (h : GoodL L t) (hj : j ≤ t) (x : List UInt8) : bhdP (putP (t + 1) k zs L) x j = bhdP L x j := by
  unfold bhdP
  rw [ent_put]
  by_cases hx : x = k
  · rw [if_pos hx]
    cases he : entP L x with
    | none =>
      show ((bhP j (showP (t + 1) ⟨0, true, zs⟩ [])).is, (bhP j (showP (t + 1) ⟨0, true, zs⟩ [])).zs) = (false, [])
      rw [bh_show (t := t + 1) (j := j) ⟨0, true, zs⟩ (by omega) (.inl rfl)]
      rfl
    | some y =>
      have hg := h.at_ he
      show ((bhP j (showP (t + 1) ⟨0, true, zs⟩ y.us)).is, (bhP j (showP (t + 1) ⟨0, true, zs⟩ y.us)).zs) = ((bhP j y.us).is, (bhP j y.us).zs)
      rw [bh_show (t := t + 1) (j := j) ⟨0, true, zs⟩ (by omega) (.inr ⟨hg.ne, hg.up, fun v hv => by have := hg.le v hv; omega, hg.off⟩)]
  · rw [if_neg hx]
theorem bhd_all {t : Int} {L : Lp} (h : GoodL L t) (x : List UInt8) : bhdP L x t = shwP L x := by
  unfold bhdP shwP
  cases he : entP L x with
  | none => rfl
  | some y =>
    show ((bhP t y.us).is, (bhP t y.us).zs) = ((lastP y.us).is, (lastP y.us).zs)
    rw [bh_all (h.at_ he).le]
def rollsP (t n : Int) (L : Lp) : Bool × Lp := if n < 0 ∨ t < n then (false, L) else if n = 0 then (true, L) else (true, rollP t (t - n) L)
end Go.Proofs.Ytbippmbcgkicaaa.Sto
