/-
  What the frame of a proof says of a program, a pair, a list of truths that came in.
  What the frame of a proof says of a list of pairs, of public numbers that came in.
  What the frame of a proof says of an array of numbers that came in by value.
  More steps of a region: a struct allocated, a list of structs built: no program here.
  One struct stored into a list whose block is known whole: no program here.
  Jobs (a struct of structs, of numbers and of lists) in memory and as they come in; a struct within a struct, read and stored.
  Which of two records stands ahead; the document's own sort, and neighbours that change places in rounds, as plain functions: they are the same.
  A bitonic network as a plain function on places; that behind all its stages all places rise (stages_rise); and that a round, done pair by pair in one list, is the network's step (round_is): no program here.
-/
import Derived.Test.YtlinmcgmkpkpaaaDoorB5
import Derived.Test.YtlinmcgmkpkpaaaDoorB3
import Derived.WideShapes
import Derived.ChangeArms
import Derived.Test.YtlinmcgmkpkpaaaDoorB6
import Derived.Test.YtlinmcgmkpkpaaaDoorB1
import Derived.Test.YtlinmcgmkpkpaaaDoorB2
import Derived.Test.YtlinmcgmkpkpaaaDoorRows
set_option linter.unusedVariables false
namespace Go.Proofs.YtlinmcgmkpkpaaaDoor.Vm
open Go.RowKit Go.ChangeShapes Go.WideShapes Mem Rc Sl
def kB : St Bool := ⟨1, fun b => [.bool b], fun _ => True, false, fun _ => rfl, fun _ u hu => by rw [List.mem_singleton.1 hu]; rfl, by omega⟩
section
variable {H : Type} {enc : TypeId × Value → H} {w : World} {base : Nat} {held : Bool}
theorem cells_some {a : Addr} {cs : List Value} {n : Nat} (h : w.cells? base a n = some cs) : cs.length = n ∧ ∀ j, j < n → w.cell? (a.add j) = cs[j]? := by
  obtain ⟨h1, h2, h3⟩ := World.cells?_some h
  exact ⟨h2, h3⟩
theorem open_lst {α : Type} {k : St α} {t e : TypeId} (ht : Tryd.prog.underlying t = some (.slice e)) (hc : Tryd.prog.cellsOf e = k.s)
    (one : ∀ (n : Nat) (cs : List Value) (x : DataW H × List MemPlace), DataW.trod enc Tryd.prog w base (fun _ => true) held n e cs = some x → ∃ r : α, cs = k.cells r ∧ k.wf r)
    {fuel : Nat} {cs : List Value} {x : DataW H × List MemPlace} (hf : DataW.trod enc Tryd.prog w base (fun _ => true) held fuel t cs = some x) :
    ∃ (A : Option Addr) (m c : Nat) (xs : List α), cs = [.slice A m c] ∧ Lst k w w.heap.size A m xs ∧ m ≤ c ∧ c ≤ maxLen := by
  rcases DataW.trod_slice ht hf with ⟨hcs, _⟩ | ⟨a, len, cap, elems, rest, n, _, hcs, _, hb, hl, hm, hlen, hel, _, _⟩
  · exact ⟨none, 0, 0, [], hcs, Lst.nil _ _ _ _, Nat.le_refl _, by simp [maxLen]⟩
  · have each : ∀ i, i < len → ∃ r : α, k.wf r ∧ ∀ j, j < k.s → w.cell? ((a.add (i * k.s)).add j) = (k.cells r)[j]? := fun i hi => by
      have hi' : i < elems.length := by rw [hlen]; exact hi
      have e := hel i hi
      rw [hc, List.getElem?_eq_getElem hi', Option.bind_eq_some_iff] at e
      obtain ⟨cs, hc, ht⟩ := e
      obtain ⟨r, rfl, hw⟩ := one _ _ _ ht
      exact ⟨r, hw, (cells_some hc).2⟩
    have hch : ∃ F : Nat → α, ∀ i, i < len → k.wf (F i) ∧ ∀ j, j < k.s → w.cell? ((a.add (i * k.s)).add j) = (k.cells (F i))[j]? :=
      ⟨fun i => if h : i < len then Classical.choose (each i h) else k.d, fun i hi => by
        have := Classical.choose_spec (each i hi)
        simp only [hi, dif_pos]
        exact this⟩
    obtain ⟨F, hF⟩ := hch
    refine ⟨some a, len, cap, (List.range len).map F, hcs, ⟨by simp, fun r hr => ?_, fun h0 => ?_⟩, hl, hm⟩
    · obtain ⟨i, hi, rfl⟩ := List.mem_map.1 hr
      exact (hF i (List.mem_range.1 hi)).1
    · have h00 := (hF 0 h0).2 0 k.pos
      have hk0 : 0 < (k.cells (F 0)).length := by rw [k.len]; exact k.pos
      rw [List.getElem?_eq_getElem hk0, Nat.zero_mul] at h00
      obtain ⟨u0, h00⟩ : ∃ u, w.cell? a = some u := ⟨_, by simpa [Addr.add] using h00⟩
      obtain ⟨b, off, spot⟩ := a
      have hspot : spot = none := by simpa [Addr.add] using World.cell?_spot h00
      subst hspot
      have hlt : b < w.heap.size := by simpa [Addr.add] using World.block_lt_of_cell? w _ h00
      have ea : ∀ o j : Nat, (Addr.mk b o none).add j = ⟨b, o + j, none⟩ := fun o j => by unfold Addr.add; split <;> simp_all
      refine ⟨b, off, rfl, hlt, fun q v hv => ?_⟩
      have hq := (List.getElem?_eq_some_iff.1 hv).1
      rw [flat_length] at hq
      simp only [List.length_map, List.length_range] at hq
      have hq1 : q / k.s < len := Nat.div_lt_of_lt_mul (by rw [Nat.mul_comm]; exact hq)
      have hq2 := Nat.mod_lt q k.pos
      have hq3 : q / k.s * k.s + q % k.s = q := by rw [Nat.mul_comm]; exact Nat.div_add_mod q k.s
      have hv' := hv
      have h4 := flat_at (k := k) ((List.range len).map F) (q / k.s) (q % k.s) hq2 (by simpa using hq1)
      rw [hq3] at h4
      rw [h4] at hv'
      have hg : ((List.range len).map F).getD (q / k.s) k.d = F (q / k.s) := by
        rw [List.getD_eq_getElem?_getD, List.getElem?_map, List.getElem?_range hq1]
        rfl
      rw [hg, ← (hF (q / k.s) hq1).2 (q % k.s) hq2, ea, ea, Nat.add_assoc, hq3] at hv'
      exact hv'
theorem open_lstT {α : Type} {k : St α} {t e : TypeId} (ht : Tryd.prog.underlying t = some (.slice e)) (hc : Tryd.prog.cellsOf e = k.s)
    (one : ∀ (n : Nat) (cs : List Value) (x : DataW H × List MemPlace), DataW.trod enc Tryd.prog w base (fun _ => true) held n e cs = some x → ∃ r : α, cs = k.cells r ∧ k.wf r)
    {A : Option Addr} {m c : Nat} {d : DataW H} {p : List MemPlace} (h : DataW.Trod enc Tryd.prog w base (fun _ => true) held t (.slice A m c) d p) : ∃ xs, Lst k w w.heap.size A m xs ∧ m ≤ c ∧ c ≤ maxLen := by
  obtain ⟨fuel, hf⟩ := h
  simp only [Value.cells] at hf
  obtain ⟨A', m', c', xs, e, h⟩ := open_lst ht hc one hf
  simp at e
  obtain ⟨rfl, rfl, rfl⟩ := e
  exact ⟨xs, h⟩
theorem pair_fields : ∃ f0 f1 : Field, Tryd.prog.underlying 39 = some (.struct #[f0, f1]) ∧ (f0.offset = 0 ∧ f0.type = 2) ∧ (f1.offset = 1 ∧ f1.type = 2) :=
  ⟨_, _, Tryd.underlying39, ⟨rfl, rfl⟩, ⟨rfl, rfl⟩⟩
end
end Go.Proofs.YtlinmcgmkpkpaaaDoor.Vm
namespace Go.Proofs.YtlinmcgmkpkpaaaDoor.Sp
open Go.RowKit Go.ChangeShapes Go.WideShapes Mem Rc Sl Vm
section
variable {H : Type} {enc : TypeId × Value → H} {w : World} {base : Nat} {held : Bool}
set_option maxRecDepth 100000 in
theorem open_pair1 (n : Nat) (cs : List Value) (x : DataW H × List MemPlace) (h : DataW.trod enc Tryd.prog w base (fun _ => true) held n 39 cs = some x) : ∃ r : Int × Int, cs = kP.cells r ∧ kP.wf r := by
  obtain ⟨f0, f1, hu, ⟨o0, t0⟩, ⟨o1, t1⟩⟩ := pair_fields
  obtain ⟨xs, m, _, _, hl, hxl, hel⟩ := DataW.trod_struct hu h
  have c6 : Tryd.prog.cellsOf 2 = 1 := by kernel_rfl
  have cc : Tryd.prog.cellsOf 39 = 2 := by kernel_rfl
  rw [cc] at hl
  have hx2 : xs.length = 2 := hxl
  have e0 := hel 0 f0 rfl
  have e1 := hel 1 f1 rfl
  rw [o0, t0, c6] at e0
  rw [o1, t1, c6] at e1
  obtain ⟨z0, q0, w0⟩ := field_int (by omega) Tryd.underlying2 e0 (by simp [hx2])
  obtain ⟨z1, q1, w1⟩ := field_int (by omega) Tryd.underlying2 e1 (by simp [hx2])
  refine ⟨(z0, z1), ?_, w0, w1⟩
  apply List.ext_getElem?
  intro i
  match i with
  | 0 => exact q0
  | 1 => exact q1
  | i + 2 => rw [List.getElem?_eq_none (by omega), List.getElem?_eq_none (by simp [kP, pcells])]
end
end Go.Proofs.YtlinmcgmkpkpaaaDoor.Sp
namespace Go.Proofs.YtlinmcgmkpkpaaaDoor.Mem
open Go.RowKit Go.ChangeShapes Go.WideShapes
end Go.Proofs.YtlinmcgmkpkpaaaDoor.Mem
namespace Go.Proofs.YtlinmcgmkpkpaaaDoor.Sl
open Go.RowKit Go.Shelf Mem Held
section
variable {α : Type} {k : St α} {P : Program} {ops : Array Oper} {o : Oper} {a : Act} {w : World} {Q : Exit → Act → World → Prop}
theorem op_alloc_blk (i : Nat) (d : Option Tmp) {K : Act → World → Prop} (ty : TypeId) (cs : Array Value) (hi : ops[i]? = some o) (hd : o.dst = d) (hw : Region.wanted o (yielded ops a.tmps) = true)
    (ho : o.op = .alloc ty) (hz : (P.info? ty).bind (·.zero) = some (.agg cs))
    (h : ∀ g w', Blk w' g ty cs → Below w.heap.size w w' → Hid (w.heap.size ≤ g) → K (a.put d (.pointer (some ⟨g, 0, none⟩))) w') : wpOp P ops Q i K a w := by
  subst hd
  refine op_wp i hi hw ?_
  unfold Oper.wp execOp
  simp only [ho, run_alloc_blk ty cs hz, Sem.run_bind, Sem.run_pure, Result.andThen_ok]
  exact h _ _ (heap_alloc_new w _) ((Below.refl _ w).alloc (Nat.le_refl _) _) (Lib.hid (Nat.le_refl _))
theorem op_build_lst (i : Nat) (d : Option Tmp) {K : Act → World → Prop} (ts e : TypeId) (n : Nat) {parts : Array (Nat × Operand)} (z : Value) (bytes : Nat) (xs : List α) (hi : ops[i]? = some o) (hd : o.dst = d) (hw : Region.wanted o (yielded ops a.tmps) = true)
    (ho : o.op = .buildSlice ts n parts) (hu : P.underlying ts = some (.slice e)) (hinfo : (P.info? e).map (fun i => (i.zero, i.size, i.bytes)) = some (some z, k.s, bytes)) (hz : z.cells.size = k.s)
    (hn : xs.length = n) (hp : (parts.map fun (i, x) => (i, a.eval x)).toList = ((xs.map fun x => Value.agg (k.cells x).toArray).zipIdx 0).map fun x => (x.2, x.1)) (h0 : 0 < n) (h24 : n * k.s ≤ 16777216)
    (h : ∀ g w', Blk w' g e (flat k xs).toArray → Below w.heap.size w w' → Hid (w.heap.size ≤ g) → K (a.put d (.slice (some ⟨g, 0, none⟩) n n)) w') : wpOp P ops Q i K a w := by
  subst hd
  refine op_wp i hi hw ?_
  obtain ⟨ie, hie, hz0, hs, hb⟩ := info_parts hinfo
  refine Go.wp_buildSlice ts e n parts ho (flat k xs).toArray ie z hu hie hz0 (by rw [hs]; omega) (by rw [hs]; have := Nat.mul_pos h0 k.pos; omega) ?_ (h _ _ (heap_alloc_new w _) ((Below.refl _ w).alloc (Nat.le_refl _) _) (Lib.hid (Nat.le_refl _)))
  rw [hp, hs]
  refine (Great.fill_whole k.pos (xs.map fun x => Value.agg (k.cells x).toArray) _ (fun v hv => ?_) (by simp [hn])).trans ?_
  · obtain ⟨x, _, rfl⟩ := List.mem_map.1 hv
    simp [Value.cells, k.len]
  · rw [List.flatMap_map]
    simp [flat, Value.cells]
end
end Go.Proofs.YtlinmcgmkpkpaaaDoor.Sl
namespace Go.Proofs.YtlinmcgmkpkpaaaDoor.Sl
open Go.RowKit Go.Shelf Mem Held
section
variable {α : Type} {k : St α} {P : Program} {ops : Array Oper} {o : Oper} {a : Act} {w : World} {Q : Exit → Act → World → Prop}
end
end Go.Proofs.YtlinmcgmkpkpaaaDoor.Sl
namespace Go.Proofs.YtlinmcgmkpkpaaaDoor.Pi
open Go.RowKit Go.ChangeShapes Go.WideShapes Go.Shelf Mem Held Rc Rs Sl Vm Sp
section
variable {P : Program} {ops : Array Oper} {rest : List Oper} {o : Oper} {a : Act} {w : World} {Q : Exit → Act → World → Prop}
end
section
variable {H : Type} {enc : TypeId × Value → H} {w : World} {base : Nat} {held : Bool}
end
end Go.Proofs.YtlinmcgmkpkpaaaDoor.Pi
namespace Go.Proofs.YtlinmcgmkpkpaaaDoor.Mg
open Rc Rs
section
variable (seq : Bool)
def lead (a b : R) : Bool := if seq then bef a.d a.k a.s b.d b.k b.s else ahd a.d a.k b.d b.k
theorem lead_irr (a : R) : lead seq a a = false := by
  unfold lead bef ahd
  cases a.d <;> cases seq <;> simp
theorem lead_trans {a b c : R} (h1 : lead seq a b = true) (h2 : lead seq b c = true) : lead seq a c = true := by
  unfold lead bef ahd at *
  cases seq <;> simp only [Bool.false_eq_true, if_false, if_true, Bool.and_eq_true, Bool.not_eq_true', Bool.or_eq_true, decide_eq_true_eq] at *
  · obtain ⟨ha, hb⟩ := h1
    obtain ⟨hb', hc⟩ := h2
    refine ⟨ha, ?_⟩
    rcases hc with hc | hc
    · exact .inl hc
    · rcases hb with hb | hb
      · rw [hb] at hb'; cases hb'
      · exact .inr (by omega)
  · obtain ⟨ha, hb⟩ := h1
    obtain ⟨hb', hc⟩ := h2
    refine ⟨ha, ?_⟩
    rcases hc with hc | hc
    · exact .inl hc
    · rcases hb with hb | hb
      · rw [hb] at hb'; cases hb'
      · exact .inr (by omega)
theorem lead_neg {a b c : R} (h1 : lead seq a b = false) (h2 : lead seq b c = false) : lead seq a c = false := by
  unfold lead bef ahd at *
  cases seq <;> simp only [Bool.false_eq_true, if_false, if_true, Bool.and_eq_false_iff, Bool.not_eq_false', Bool.or_eq_false_iff, decide_eq_false_iff_not] at *
  · rcases h1 with h1 | ⟨hb, h1⟩
    · exact .inl h1
    · rcases h2 with h2 | ⟨hc, h2⟩
      · rw [hb] at h2; cases h2
      · exact .inr ⟨hc, by omega⟩
  · rcases h1 with h1 | ⟨hb, h1⟩
    · exact .inl h1
    · rcases h2 with h2 | ⟨hc, h2⟩
      · rw [hb] at h2; cases h2
      · exact .inr ⟨hc, by omega⟩
theorem lead_asym {a b : R} (h : lead seq a b = true) : lead seq b a = false := by
  cases hb : lead seq b a with
  | false => rfl
  | true =>
    have := lead_trans seq h hb
    rw [lead_irr] at this
    cases this
theorem lead_of {a b c : R} (h1 : lead seq a b = true) (h2 : lead seq c b = false) : lead seq a c = true := by
  cases h : lead seq a c with
  | true => rfl
  | false => rw [lead_neg seq h h2] at h1; cases h1
theorem lead_of' {a b c : R} (h1 : lead seq a b = true) (h2 : lead seq a c = false) : lead seq c b = true := by
  cases h : lead seq c b with
  | true => rfl
  | false => rw [lead_neg seq h2 h] at h1; cases h1
def tie (a b : R) : Bool := !lead seq a b && !lead seq b a
theorem tie_refl (a : R) : tie seq a a = true := by simp [tie, lead_irr]
def Srt : List R → Prop
  | [] => True
  | [_] => True
  | a :: b :: l => lead seq b a = false ∧ Srt (b :: l)
theorem Srt.tail {a : R} {l : List R} (h : Srt seq (a :: l)) : Srt seq l := by
  cases l with
  | nil => trivial
  | cons b l => exact h.2
theorem Srt.head {a : R} : ∀ {l : List R}, Srt seq (a :: l) → ∀ x ∈ l, lead seq x a = false
  | [], _, x, hx => by simp at hx
  | b :: l, h, x, hx => by
    rcases List.mem_cons.1 hx with rfl | hx
    · exact h.1
    · exact lead_neg seq (Srt.head (a := b) h.2 x hx) h.1
theorem stable_unique : ∀ (xs ys : List R), Srt seq xs → Srt seq ys → (∀ c, xs.filter (tie seq c) = ys.filter (tie seq c)) → xs = ys
  | [], [], _, _, _ => rfl
  | [], y :: ys, _, _, h => by
    have := h y
    simp [tie_refl] at this
  | x :: xs, [], _, _, h => by
    have := h x
    simp [tie_refl] at this
  | x :: xs, y :: ys, hx, hy, h => by
    have h1 : x ∈ y :: ys := by
      have : x ∈ (y :: ys).filter (tie seq x) := by rw [← h x]; simp [tie_refl]
      exact (List.mem_filter.1 this).1
    have h2 : y ∈ x :: xs := by
      have : y ∈ (x :: xs).filter (tie seq y) := by rw [h y]; simp [tie_refl]
      exact (List.mem_filter.1 this).1
    have e1 : lead seq x y = false := by
      rcases List.mem_cons.1 h1 with rfl | h1
      · exact lead_irr seq _
      · exact hy.head seq _ h1
    have e2 : lead seq y x = false := by
      rcases List.mem_cons.1 h2 with rfl | h2
      · exact lead_irr seq _
      · exact hx.head seq _ h2
    have ht : tie seq x y = true := by simp [tie, e1, e2]
    have hh := h x
    rw [List.filter_cons_of_pos (tie_refl seq x), List.filter_cons_of_pos ht] at hh
    injection hh with hxy _
    subst hxy
    refine congrArg (x :: ·) (stable_unique xs ys hx.tail hy.tail fun c => ?_)
    have hc := h c
    by_cases ct : tie seq c x = true
    · rw [List.filter_cons_of_pos ct, List.filter_cons_of_pos ct] at hc
      injection hc
    · rw [List.filter_cons_of_neg ct, List.filter_cons_of_neg ct] at hc
      exact hc
def spotR (x : R) (out : List R) : Nat → Nat
  | 0 => 0
  | k + 1 => if lead seq x (out.getD k R0) then spotR x out k else k + 1
def insR (out : List R) (x : R) : List R := out.take (spotR seq x out out.length) ++ x :: out.drop (spotR seq x out out.length)
def sortR (l : List R) : List R := l.foldl (insR seq) []
theorem spotR_le (x : R) (out : List R) : ∀ k, spotR seq x out k ≤ k
  | 0 => Nat.le_refl 0
  | k + 1 => by
    unfold spotR
    split
    · exact Nat.le_succ_of_le (spotR_le x out k)
    · exact Nat.le_refl _
theorem spotR_behind (x : R) (out : List R) : ∀ k i, spotR seq x out k ≤ i → i < k → lead seq x (out.getD i R0) = true
  | 0, i, _, h => absurd h (by omega)
  | k + 1, i, h1, h2 => by
    unfold spotR at h1
    split at h1
    · rename_i hl
      by_cases e : i = k
      · rw [e]; exact hl
      · exact spotR_behind x out k i h1 (by omega)
    · omega
theorem spotR_ahead (x : R) (out : List R) : ∀ k, 0 < spotR seq x out k → lead seq x (out.getD (spotR seq x out k - 1) R0) = false
  | 0, h => absurd h (by simp [spotR])
  | k + 1, h => by
    unfold spotR at h ⊢
    split
    · rename_i hl
      rw [if_pos hl] at h
      exact spotR_ahead x out k h
    · rename_i hl
      simpa using hl
theorem insR_length (out : List R) (x : R) : (insR seq out x).length = out.length + 1 := by
  have := spotR_le seq x out out.length
  simp [insR]; omega
theorem foldR_length : ∀ (l out : List R), (l.foldl (insR seq) out).length = out.length + l.length
  | [], out => rfl
  | x :: l, out => by rw [List.foldl_cons, foldR_length l, insR_length, List.length_cons]; omega
theorem sortR_length (l : List R) : (sortR seq l).length = l.length := by rw [sortR, foldR_length]; simp
theorem srt_iff : ∀ (l : List R), Srt seq l ↔ ∀ i, i + 1 < l.length → lead seq (l.getD (i + 1) R0) (l.getD i R0) = false
  | [] => ⟨fun _ i h => absurd h (by simp), fun _ => trivial⟩
  | [a] => ⟨fun _ i h => absurd h (by simp), fun _ => trivial⟩
  | a :: b :: l => by
    have ih := srt_iff (b :: l)
    constructor
    · rintro ⟨h1, h2⟩ i hi
      cases i with
      | zero => exact h1
      | succ i => exact ih.1 h2 i (by simpa using hi)
    · intro h
      exact ⟨h 0 (by simp), ih.2 fun i hi => h (i + 1) (by simpa using hi)⟩
theorem insR_sorts {out : List R} (x : R) (h : Srt seq out) : Srt seq (insR seq out x) := by
  have hle := spotR_le seq x out out.length
  have hb := spotR_behind seq x out out.length
  have ha := spotR_ahead seq x out out.length
  unfold insR
  generalize spotR seq x out out.length = k at *
  rw [srt_iff] at h ⊢
  intro i hi
  have hg : ∀ j, (out.take k ++ x :: out.drop k).getD j R0 = if j < k then out.getD j R0 else if j = k then x else out.getD (j - 1) R0 := fun j => by
    have hl : (out.take k).length = k := by rw [List.length_take]; omega
    simp only [List.getD_eq_getElem?_getD]
    by_cases c1 : j < k
    · rw [if_pos c1, List.getElem?_append_left (by omega), List.getElem?_take, if_pos c1]
    · rw [if_neg c1, List.getElem?_append_right (by omega), hl]
      by_cases c2 : j = k
      · rw [if_pos c2, c2, Nat.sub_self]; rfl
      · rw [if_neg c2, show j - k = (j - k - 1) + 1 by omega, List.getElem?_cons_succ, List.getElem?_drop, show k + (j - k - 1) = j - 1 by omega]
  have hi' : i < out.length := by simp at hi; omega
  rw [hg, hg]
  by_cases c1 : i + 1 < k
  · rw [if_pos c1, if_pos (by omega)]
    exact h i (by omega)
  · rw [if_neg c1]
    by_cases c2 : i + 1 = k
    · rw [if_pos c2, if_pos (by omega)]
      have := ha (by omega)
      rwa [show k - 1 = i by omega] at this
    · rw [if_neg c2, if_neg (by omega)]
      by_cases c3 : i = k
      · rw [if_pos c3, show i + 1 - 1 = i by omega]
        exact lead_asym seq (hb i (by omega) hi')
      · rw [if_neg c3, show i + 1 - 1 = (i - 1) + 1 by omega]
        exact h (i - 1) (by omega)
theorem insR_ties (c : R) {out : List R} (x : R) (h : Srt seq out) : (insR seq out x).filter (tie seq c) = out.filter (tie seq c) ++ (if tie seq c x then [x] else []) := by
  have hb := spotR_behind seq x out out.length
  have hle := spotR_le seq x out out.length
  unfold insR
  generalize spotR seq x out out.length = k at *
  have hd : ∀ y ∈ out.drop k, lead seq x y = true := fun y hy => by
    obtain ⟨j, hj, rfl⟩ := List.mem_iff_getElem.1 hy
    have hj' : k + j < out.length := by simp at hj; omega
    have := hb (k + j) (by omega) hj'
    rw [List.getD_eq_getElem?_getD, List.getElem?_eq_getElem hj'] at this
    rw [List.getElem_drop]
    exact this
  have ho : out.filter (tie seq c) = (out.take k).filter (tie seq c) ++ (out.drop k).filter (tie seq c) := by rw [← List.filter_append, List.take_append_drop]
  rw [List.filter_append, ho]
  by_cases ct : tie seq c x = true
  · rw [List.filter_cons_of_pos ct, if_pos ct]
    have : (out.drop k).filter (tie seq c) = [] := by
      rw [List.filter_eq_nil_iff]
      intro y hy hty
      have h1 := hd y hy
      unfold tie at ct hty
      simp only [Bool.and_eq_true, Bool.not_eq_true'] at ct hty
      rw [lead_neg seq ct.2 hty.1] at h1
      cases h1
    rw [this]
    simp
  · rw [List.filter_cons_of_neg ct, if_neg ct, List.append_nil]
theorem foldR_is : ∀ (l out : List R), Srt seq out → Srt seq (l.foldl (insR seq) out) ∧ ∀ c, (l.foldl (insR seq) out).filter (tie seq c) = out.filter (tie seq c) ++ l.filter (tie seq c)
  | [], out, h => ⟨h, fun c => by simp⟩
  | x :: l, out, h => by
    obtain ⟨h1, h2⟩ := foldR_is l (insR seq out x) (insR_sorts seq x h)
    refine ⟨h1, fun c => ?_⟩
    rw [List.foldl_cons, h2 c, insR_ties seq c x h]
    by_cases ct : tie seq c x = true
    · rw [if_pos ct, List.filter_cons_of_pos ct]; simp
    · rw [if_neg ct, List.filter_cons_of_neg ct]; simp
theorem sortR_sorts (l : List R) : Srt seq (sortR seq l) := (foldR_is seq l [] trivial).1
theorem sortR_ties (l : List R) (c : R) : (sortR seq l).filter (tie seq c) = l.filter (tie seq c) := by rw [sortR, (foldR_is seq l [] trivial).2 c]; simp
end
section
variable (seq : Bool)
def swR (l : List R) (p : Nat) : Bool := lead seq (l.getD (p + 1) R0) (l.getD p R0)
def settleR (l : List R) (p : Nat) : List R := (l.set p (if swR seq l p then l.getD (p + 1) R0 else l.getD p R0)).set (p + 1) (if swR seq l p then l.getD p R0 else l.getD (p + 1) R0)
theorem settleR_length (l : List R) (p : Nat) : (settleR seq l p).length = l.length := by simp [settleR]
theorem split2 : ∀ (p : Nat) (l : List R), p + 1 < l.length → ∃ A a b B, l = A ++ a :: b :: B ∧ A.length = p
  | _, [], h => absurd h (by simp)
  | 0, [a], h => absurd h (by simp)
  | 0, a :: b :: B, _ => ⟨[], a, b, B, rfl, rfl⟩
  | p + 1, x :: l, h => by
    obtain ⟨A, a, b, B, e, hl⟩ := split2 p l (by simpa using h)
    exact ⟨x :: A, a, b, B, by rw [e]; rfl, by simp [hl]⟩
theorem settle_app (A : List R) (a b : R) (B : List R) : settleR seq (A ++ a :: b :: B) A.length = if lead seq b a then A ++ b :: a :: B else A ++ a :: b :: B := by
  have g0 : (A ++ a :: b :: B).getD A.length R0 = a := by simp [List.getD_eq_getElem?_getD]
  have g1 : (A ++ a :: b :: B).getD (A.length + 1) R0 = b := by
    rw [List.getD_eq_getElem?_getD, List.getElem?_append_right (by omega), show A.length + 1 - A.length = 1 by omega]; rfl
  have hs : ∀ x y : R, ((A ++ a :: b :: B).set A.length x).set (A.length + 1) y = A ++ x :: y :: B := fun x y => by
    rw [List.set_append_right _ _ (Nat.le_refl _), Nat.sub_self, List.set_cons_zero, List.set_append_right _ _ (by omega), show A.length + 1 - A.length = 1 by omega]; rfl
  unfold settleR swR
  rw [g0, g1, hs]
  split <;> rfl
theorem settle_ties (c : R) {l : List R} {p : Nat} (hp : p + 1 < l.length) : (settleR seq l p).filter (tie seq c) = l.filter (tie seq c) := by
  obtain ⟨A, a, b, B, rfl, rfl⟩ := split2 p l hp
  rw [settle_app]
  split
  · rename_i hl
    rw [List.filter_append, List.filter_append]
    congr 1
    by_cases ca : tie seq c a = true
    · have cb : ¬ tie seq c b = true := fun cb => by
        unfold tie at ca cb
        simp only [Bool.and_eq_true, Bool.not_eq_true'] at ca cb
        rw [lead_neg seq cb.2 ca.1] at hl
        cases hl
      rw [List.filter_cons_of_neg cb, List.filter_cons_of_pos ca, List.filter_cons_of_pos ca, List.filter_cons_of_neg cb]
    · rw [List.filter_cons_of_neg ca (l := b :: B)]
      by_cases cb : tie seq c b = true
      · rw [List.filter_cons_of_pos cb, List.filter_cons_of_pos cb, List.filter_cons_of_neg ca]
      · rw [List.filter_cons_of_neg cb, List.filter_cons_of_neg cb, List.filter_cons_of_neg ca]
  · rfl
theorem settle_perm {l : List R} {p : Nat} (hp : p + 1 < l.length) : (settleR seq l p).Perm l := by
  obtain ⟨A, a, b, B, rfl, rfl⟩ := split2 p l hp
  rw [settle_app]
  split
  · exact List.Perm.append_left A (List.Perm.swap _ _ _)
  · exact List.Perm.refl _
def cnt (c : R) (l : List R) (q : Nat) : Nat := (l.drop q).countP (lead seq c)
theorem cnt_step (c : R) {l : List R} {q : Nat} (hq : q < l.length) : cnt seq c l q = (if lead seq c (l.getD q R0) then 1 else 0) + cnt seq c l (q + 1) := by
  unfold cnt
  rw [List.drop_eq_getElem_cons hq, List.countP_cons, List.getD_eq_getElem?_getD, List.getElem?_eq_getElem hq, Option.getD_some]
  omega
theorem cnt_le (c : R) (l : List R) (q : Nat) : cnt seq c l q ≤ l.length - q := by
  unfold cnt
  have := List.countP_le_length (p := lead seq c) (l := l.drop q)
  rwa [List.length_drop] at this
theorem cnt_mono (c : R) (l : List R) (q : Nat) : cnt seq c l (q + 1) ≤ cnt seq c l q := by
  by_cases h : q < l.length
  · rw [cnt_step seq c h]; omega
  · have := cnt_le seq c l (q + 1)
    omega
theorem cnt_zero (c : R) (l : List R) : ∀ q, cnt seq c l 0 ≤ q + cnt seq c l q
  | 0 => by omega
  | q + 1 => by
    have := cnt_zero c l q
    by_cases h : q < l.length
    · rw [cnt_step seq c h] at this
      split at this <;> omega
    · have h2 := cnt_le seq c l q
      omega
theorem cnt_top (c : R) (l : List R) : ∀ q, cnt seq c l q ≤ cnt seq c l 0
  | 0 => Nat.le_refl _
  | q + 1 => Nat.le_trans (cnt_mono seq c l q) (cnt_top c l q)
theorem settle_cnt (c : R) {l : List R} {p : Nat} (hp : p + 1 < l.length) (q : Nat) : cnt seq c (settleR seq l p) q = if q = p + 1 then min (cnt seq c l p) (cnt seq c l (p + 2) + 1) else cnt seq c l q := by
  obtain ⟨A, a, b, B, rfl, rfl⟩ := split2 p l hp
  rw [settle_app]
  have d1 : ∀ x y : R, (A ++ x :: y :: B).drop (A.length + 1) = y :: B := fun x y => by
    rw [List.drop_append]; simp
  have d2 : ∀ x y : R, (A ++ x :: y :: B).drop (A.length + 2) = B := fun x y => by
    rw [List.drop_append]; simp
  have d0 : ∀ x y : R, (A ++ x :: y :: B).drop A.length = x :: y :: B := fun x y => by
    rw [List.drop_append]; simp
  by_cases e : q = A.length + 1
  · rw [if_pos e, e]
    unfold cnt
    rw [d0, d2]
    by_cases hl : lead seq b a = true
    · rw [if_pos hl, d1]
      simp only [List.countP_cons]
      by_cases ca : lead seq c a = true
      · rw [if_pos ca]; split <;> omega
      · by_cases cb : lead seq c b = true
        · exact absurd (lead_trans seq cb hl) ca
        · rw [if_neg ca, if_neg cb]; omega
    · rw [if_neg hl, d1]
      simp only [List.countP_cons]
      by_cases cb : lead seq c b = true
      · rw [if_pos cb]; split <;> omega
      · by_cases ca : lead seq c a = true
        · exact absurd (lead_of' seq ca (by simpa using cb)) hl
        · rw [if_neg ca, if_neg cb]; omega
  · rw [if_neg e]
    split
    · unfold cnt
      rw [List.drop_append, List.drop_append, List.countP_append, List.countP_append]
      congr 1
      by_cases hq : q ≤ A.length
      · rw [show q - A.length = 0 by omega]
        simp only [List.drop_zero, List.countP_cons]
        omega
      · obtain ⟨r, hr⟩ : ∃ r, q - A.length = r + 2 := ⟨q - A.length - 2, by omega⟩
        rw [hr]
        rfl
    · rfl
def stepsR (f : Nat) : Nat → List R → List R
  | 0, l => l
  | k + 1, l => settleR seq (stepsR f k l) (f + 2 * k)
theorem stepsR_length (f : Nat) : ∀ (k : Nat) (l : List R), (stepsR seq f k l).length = l.length
  | 0, _ => rfl
  | k + 1, l => by rw [stepsR, settleR_length, stepsR_length f k l]
theorem steps_ties (c : R) (f : Nat) : ∀ (k : Nat) (l : List R), f + 2 * k ≤ l.length → (stepsR seq f k l).filter (tie seq c) = l.filter (tie seq c)
  | 0, _, _ => rfl
  | k + 1, l, h => by
    rw [stepsR, settle_ties seq c (by rw [stepsR_length]; omega), steps_ties c f k l (by omega)]
theorem steps_perm (f : Nat) : ∀ (k : Nat) (l : List R), f + 2 * k ≤ l.length → (stepsR seq f k l).Perm l
  | 0, _, _ => List.Perm.refl _
  | k + 1, l, h => by
    rw [stepsR]
    exact (settle_perm seq (by rw [stepsR_length]; omega)).trans (steps_perm f k l (by omega))
theorem steps_cnt (c : R) (f : Nat) : ∀ (k : Nat) (l : List R), f + 2 * k ≤ l.length → ∀ q, cnt seq c (stepsR seq f k l) q = if f < q ∧ q < f + 2 * k ∧ (q - f) % 2 = 1 then min (cnt seq c l (q - 1)) (cnt seq c l (q + 1) + 1) else cnt seq c l q
  | 0, l, _, q => by rw [if_neg (by omega)]; rfl
  | k + 1, l, h, q => by
    have ih := steps_cnt c f k l (by omega)
    rw [stepsR, settle_cnt seq c (by rw [stepsR_length]; omega)]
    by_cases e : q = f + 2 * k + 1
    · rw [if_pos e, if_pos (by omega), ih, ih, if_neg (by omega), if_neg (by omega), e, show f + 2 * k + 1 - 1 = f + 2 * k by omega]
    · rw [if_neg e, ih]
      by_cases hc : f < q ∧ q < f + 2 * k ∧ (q - f) % 2 = 1
      · rw [if_pos hc, if_pos (by omega)]
      · rw [if_neg hc, if_neg (by omega)]
def roundR (f : Nat) (l : List R) : List R := stepsR seq f ((l.length - f) / 2) l
def oetR : Nat → List R → List R
  | 0, l => l
  | t + 1, l => roundR seq (t % 2) (oetR t l)
theorem oetR_length : ∀ (t : Nat) (l : List R), (oetR seq t l).length = l.length
  | 0, _ => rfl
  | t + 1, l => by rw [oetR, roundR, stepsR_length, oetR_length t l]
theorem round_fits {f n : Nat} (hf : f ≤ 1) (hn : 0 < n) : f + 2 * ((n - f) / 2) ≤ n := by omega
theorem oet_ties (c : R) : ∀ (t : Nat) (l : List R), (oetR seq t l).filter (tie seq c) = l.filter (tie seq c)
  | 0, _ => rfl
  | t + 1, l => by
    rw [oetR, roundR]
    rcases Nat.eq_zero_or_pos (oetR seq t l).length with h0 | h0
    · rw [h0, Nat.zero_sub, Nat.zero_div]
      exact oet_ties c t l
    · rw [steps_ties seq c _ _ _ (round_fits (by omega) h0), oet_ties c t l]
theorem oet_perm : ∀ (t : Nat) (l : List R), (oetR seq t l).Perm l
  | 0, _ => List.Perm.refl _
  | t + 1, l => by
    rw [oetR, roundR]
    rcases Nat.eq_zero_or_pos (oetR seq t l).length with h0 | h0
    · rw [h0, Nat.zero_sub, Nat.zero_div]
      exact oet_perm t l
    · exact (steps_perm seq _ _ _ (round_fits (by omega) h0)).trans (oet_perm t l)
theorem oet_cnt (c : R) (l : List R) (hl : 0 < l.length) : ∀ t, cnt seq c (oetR seq t l) 0 = cnt seq c l 0 ∧ ∀ q j, j ≤ cnt seq c l 0 → q + j ≤ l.length → 2 * j + q ≤ 2 * ((cnt seq c l 0 + 1) / 2) + t → j ≤ cnt seq c (oetR seq t l) q
  | 0 => ⟨rfl, fun q j h1 h2 h3 => by
    have := cnt_zero seq c l q
    show j ≤ cnt seq c l q
    omega⟩
  | t + 1 => by
    obtain ⟨i0, ih⟩ := oet_cnt c l hl t
    have hL := oetR_length seq t l
    have hc := fun q => steps_cnt seq c (t % 2) ((l.length - t % 2) / 2) (oetR seq t l) (by rw [hL]; exact round_fits (by omega) hl) q
    have hz : cnt seq c (oetR seq (t + 1) l) 0 = cnt seq c l 0 := by
      rw [oetR, roundR, hL, hc, if_neg (by omega), i0]
    refine ⟨hz, fun q j h1 h2 h3 => ?_⟩
    rw [oetR, roundR, hL, hc]
    by_cases hq : t % 2 < q ∧ q < t % 2 + 2 * ((l.length - t % 2) / 2) ∧ (q - t % 2) % 2 = 1
    · rw [if_pos hq]
      have a1 := ih (q - 1) j h1 (by omega) (by omega)
      rcases Nat.eq_zero_or_pos j with j0 | j0
      · omega
      · have a2 := ih (q + 1) (j - 1) (by omega) (by omega) (by omega)
        omega
    · rw [if_neg hq]
      by_cases q0 : q = 0
      · rw [q0, i0]; exact h1
      · rcases Nat.eq_zero_or_pos j with j0 | j0
        · omega
        · refine ih q j h1 h2 ?_
          omega
theorem oet_sorts (l : List R) : Srt seq (oetR seq l.length l) := by
  rw [srt_iff]
  intro i hi
  rw [oetR_length] at hi
  cases hL : lead seq ((oetR seq l.length l).getD (i + 1) R0) ((oetR seq l.length l).getD i R0) with
  | false => rfl
  | true =>
    exfalso
    obtain ⟨c, hc⟩ : ∃ c, (oetR seq l.length l).getD (i + 1) R0 = c := ⟨_, rfl⟩
    rw [hc] at hL
    obtain ⟨h0, h1⟩ := oet_cnt seq c l (by omega) l.length
    have hlen := oetR_length seq l.length l
    have s0 := cnt_step seq c (l := oetR seq l.length l) (q := i) (by omega)
    have s1 := cnt_step seq c (l := oetR seq l.length l) (q := i + 1) (by omega)
    rw [hc, lead_irr] at s1
    rw [hL] at s0
    simp only [if_true, Bool.false_eq_true, if_false] at s0 s1
    have u0 := cnt_top seq c (oetR seq l.length l) i
    have u2 := cnt_le seq c (oetR seq l.length l) (i + 1 + 1)
    have v0 := cnt_le seq c l 0
    rcases Nat.le_total (cnt seq c l 0) (l.length - (i + 1)) with k | k
    · have := h1 (i + 1) (cnt seq c l 0) (Nat.le_refl _) (by omega) (by omega)
      omega
    · have := h1 (i + 1) (l.length - (i + 1)) k (by omega) (by omega)
      omega
theorem oet_is (l : List R) : oetR seq l.length l = sortR seq l :=
  stable_unique seq _ _ (oet_sorts seq l) (sortR_sorts seq l) (fun c => by rw [oet_ties, sortR_ties])
theorem sortR_perm (l : List R) : (sortR seq l).Perm l := by
  rw [← oet_is]
  exact oet_perm seq _ l
theorem Srt.take {l : List R} (h : Srt seq l) (k : Nat) : Srt seq (l.take k) := by
  rw [srt_iff] at h ⊢
  intro i hi
  have hi' : i + 1 < k ∧ i + 1 < l.length := by rw [List.length_take] at hi; omega
  have := h i hi'.2
  simp only [List.getD_eq_getElem?_getD, List.getElem?_take] at this ⊢
  rw [if_pos hi'.1, if_pos (by omega)]
  exact this
theorem Srt.drop : ∀ (k : Nat) {l : List R}, Srt seq l → Srt seq (l.drop k)
  | 0, _, h => h
  | _ + 1, [], _ => trivial
  | k + 1, _ :: l, h => Srt.drop k (l := l) h.tail
theorem Srt.two {l : List R} (h : Srt seq l) {i j : Nat} (hij : i ≤ j) (hj : j < l.length) : lead seq (l.getD j R0) (l.getD i R0) = false := by
  rw [srt_iff] at h
  obtain ⟨k, rfl⟩ : ∃ k, j = i + k := ⟨j - i, by omega⟩
  clear hij
  induction k with
  | zero => exact lead_irr seq _
  | succ k ih => exact lead_neg seq (h (i + k) (by omega)) (ih (by omega))
end
end Go.Proofs.YtlinmcgmkpkpaaaDoor.Mg
namespace Go.Proofs.YtlinmcgmkpkpaaaDoor.Net
def step (d : Nat) (up : Nat → Bool) (f : Nat → Int) (x : Nat) : Int :=
  if x / d % 2 = 0 then (if up x then min (f x) (f (x + d)) else max (f x) (f (x + d)))
  else (if up (x - d) then max (f (x - d)) (f x) else min (f (x - d)) (f x))
def steps (up : Nat → Bool) : Nat → (Nat → Int) → Nat → Int
  | 0, f => f
  | t + 1, f => steps up t (step (2 ^ t) up f)
def ups (s x : Nat) : Bool := decide (x / 2 ^ s % 2 = 0)
def stages : Nat → (Nat → Int) → Nat → Int
  | 0, f => f
  | s + 1, f => steps (ups (s + 1)) (s + 1) (stages s f)
def bstep (d : Nat) (up : Nat → Bool) (f : Nat → Bool) (x : Nat) : Bool :=
  if x / d % 2 = 0 then (if up x then f x && f (x + d) else f x || f (x + d))
  else (if up (x - d) then f (x - d) || f x else f (x - d) && f x)
def bsteps (up : Nat → Bool) : Nat → (Nat → Bool) → Nat → Bool
  | 0, f => f
  | t + 1, f => bsteps up t (bstep (2 ^ t) up f)
def bstages : Nat → (Nat → Bool) → Nat → Bool
  | 0, f => f
  | s + 1, f => bsteps (ups (s + 1)) (s + 1) (bstages s f)
def thr (c : Int) (f : Nat → Int) (x : Nat) : Bool := decide (c < f x)
theorem thr_step (c : Int) (d : Nat) (up : Nat → Bool) (f : Nat → Int) : thr c (step d up f) = bstep d up (thr c f) := by
  funext x
  unfold thr step bstep
  split <;> split <;> simp only [← Bool.decide_and, ← Bool.decide_or, decide_eq_decide] <;> omega
theorem thr_steps (c : Int) (up : Nat → Bool) : ∀ (t : Nat) (f : Nat → Int), thr c (steps up t f) = bsteps up t (thr c f)
  | 0, _ => rfl
  | t + 1, f => by rw [steps, bsteps, thr_steps c up t, thr_step]
theorem thr_stages (c : Int) : ∀ (s : Nat) (f : Nat → Int), thr c (stages s f) = bstages s (thr c f)
  | 0, _ => rfl
  | s + 1, f => by rw [stages, bstages, thr_steps, thr_stages c s]
def Bito (m o : Nat) (f : Nat → Bool) : Prop := ∃ (i j : Nat) (v : Bool), i ≤ j ∧ j ≤ m ∧ ∀ x, x < m → f (o + x) = (if i ≤ x ∧ x < j then !v else v)
def All (m o : Nat) (f : Nat → Bool) (v : Bool) : Prop := ∀ x, x < m → f (o + x) = v
def Rise (m o : Nat) (f : Nat → Bool) : Prop := ∀ x y, x ≤ y → y < m → f (o + x) = true → f (o + y) = true
def Fall (m o : Nat) (f : Nat → Bool) : Prop := ∀ x y, x ≤ y → y < m → f (o + y) = true → f (o + x) = true
theorem rise_cut {m o : Nat} {f : Nat → Bool} (h : Rise m o f) : ∃ i, i ≤ m ∧ ∀ x, x < m → f (o + x) = decide (i ≤ x) := by
  induction m with
  | zero => exact ⟨0, Nat.le_refl _, fun x hx => absurd hx (by omega)⟩
  | succ m ih =>
    obtain ⟨i, hi, hf⟩ := ih (fun x y hxy hy => h x y hxy (by omega))
    by_cases hm : f (o + m) = true
    · refine ⟨i, by omega, fun x hx => ?_⟩
      by_cases e : x = m
      · subst e
        rw [hm]
        exact (decide_eq_true (by omega)).symm
      · exact hf x (by omega)
    · refine ⟨m + 1, Nat.le_refl _, fun x hx => ?_⟩
      rw [decide_eq_false (by omega)]
      cases hv : f (o + x)
      · rfl
      · exact absurd (h x m (by omega) (by omega) hv) hm
theorem fall_cut {m o : Nat} {f : Nat → Bool} (h : Fall m o f) : ∃ j, j ≤ m ∧ ∀ x, x < m → f (o + x) = decide (x < j) := by
  induction m with
  | zero => exact ⟨0, Nat.le_refl _, fun x hx => absurd hx (by omega)⟩
  | succ m ih =>
    obtain ⟨j, hj, hf⟩ := ih (fun x y hxy hy => h x y hxy (by omega))
    by_cases hm : f (o + m) = true
    · refine ⟨m + 1, Nat.le_refl _, fun x hx => ?_⟩
      rw [decide_eq_true hx]
      exact h x m (by omega) (by omega) hm
    · refine ⟨j, by omega, fun x hx => ?_⟩
      by_cases e : x = m
      · subst e
        rw [decide_eq_false (by omega)]
        simpa using hm
      · exact hf x (by omega)
theorem bito_of {m o : Nat} {f : Nat → Bool} (h1 : Rise m o f) (h2 : Fall m (o + m) f) : Bito (2 * m) o f := by
  obtain ⟨i, hi, hf⟩ := rise_cut h1
  obtain ⟨j, hj, hg⟩ := fall_cut h2
  refine ⟨i, m + j, false, by omega, by omega, fun x hx => ?_⟩
  by_cases hm : x < m
  · rw [hf x hm]
    by_cases hix : i ≤ x
    · rw [if_pos ⟨hix, by omega⟩, decide_eq_true hix]; rfl
    · rw [if_neg (fun h => hix h.1), decide_eq_false hix]
  · have e : o + x = o + m + (x - m) := by omega
    rw [e, hg (x - m) (by omega)]
    by_cases hix : x - m < j
    · rw [if_pos ⟨by omega, by omega⟩, decide_eq_true hix]; rfl
    · rw [if_neg (by omega), decide_eq_false hix]
theorem half {h o : Nat} {f : Nat → Bool} (hb : Bito (2 * h) o f) :
    Bito h 0 (fun x => f (o + x) && f (o + x + h)) ∧ Bito h 0 (fun x => f (o + x) || f (o + x + h)) ∧ ((∀ x, x < h → (f (o + x) && f (o + x + h)) = false) ∨ ∀ x, x < h → (f (o + x) || f (o + x + h)) = true) := by
  obtain ⟨i, j, v, hij, hj, hf⟩ := hb
  have hx1 : ∀ x, x < h → f (o + x) = (if i ≤ x ∧ x < j then !v else v) := fun x hx => hf x (by omega)
  have hx2 : ∀ x, x < h → f (o + x + h) = (if i ≤ x + h ∧ x + h < j then !v else v) := fun x hx => by rw [Nat.add_assoc]; exact hf (x + h) (by omega)
  cases v
  · by_cases c1 : j ≤ h
    · refine ⟨⟨0, 0, false, by omega, by omega, fun x hx => ?_⟩, ⟨i, j, false, hij, c1, fun x hx => ?_⟩, .inl fun x hx => ?_⟩
      all_goals (try rw [Nat.zero_add]); simp only [hx1 x hx, hx2 x hx]
      · rw [if_neg (c := i ≤ x + h ∧ x + h < j) (by omega)]; simp
      · rw [if_neg (c := i ≤ x + h ∧ x + h < j) (by omega)]; simp
      · rw [if_neg (c := i ≤ x + h ∧ x + h < j) (by omega)]; simp
    by_cases c2 : h ≤ i
    · refine ⟨⟨0, 0, false, by omega, by omega, fun x hx => ?_⟩, ⟨i - h, j - h, false, by omega, by omega, fun x hx => ?_⟩, .inl fun x hx => ?_⟩
      all_goals (try rw [Nat.zero_add]); simp only [hx1 x hx, hx2 x hx]
      · rw [if_neg (c := i ≤ x ∧ x < j) (by omega)]; simp
      · rw [if_neg (c := i ≤ x ∧ x < j) (by omega)]
        by_cases c : i ≤ x + h ∧ x + h < j
        · rw [if_pos c, if_pos (by omega)]; rfl
        · rw [if_neg c, if_neg (by omega)]; rfl
      · rw [if_neg (c := i ≤ x ∧ x < j) (by omega)]; simp
    by_cases c3 : j - h ≤ i
    · refine ⟨⟨0, 0, false, by omega, by omega, fun x hx => ?_⟩, ⟨j - h, i, true, c3, by omega, fun x hx => ?_⟩, .inl fun x hx => ?_⟩
      all_goals (try rw [Nat.zero_add]); simp only [hx1 x hx, hx2 x hx]
      · by_cases c : i ≤ x
        · rw [if_neg (c := i ≤ x + h ∧ x + h < j) (by omega)]; simp
        · rw [if_neg (c := i ≤ x ∧ x < j) (by omega)]; simp
      · by_cases c : j - h ≤ x ∧ x < i
        · rw [if_neg (by omega), if_neg (by omega), if_pos c]; rfl
        · rw [if_neg c]
          by_cases c' : i ≤ x
          · rw [if_pos (by omega)]; rfl
          · rw [if_pos (c := i ≤ x + h ∧ x + h < j) (by omega)]; simp
      · by_cases c : i ≤ x
        · rw [if_neg (c := i ≤ x + h ∧ x + h < j) (by omega)]; simp
        · rw [if_neg (c := i ≤ x ∧ x < j) (by omega)]; simp
    · refine ⟨⟨i, j - h, false, by omega, by omega, fun x hx => ?_⟩, ⟨0, 0, true, by omega, by omega, fun x hx => ?_⟩, .inr fun x hx => ?_⟩
      all_goals (try rw [Nat.zero_add]); simp only [hx1 x hx, hx2 x hx]
      · by_cases c : i ≤ x ∧ x < j - h
        · rw [if_pos c, if_pos (by omega), if_pos (by omega)]; rfl
        · rw [if_neg c]
          by_cases c' : i ≤ x
          · rw [if_neg (c := i ≤ x + h ∧ x + h < j) (by omega)]; simp
          · rw [if_neg (c := i ≤ x ∧ x < j) (by omega)]; simp
      · rw [if_neg (c := 0 ≤ x ∧ x < 0) (by omega)]
        by_cases c' : i ≤ x
        · rw [if_pos (by omega)]; rfl
        · rw [if_pos (c := i ≤ x + h ∧ x + h < j) (by omega)]; simp
      · by_cases c' : i ≤ x
        · rw [if_pos (by omega)]; rfl
        · rw [if_pos (c := i ≤ x + h ∧ x + h < j) (by omega)]; simp
  · by_cases c1 : j ≤ h
    · refine ⟨⟨i, j, true, hij, c1, fun x hx => ?_⟩, ⟨0, 0, true, by omega, by omega, fun x hx => ?_⟩, .inr fun x hx => ?_⟩
      all_goals (try rw [Nat.zero_add]); simp only [hx1 x hx, hx2 x hx]
      · rw [if_neg (c := i ≤ x + h ∧ x + h < j) (by omega)]; simp
      · rw [if_neg (c := i ≤ x + h ∧ x + h < j) (by omega)]; simp
      · rw [if_neg (c := i ≤ x + h ∧ x + h < j) (by omega)]; simp
    by_cases c2 : h ≤ i
    · refine ⟨⟨i - h, j - h, true, by omega, by omega, fun x hx => ?_⟩, ⟨0, 0, true, by omega, by omega, fun x hx => ?_⟩, .inr fun x hx => ?_⟩
      all_goals (try rw [Nat.zero_add]); simp only [hx1 x hx, hx2 x hx]
      · rw [if_neg (c := i ≤ x ∧ x < j) (by omega)]
        by_cases c : i ≤ x + h ∧ x + h < j
        · rw [if_pos c, if_pos (by omega)]; rfl
        · rw [if_neg c, if_neg (by omega)]; rfl
      · rw [if_neg (c := i ≤ x ∧ x < j) (by omega)]; simp
      · rw [if_neg (c := i ≤ x ∧ x < j) (by omega)]; simp
    by_cases c3 : j - h ≤ i
    · refine ⟨⟨j - h, i, false, c3, by omega, fun x hx => ?_⟩, ⟨0, 0, true, by omega, by omega, fun x hx => ?_⟩, .inr fun x hx => ?_⟩
      all_goals (try rw [Nat.zero_add]); simp only [hx1 x hx, hx2 x hx]
      · by_cases c : j - h ≤ x ∧ x < i
        · rw [if_neg (by omega), if_neg (by omega), if_pos c]; rfl
        · rw [if_neg c]
          by_cases c' : i ≤ x
          · rw [if_pos (by omega)]; rfl
          · rw [if_pos (c := i ≤ x + h ∧ x + h < j) (by omega)]; simp
      · by_cases c : i ≤ x
        · rw [if_neg (c := i ≤ x + h ∧ x + h < j) (by omega)]; simp
        · rw [if_neg (c := i ≤ x ∧ x < j) (by omega)]; simp
      · by_cases c : i ≤ x
        · rw [if_neg (c := i ≤ x + h ∧ x + h < j) (by omega)]; simp
        · rw [if_neg (c := i ≤ x ∧ x < j) (by omega)]; simp
    · refine ⟨⟨0, 0, false, by omega, by omega, fun x hx => ?_⟩, ⟨i, j - h, true, by omega, by omega, fun x hx => ?_⟩, .inl fun x hx => ?_⟩
      all_goals (try rw [Nat.zero_add]); simp only [hx1 x hx, hx2 x hx]
      · rw [if_neg (c := 0 ≤ x ∧ x < 0) (by omega)]
        by_cases c' : i ≤ x
        · rw [if_pos (by omega)]; rfl
        · rw [if_pos (c := i ≤ x + h ∧ x + h < j) (by omega)]; simp
      · by_cases c : i ≤ x ∧ x < j - h
        · rw [if_pos c, if_pos (by omega), if_pos (by omega)]; rfl
        · rw [if_neg c]
          by_cases c' : i ≤ x
          · rw [if_neg (c := i ≤ x + h ∧ x + h < j) (by omega)]; simp
          · rw [if_neg (c := i ≤ x ∧ x < j) (by omega)]; simp
      · by_cases c' : i ≤ x
        · rw [if_pos (by omega)]; rfl
        · rw [if_pos (c := i ≤ x + h ∧ x + h < j) (by omega)]; simp
theorem low_bit {h q x : Nat} (hx : x < h) : (h * (2 * q) + x) / h % 2 = 0 := by
  rw [Nat.mul_add_div (by omega), Nat.div_eq_of_lt hx]; omega
theorem high_bit {h q x : Nat} (hx : x < h) : (h * (2 * q) + x + h) / h % 2 = 1 := by
  rw [show h * (2 * q) + x + h = h * (2 * q + 1) + x by rw [Nat.mul_add]; omega, Nat.mul_add_div (by omega), Nat.div_eq_of_lt hx]; omega
theorem bstep_low {h q x : Nat} {up : Nat → Bool} {f : Nat → Bool} (hx : x < h) : bstep h up f (h * (2 * q) + x) = if up (h * (2 * q) + x) then f (h * (2 * q) + x) && f (h * (2 * q) + x + h) else f (h * (2 * q) + x) || f (h * (2 * q) + x + h) := by
  rw [bstep, if_pos (low_bit hx)]
theorem bstep_high {h q x : Nat} {up : Nat → Bool} {f : Nat → Bool} (hx : x < h) : bstep h up f (h * (2 * q) + x + h) = if up (h * (2 * q) + x) then f (h * (2 * q) + x) || f (h * (2 * q) + x + h) else f (h * (2 * q) + x) && f (h * (2 * q) + x + h) := by
  rw [bstep, if_neg (by rw [high_bit hx]; omega), Nat.add_sub_cancel]
theorem pow2 (t : Nat) : 2 ^ (t + 1) = 2 * 2 ^ t := by rw [Nat.pow_succ, Nat.mul_comm]
theorem block0 (t q : Nat) : 2 ^ (t + 1) * q = 2 ^ t * (2 * q) := by rw [pow2, Nat.mul_comm 2, Nat.mul_assoc]
theorem block1 (t q : Nat) : 2 ^ (t + 1) * q + 2 ^ t = 2 ^ t * (2 * q + 1) := by rw [block0, Nat.mul_add, Nat.mul_one]
theorem all_steps (up : Nat → Bool) (v : Bool) : ∀ (t q : Nat) (f : Nat → Bool), All (2 ^ t) (2 ^ t * q) f v → All (2 ^ t) (2 ^ t * q) (bsteps up t f) v
  | 0, _, _, h => h
  | t + 1, q, f, h => by
    have h0 : All (2 ^ t) (2 ^ t * (2 * q)) (bstep (2 ^ t) up f) v := fun x hx => by
      have e1 := h x (by rw [pow2]; omega)
      have e2 := h (x + 2 ^ t) (by rw [pow2]; omega)
      rw [block0] at e1
      rw [block0, ← Nat.add_assoc] at e2
      rw [bstep_low hx, e1, e2]
      split <;> simp
    have h1 : All (2 ^ t) (2 ^ t * (2 * q + 1)) (bstep (2 ^ t) up f) v := fun x hx => by
      have e1 := h x (by rw [pow2]; omega)
      have e2 := h (x + 2 ^ t) (by rw [pow2]; omega)
      rw [block0] at e1
      rw [block0, ← Nat.add_assoc] at e2
      rw [show 2 ^ t * (2 * q + 1) + x = 2 ^ t * (2 * q) + x + 2 ^ t by rw [Nat.mul_add]; omega, bstep_high hx, e1, e2]
      split <;> simp
    have i0 := all_steps up v t _ _ h0
    have i1 := all_steps up v t _ _ h1
    intro x hx
    rw [bsteps]
    by_cases c : x < 2 ^ t
    · rw [block0]; exact i0 x c
    · rw [show 2 ^ (t + 1) * q + x = 2 ^ t * (2 * q + 1) + (x - 2 ^ t) by rw [← block1]; omega]
      exact i1 _ (by rw [pow2] at hx; omega)
theorem rise_join {m o : Nat} {f : Nat → Bool} (h1 : Rise m o f) (h2 : Rise m (o + m) f) (h : All m o f false ∨ All m (o + m) f true) : Rise (2 * m) o f := fun x y hxy hy hf => by
  by_cases cy : y < m
  · exact h1 x y hxy cy hf
  rcases h with h | h
  · by_cases cx : x < m
    · rw [h x cx] at hf; exact absurd hf (by simp)
    · have := h2 (x - m) (y - m) (by omega) (by omega) (by rw [show o + m + (x - m) = o + x by omega]; exact hf)
      rw [show o + m + (y - m) = o + y by omega] at this
      exact this
  · have := h (y - m) (by omega)
    rw [show o + m + (y - m) = o + y by omega] at this
    exact this
theorem fall_join {m o : Nat} {f : Nat → Bool} (h1 : Fall m o f) (h2 : Fall m (o + m) f) (h : All m o f true ∨ All m (o + m) f false) : Fall (2 * m) o f := fun x y hxy hy hf => by
  by_cases cy : y < m
  · exact h1 x y hxy cy hf
  rcases h with h | h
  · by_cases cx : x < m
    · exact h x cx
    · have := h2 (x - m) (y - m) (by omega) (by omega) (by rw [show o + m + (y - m) = o + y by omega]; exact hf)
      rw [show o + m + (x - m) = o + x by omega] at this
      exact this
  · have := h (y - m) (by omega)
    rw [show o + m + (y - m) = o + y by omega, hf] at this
    exact absurd this (by simp)
theorem bito_eq {m o o' : Nat} {f g : Nat → Bool} (h : Bito m o f) (e : ∀ x, x < m → g (o' + x) = f (o + x)) : Bito m o' g := by
  obtain ⟨i, j, v, h1, h2, hf⟩ := h
  exact ⟨i, j, v, h1, h2, fun x hx => (e x hx).trans (hf x hx)⟩
theorem sorts (up : Nat → Bool) : ∀ (t q : Nat) (f : Nat → Bool) (u : Bool), (∀ x, x < 2 ^ t → up (2 ^ t * q + x) = u) → Bito (2 ^ t) (2 ^ t * q) f → (u = true → Rise (2 ^ t) (2 ^ t * q) (bsteps up t f)) ∧ (u = false → Fall (2 ^ t) (2 ^ t * q) (bsteps up t f))
  | 0, q, f, u, _, _ => by
    refine ⟨fun _ x y hxy hy h => ?_, fun _ x y hxy hy h => ?_⟩
    · have : x = y := by simp at hy; omega
      rw [← this]; exact h
    · have : x = y := by simp at hy; omega
      rw [this]; exact h
  | t + 1, q, f, u, hu, hb => by
    rw [pow2, ← pow2 t, block0, pow2] at hb
    obtain ⟨ba, bo, hc⟩ := half hb
    have hu0 : ∀ x, x < 2 ^ t → up (2 ^ t * (2 * q) + x) = u := fun x hx => by rw [← block0]; exact hu x (by rw [pow2]; omega)
    have hu1 : ∀ x, x < 2 ^ t → up (2 ^ t * (2 * q + 1) + x) = u := fun x hx => by rw [← block1, Nat.add_assoc]; exact hu _ (by rw [pow2]; omega)
    have eh : ∀ x, 2 ^ t * (2 * q + 1) + x = 2 ^ t * (2 * q) + x + 2 ^ t := fun x => by rw [Nat.mul_add]; omega
    have eb : 2 ^ t * (2 * q) + 2 ^ t = 2 ^ t * (2 * q + 1) := by rw [Nat.mul_add, Nat.mul_one]
    rw [bsteps, pow2, ← pow2 t, block0, pow2]
    cases u
    · have l : ∀ x, x < 2 ^ t → bstep (2 ^ t) up f (2 ^ t * (2 * q) + x) = (f (2 ^ t * (2 * q) + x) || f (2 ^ t * (2 * q) + x + 2 ^ t)) := fun x hx => by rw [bstep_low hx, hu0 x hx]; rfl
      have h : ∀ x, x < 2 ^ t → bstep (2 ^ t) up f (2 ^ t * (2 * q + 1) + x) = (f (2 ^ t * (2 * q) + x) && f (2 ^ t * (2 * q) + x + 2 ^ t)) := fun x hx => by rw [eh, bstep_high hx, hu0 x hx]; rfl
      refine ⟨fun h => by simp at h, fun _ => ?_⟩
      have s0 := (sorts up t (2 * q) _ false hu0 (bito_eq bo (fun x hx => by rw [Nat.zero_add]; exact l x hx))).2 rfl
      have s1 := (sorts up t (2 * q + 1) _ false hu1 (bito_eq ba (fun x hx => by rw [Nat.zero_add]; exact h x hx))).2 rfl
      refine fall_join s0 (by rw [eb]; exact s1) ?_
      rw [eb]
      rcases hc with hc | hc
      · exact .inr (all_steps up false t _ _ (fun x hx => (h x hx).trans (hc x hx)))
      · exact .inl (all_steps up true t _ _ (fun x hx => (l x hx).trans (hc x hx)))
    · have l : ∀ x, x < 2 ^ t → bstep (2 ^ t) up f (2 ^ t * (2 * q) + x) = (f (2 ^ t * (2 * q) + x) && f (2 ^ t * (2 * q) + x + 2 ^ t)) := fun x hx => by rw [bstep_low hx, hu0 x hx]; rfl
      have h : ∀ x, x < 2 ^ t → bstep (2 ^ t) up f (2 ^ t * (2 * q + 1) + x) = (f (2 ^ t * (2 * q) + x) || f (2 ^ t * (2 * q) + x + 2 ^ t)) := fun x hx => by rw [eh, bstep_high hx, hu0 x hx]; rfl
      refine ⟨fun _ => ?_, fun h => by simp at h⟩
      have s0 := (sorts up t (2 * q) _ true hu0 (bito_eq ba (fun x hx => by rw [Nat.zero_add]; exact l x hx))).1 rfl
      have s1 := (sorts up t (2 * q + 1) _ true hu1 (bito_eq bo (fun x hx => by rw [Nat.zero_add]; exact h x hx))).1 rfl
      refine rise_join s0 (by rw [eb]; exact s1) ?_
      rw [eb]
      rcases hc with hc | hc
      · exact .inl (all_steps up false t _ _ (fun x hx => (l x hx).trans (hc x hx)))
      · exact .inr (all_steps up true t _ _ (fun x hx => (h x hx).trans (hc x hx)))
theorem ups_at {s q x : Nat} (hx : x < 2 ^ s) : ups s (2 ^ s * q + x) = decide (q % 2 = 0) := by
  rw [ups, Nat.mul_add_div (Nat.two_pow_pos s), Nat.div_eq_of_lt hx, Nat.add_zero]
theorem behind : ∀ (s : Nat) (f : Nat → Bool) (q : Nat), (q % 2 = 0 → Rise (2 ^ s) (2 ^ s * q) (bstages s f)) ∧ (q % 2 = 1 → Fall (2 ^ s) (2 ^ s * q) (bstages s f))
  | 0, f, q => by
    refine ⟨fun _ x y hxy hy h => ?_, fun _ x y hxy hy h => ?_⟩
    · have : x = y := by simp at hy; omega
      rw [← this]; exact h
    · have : x = y := by simp at hy; omega
      rw [this]; exact h
  | s + 1, f, q => by
    have r := (behind s f (2 * q)).1 (by omega)
    have d := (behind s f (2 * q + 1)).2 (by omega)
    have b : Bito (2 ^ (s + 1)) (2 ^ (s + 1) * q) (bstages s f) := by
      rw [block0, pow2]
      exact bito_of r (by rw [show 2 ^ s * (2 * q) + 2 ^ s = 2 ^ s * (2 * q + 1) by rw [Nat.mul_add, Nat.mul_one]]; exact d)
    have h := sorts (ups (s + 1)) (s + 1) q (bstages s f) (decide (q % 2 = 0)) (fun x hx => ups_at hx) b
    exact ⟨fun e => h.1 (decide_eq_true e), fun e => h.2 (decide_eq_false (by omega))⟩
theorem stages_rise (s : Nat) (f : Nat → Int) {x y : Nat} (hxy : x ≤ y) (hy : y < 2 ^ s) : stages s f x ≤ stages s f y := by
  rcases Int.lt_or_le (stages s f y) (stages s f x) with h | h
  · exfalso
    have r := (behind s (thr (stages s f y) f) 0).1 rfl x y hxy hy
    rw [← thr_stages] at r
    simp only [Nat.mul_zero, Nat.zero_add, thr, decide_eq_true_eq] at r
    have := r h
    omega
  · exact h
def firsts (d k : Nat) : List Nat := (List.range k).filter (fun a => decide (a / d % 2 = 0))
theorem firsts_succ (d k : Nat) : firsts d (k + 1) = firsts d k ++ (if k / d % 2 = 0 then [k] else []) := by
  unfold firsts
  rw [List.range_succ, List.filter_append]
  congr 1
  by_cases h : k / d % 2 = 0
  · rw [if_pos h]; simp [h]
  · rw [if_neg h]; simp [h]
def sw (d : Nat) (up : Nat → Bool) (l : List Int) (a : Nat) : List Int :=
  if decide (l.getD a 0 > l.getD (a + d) 0) = up a ∧ l.getD a 0 ≠ l.getD (a + d) 0 then (l.set a (l.getD (a + d) 0)).set (a + d) (l.getD a 0) else l
theorem sw_length (d : Nat) (up : Nat → Bool) (l : List Int) (a : Nat) : (sw d up l a).length = l.length := by
  unfold sw
  split <;> simp
def lead (d x : Nat) : Nat := if x / d % 2 = 0 then x else x - d
theorem lead_le (d x : Nat) : lead d x ≤ x := by unfold lead; split <;> omega
theorem high_of {d x : Nat} (hd : 0 < d) (h : ¬ x / d % 2 = 0) : d ≤ x ∧ (x - d) / d % 2 = 0 ∧ (x - d) / d = x / d - 1 := by
  have h1 : d ≤ x := by
    rcases Nat.lt_or_ge x d with c | c
    · rw [Nat.div_eq_of_lt c] at h; omega
    · exact c
  have h2 : (x - d) / d = x / d - 1 := by
    have := Nat.add_div_right (x - d) hd
    rw [Nat.sub_add_cancel h1] at this
    generalize x / d = u at *
    generalize (x - d) / d = v at *
    omega
  exact ⟨h1, by omega, h2⟩
theorem lead_bit {d : Nat} (hd : 0 < d) (x : Nat) : lead d x / d % 2 = 0 := by
  unfold lead
  split
  · assumption
  · rename_i h; exact (high_of hd h).2.1
theorem bit_high {d k : Nat} (hd : 0 < d) (h : k / d % 2 = 0) : (k + d) / d % 2 = 1 := by
  rw [Nat.add_div_right k hd]; omega
theorem lead_of_high {d k : Nat} (hd : 0 < d) (h : k / d % 2 = 0) : lead d (k + d) = k := by
  unfold lead
  rw [if_neg (by rw [bit_high hd h]; omega)]
  omega
theorem lead_eq {d k x : Nat} (hd : 0 < d) (h : lead d x = k) : x = k ∨ x = k + d := by
  unfold lead at h
  split at h
  · exact .inl h
  · rename_i c; have := (high_of hd c).1; exact .inr (by omega)
theorem sw_get {d a n : Nat} (up : Nat → Bool) {l : List Int} (hd : 0 < d) (hl : l.length = n) (ha : a + d < n) (x : Nat) :
    (sw d up l a).getD x 0 = if x = a then (if up a then min (l.getD a 0) (l.getD (a + d) 0) else max (l.getD a 0) (l.getD (a + d) 0)) else if x = a + d then (if up a then max (l.getD a 0) (l.getD (a + d) 0) else min (l.getD a 0) (l.getD (a + d) 0)) else l.getD x 0 := by
  have g : ∀ (m : List Int) (i j : Nat) (v : Int), i < m.length → (m.set i v).getD j 0 = if j = i then v else m.getD j 0 := fun m i j v hi => by
    rw [List.getD_eq_getElem?_getD, List.getD_eq_getElem?_getD, List.getElem?_set]
    by_cases e : j = i
    · subst e; simp [hi]
    · rw [if_neg e, if_neg (fun h => e h.symm)]
  unfold sw
  by_cases c : decide (l.getD a 0 > l.getD (a + d) 0) = up a ∧ l.getD a 0 ≠ l.getD (a + d) 0
  · rw [if_pos c, g _ _ _ _ (by rw [List.length_set]; omega), g _ _ _ _ (by omega)]
    obtain ⟨c1, c2⟩ := c
    by_cases e1 : x = a
    · rw [if_pos e1, if_neg (by omega), if_pos e1]
      cases hu : up a
      · rw [hu, decide_eq_false_iff_not] at c1; simp only [Bool.false_eq_true, if_false]; omega
      · rw [hu, decide_eq_true_eq] at c1; simp only [if_true]; omega
    · rw [if_neg e1, if_neg e1]
      by_cases e2 : x = a + d
      · rw [if_pos e2, if_pos e2]
        cases hu : up a
        · rw [hu, decide_eq_false_iff_not] at c1; simp only [Bool.false_eq_true, if_false]; omega
        · rw [hu, decide_eq_true_eq] at c1; simp only [if_true]; omega
      · rw [if_neg e2, if_neg e2]
  · rw [if_neg c]
    have c' : l.getD a 0 = l.getD (a + d) 0 ∨ ¬ decide (l.getD a 0 > l.getD (a + d) 0) = up a := by
      by_cases e : l.getD a 0 = l.getD (a + d) 0
      · exact .inl e
      · exact .inr fun h => c ⟨h, e⟩
    by_cases e1 : x = a
    · rw [if_pos e1, e1]
      cases hu : up a
      · rw [hu, decide_eq_false_iff_not] at c'; simp only [Bool.false_eq_true, if_false]; omega
      · rw [hu, decide_eq_true_eq] at c'; simp only [if_true]; omega
    · rw [if_neg e1]
      by_cases e2 : x = a + d
      · rw [if_pos e2, e2]
        cases hu : up a
        · rw [hu, decide_eq_false_iff_not] at c'; simp only [Bool.false_eq_true, if_false]; omega
        · rw [hu, decide_eq_true_eq] at c'; simp only [if_true]; omega
      · rw [if_neg e2]
theorem round_to {d n : Nat} (up : Nat → Bool) (hd : 0 < d) {l : List Int} (hl : l.length = n) (hn : ∀ a, a < n → a / d % 2 = 0 → a + d < n) :
    ∀ k, k ≤ n → ((firsts d k).foldl (sw d up) l).length = n ∧ ∀ x, ((firsts d k).foldl (sw d up) l).getD x 0 = if lead d x < k then step d up (fun i => l.getD i 0) x else l.getD x 0
  | 0, _ => ⟨hl, fun x => by rw [if_neg (by omega)]; rfl⟩
  | k + 1, hk => by
    obtain ⟨h1, h2⟩ := round_to up hd hl hn k (by omega)
    rw [firsts_succ, List.foldl_append]
    by_cases hb : k / d % 2 = 0
    · rw [if_pos hb]
      show (sw d up _ k).length = n ∧ ∀ x, (sw d up _ k).getD x 0 = _
      refine ⟨by rw [sw_length, h1], fun x => ?_⟩
      have ek : lead d k = k := by unfold lead; rw [if_pos hb]
      have eh := lead_of_high hd hb
      rw [sw_get up hd h1 (hn k (by omega) hb), h2 k, h2 (k + d), h2 x, ek, eh, if_neg (Nat.lt_irrefl k), if_neg (Nat.lt_irrefl k)]
      by_cases e1 : x = k
      · subst e1
        rw [if_pos rfl, ek, if_pos (Nat.lt_add_one x), step, if_pos hb]
      · rw [if_neg e1]
        by_cases e2 : x = k + d
        · subst e2
          rw [if_pos rfl, eh, if_pos (Nat.lt_add_one k), step, if_neg (show ¬ (k + d) / d % 2 = 0 by rw [bit_high hd hb]; omega), Nat.add_sub_cancel]
        · rw [if_neg e2]
          have : lead d x ≠ k := fun h => (lead_eq hd h).elim e1 e2
          by_cases c : lead d x < k
          · rw [if_pos c, if_pos (by omega)]
          · rw [if_neg c, if_neg (by omega)]
    · rw [if_neg hb, List.foldl_nil]
      refine ⟨h1, fun x => ?_⟩
      rw [h2 x]
      have : lead d x ≠ k := fun h => hb (by rw [← h]; exact lead_bit hd x)
      by_cases c : lead d x < k
      · rw [if_pos c, if_pos (by omega)]
      · rw [if_neg c, if_neg (by omega)]
theorem round_is {d n : Nat} (up : Nat → Bool) (hd : 0 < d) {l : List Int} (hl : l.length = n) (hn : ∀ a, a < n → a / d % 2 = 0 → a + d < n) :
    ((firsts d n).foldl (sw d up) l).length = n ∧ ∀ x, x < n → ((firsts d n).foldl (sw d up) l).getD x 0 = step d up (fun i => l.getD i 0) x := by
  obtain ⟨h1, h2⟩ := round_to up hd hl hn n (Nat.le_refl _)
  exact ⟨h1, fun x hx => by rw [h2, if_pos (Nat.lt_of_le_of_lt (lead_le d x) hx)]⟩
end Go.Proofs.YtlinmcgmkpkpaaaDoor.Net
