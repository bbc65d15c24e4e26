/-
  What the frame of a proof says of a program, a pair, a list of truths that came in.
  What the frame of a proof says of a list of pairs, of public numbers that came in.
  What the frame of a proof says of an array of numbers that came in by value.
  More steps of a region: a struct allocated, a list of structs built: no program here.
  One struct stored into a list whose block is known whole: no program here.
  Jobs (a struct of structs, of numbers and of lists) in memory and as they come in; a struct within a struct, read and stored.
  Which of two records stands ahead; the document's own sort, and neighbours that change places in rounds, as plain functions: they are the same.
-/
import Derived.Test.YtlinmcgmkpkpaaaDoorB5
import Derived.Test.YtlinmcgmkpkpaaaDoorB3
import Derived.WideShapes
import Derived.ChangeArms
import Derived.Test.YtlinmcgmkpkpaaaDoorB6
import Derived.Test.YtlinmcgmkpkpaaaDoorB1
import Derived.Test.YtlinmcgmkpkpaaaDoorB2
set_option linter.unusedVariables false
namespace Go.Proofs.YtlinmcgmkpkpaaaDoor.Vm
open Go.RowKit Go.ChangeShapes Go.WideShapes Mem Rc Sl
def kB : St Bool := ⟨1, fun b => [.bool b], fun _ => True, false, fun _ => rfl, fun _ u hu => by rw [List.mem_singleton.1 hu]; rfl, by omega⟩
section
variable {H : Type} {enc : TypeId × Value → H} {w : World} {base : Nat} {held : Bool}
theorem cells_some {a : Addr} {cs : List Value} {n : Nat} (h : w.cells? base a n = some cs) : cs.length = n ∧ ∀ j, j < n → w.cell? (a.add j) = cs[j]? := by
  obtain ⟨h1, h2, h3⟩ := World.cells?_some h
  exact ⟨h2, h3⟩
theorem open_lst {α : Type} {k : St α} {t e : TypeId} (ht : Tryd.prog.underlying t = some (.slice e)) (hc : Tryd.prog.cellsOf e = k.s)
    (one : ∀ (n : Nat) (cs : List Value) (x : DataW H × List MemPlace), DataW.trod enc Tryd.prog w base (fun _ => true) held n e cs = some x → ∃ r : α, cs = k.cells r ∧ k.wf r)
    {fuel : Nat} {cs : List Value} {x : DataW H × List MemPlace} (hf : DataW.trod enc Tryd.prog w base (fun _ => true) held fuel t cs = some x) :
    ∃ (A : Option Addr) (m c : Nat) (xs : List α), cs = [.slice A m c] ∧ Lst k w w.heap.size A m xs ∧ m ≤ c ∧ c ≤ maxLen := by
  rcases DataW.trod_slice ht hf with ⟨hcs, _⟩ | ⟨a, len, cap, elems, rest, n, _, hcs, _, hb, hl, hm, hlen, hel, _, _⟩
  · exact ⟨none, 0, 0, [], hcs, Lst.nil _ _ _ _, Nat.le_refl _, by simp [maxLen]⟩
  · have each : ∀ i, i < len → ∃ r : α, k.wf r ∧ ∀ j, j < k.s → w.cell? ((a.add (i * k.s)).add j) = (k.cells r)[j]? := fun i hi => by
      have hi' : i < elems.length := by rw [hlen]; exact hi
      have e := hel i hi
      rw [hc, List.getElem?_eq_getElem hi', Option.bind_eq_some_iff] at e
      obtain ⟨cs, hc, ht⟩ := e
      obtain ⟨r, rfl, hw⟩ := one _ _ _ ht
      exact ⟨r, hw, (cells_some hc).2⟩
    have hch : ∃ F : Nat → α, ∀ i, i < len → k.wf (F i) ∧ ∀ j, j < k.s → w.cell? ((a.add (i * k.s)).add j) = (k.cells (F i))[j]? :=
      ⟨fun i => if h : i < len then Classical.choose (each i h) else k.d, fun i hi => by
        have := Classical.choose_spec (each i hi)
        simp only [hi, dif_pos]
        exact this⟩
    obtain ⟨F, hF⟩ := hch
    refine ⟨some a, len, cap, (List.range len).map F, hcs, ⟨by simp, fun r hr => ?_, fun h0 => ?_⟩, hl, hm⟩
    · obtain ⟨i, hi, rfl⟩ := List.mem_map.1 hr
      exact (hF i (List.mem_range.1 hi)).1
    · have h00 := (hF 0 h0).2 0 k.pos
      have hk0 : 0 < (k.cells (F 0)).length := by rw [k.len]; exact k.pos
      rw [List.getElem?_eq_getElem hk0, Nat.zero_mul] at h00
      obtain ⟨u0, h00⟩ : ∃ u, w.cell? a = some u := ⟨_, by simpa [Addr.add] using h00⟩
      obtain ⟨b, off, spot⟩ := a
      have hspot : spot = none := by simpa [Addr.add] using World.cell?_spot h00
      subst hspot
      have hlt : b < w.heap.size := by simpa [Addr.add] using World.block_lt_of_cell? w _ h00
      have ea : ∀ o j : Nat, (Addr.mk b o none).add j = ⟨b, o + j, none⟩ := fun o j => by unfold Addr.add; split <;> simp_all
      refine ⟨b, off, rfl, hlt, fun q v hv => ?_⟩
      have hq := (List.getElem?_eq_some_iff.1 hv).1
      rw [flat_length] at hq
      simp only [List.length_map, List.length_range] at hq
      have hq1 : q / k.s < len := Nat.div_lt_of_lt_mul (by rw [Nat.mul_comm]; exact hq)
      have hq2 := Nat.mod_lt q k.pos
      have hq3 : q / k.s * k.s + q % k.s = q := by rw [Nat.mul_comm]; exact Nat.div_add_mod q k.s
      have hv' := hv
      have h4 := flat_at (k := k) ((List.range len).map F) (q / k.s) (q % k.s) hq2 (by simpa using hq1)
      rw [hq3] at h4
      rw [h4] at hv'
      have hg : ((List.range len).map F).getD (q / k.s) k.d = F (q / k.s) := by
        rw [List.getD_eq_getElem?_getD, List.getElem?_map, List.getElem?_range hq1]
        rfl
      rw [hg, ← (hF (q / k.s) hq1).2 (q % k.s) hq2, ea, ea, Nat.add_assoc, hq3] at hv'
      exact hv'
theorem op_fields : ∃ f0 f1 f2 f3 f4 f5 : Field, Tryd.prog.underlying 58 = some (.struct #[f0, f1, f2, f3, f4, f5]) ∧ (f0.offset = 0 ∧ f0.type = 3) ∧ (f1.offset = 1 ∧ f1.type = 3) ∧ (f2.offset = 2 ∧ f2.type = 3) ∧ (f3.offset = 3 ∧ f3.type = 3) ∧ (f4.offset = 4 ∧ f4.type = 3) ∧ (f5.offset = 5 ∧ f5.type = 2) :=
  ⟨_, _, _, _, _, _, Tryd.underlying58, ⟨rfl, rfl⟩, ⟨rfl, rfl⟩, ⟨rfl, rfl⟩, ⟨rfl, rfl⟩, ⟨rfl, rfl⟩, ⟨rfl, rfl⟩⟩
theorem open_op (n : Nat) (cs : List Value) (x : DataW H × List MemPlace) (h : DataW.trod enc Tryd.prog w base (fun _ => true) held n 58 cs = some x) : ∃ o : O, cs = kO.cells o ∧ kO.wf o := by
  obtain ⟨f0, f1, f2, f3, f4, f5, hu, ⟨o0, t0⟩, ⟨o1, t1⟩, ⟨o2, t2⟩, ⟨o3, t3⟩, ⟨o4, t4⟩, ⟨o5, t5⟩⟩ := op_fields
  obtain ⟨xs, m, _, _, hl, hxl, hel⟩ := DataW.trod_struct hu h
  have ci : Tryd.prog.cellsOf 3 = 1 := by kernel_rfl
  have c6 : Tryd.prog.cellsOf 2 = 1 := by kernel_rfl
  have cc : Tryd.prog.cellsOf 58 = 6 := by kernel_rfl
  rw [cc] at hl
  have hx6 : xs.length = 6 := hxl
  have e0 := hel 0 f0 rfl
  have e1 := hel 1 f1 rfl
  have e2 := hel 2 f2 rfl
  have e3 := hel 3 f3 rfl
  have e4 := hel 4 f4 rfl
  have e5 := hel 5 f5 rfl
  rw [o0, t0, ci] at e0
  rw [o1, t1, ci] at e1
  rw [o2, t2, ci] at e2
  rw [o3, t3, ci] at e3
  rw [o4, t4, ci] at e4
  rw [o5, t5, c6] at e5
  obtain ⟨z0, q0, w0⟩ := field_int (by omega) Tryd.underlying3 e0 (by simp [hx6])
  obtain ⟨z1, q1, w1⟩ := field_int (by omega) Tryd.underlying3 e1 (by simp [hx6])
  obtain ⟨z2, q2, w2⟩ := field_int (by omega) Tryd.underlying3 e2 (by simp [hx6])
  obtain ⟨z3, q3, w3⟩ := field_int (by omega) Tryd.underlying3 e3 (by simp [hx6])
  obtain ⟨z4, q4, w4⟩ := field_int (by omega) Tryd.underlying3 e4 (by simp [hx6])
  obtain ⟨z5, q5, w5⟩ := field_int (by omega) Tryd.underlying2 e5 (by simp [hx6])
  refine ⟨⟨z0, z1, z2, z3, z4, z5⟩, ?_, w0, w1, w2, w3, w4, w5⟩
  apply List.ext_getElem?
  intro i
  match i with
  | 0 => exact q0
  | 1 => exact q1
  | 2 => exact q2
  | 3 => exact q3
  | 4 => exact q4
  | 5 => exact q5
  | i + 6 => rw [List.getElem?_eq_none (by omega), List.getElem?_eq_none (by simp [kO, O.cells])]
theorem prog_fields : ∃ f0 f1 f2 f3 : Field, Tryd.prog.underlying 26 = some (.struct #[f0, f1, f2, f3]) ∧ (f0.offset = 0 ∧ f0.type = 3) ∧ (f1.offset = 1 ∧ f1.type = 24) ∧ (f2.offset = 2 ∧ f2.type = 24) ∧ (f3.offset = 3 ∧ f3.type = 24) :=
  ⟨_, _, _, _, Tryd.underlying26, ⟨rfl, rfl⟩, ⟨rfl, rfl⟩, ⟨rfl, rfl⟩, ⟨rfl, rfl⟩⟩
theorem field_ops {cs : List Value} {j n : Nat} {x : Option (DataW H × List MemPlace)} (hj : j < cs.length) (h : DataW.trod enc Tryd.prog w base (fun _ => true) held n 24 ((cs.drop j).take 1) = x) (hx : x.isSome = true) : ∃ (A : Option Addr) (m c : Nat) (xs : List O), cs[j]? = some (.slice A m c) ∧ Lst kO w w.heap.size A m xs ∧ m ≤ c ∧ c ≤ maxLen := by
  obtain ⟨y, rfl⟩ := Option.isSome_iff_exists.1 hx
  obtain ⟨A, m, c, xs, h2, h3⟩ := open_lst (k := kO) Tryd.underlying24 (by kernel_rfl) open_op h
  rw [List.drop_eq_getElem_cons hj] at h2
  simp only [List.take_succ_cons, List.take_zero] at h2
  exact ⟨A, m, c, xs, by rw [List.getElem?_eq_getElem hj, (List.cons.inj h2).1], h3⟩
theorem pair_fields : ∃ f0 f1 : Field, Tryd.prog.underlying 39 = some (.struct #[f0, f1]) ∧ (f0.offset = 0 ∧ f0.type = 2) ∧ (f1.offset = 1 ∧ f1.type = 2) :=
  ⟨_, _, Tryd.underlying39, ⟨rfl, rfl⟩, ⟨rfl, rfl⟩⟩
end
end Go.Proofs.YtlinmcgmkpkpaaaDoor.Vm
namespace Go.Proofs.YtlinmcgmkpkpaaaDoor.Sp
open Go.RowKit Go.ChangeShapes Go.WideShapes Mem Rc Sl Vm
section
variable {H : Type} {enc : TypeId × Value → H} {w : World} {base : Nat} {held : Bool}
set_option maxRecDepth 100000 in
theorem open_pair1 (n : Nat) (cs : List Value) (x : DataW H × List MemPlace) (h : DataW.trod enc Tryd.prog w base (fun _ => true) held n 39 cs = some x) : ∃ r : Int × Int, cs = kP.cells r ∧ kP.wf r := by
  obtain ⟨f0, f1, hu, ⟨o0, t0⟩, ⟨o1, t1⟩⟩ := pair_fields
  obtain ⟨xs, m, _, _, hl, hxl, hel⟩ := DataW.trod_struct hu h
  have c6 : Tryd.prog.cellsOf 2 = 1 := by kernel_rfl
  have cc : Tryd.prog.cellsOf 39 = 2 := by kernel_rfl
  rw [cc] at hl
  have hx2 : xs.length = 2 := hxl
  have e0 := hel 0 f0 rfl
  have e1 := hel 1 f1 rfl
  rw [o0, t0, c6] at e0
  rw [o1, t1, c6] at e1
  obtain ⟨z0, q0, w0⟩ := field_int (by omega) Tryd.underlying2 e0 (by simp [hx2])
  obtain ⟨z1, q1, w1⟩ := field_int (by omega) Tryd.underlying2 e1 (by simp [hx2])
  refine ⟨(z0, z1), ?_, w0, w1⟩
  apply List.ext_getElem?
  intro i
  match i with
  | 0 => exact q0
  | 1 => exact q1
  | i + 2 => rw [List.getElem?_eq_none (by omega), List.getElem?_eq_none (by simp [kP, pcells])]
theorem params_fields : ∃ f0 f1 f2 f3 : Field, Tryd.prog.underlying 28 = some (.struct #[f0, f1, f2, f3]) ∧ (f0.offset = 0 ∧ f0.type = 3) ∧ (f1.offset = 1 ∧ f1.type = 3) ∧ (f2.offset = 2 ∧ f2.type = 3) ∧ (f3.offset = 3 ∧ f3.type = 3) :=
  ⟨_, _, _, _, Tryd.underlying28, ⟨rfl, rfl⟩, ⟨rfl, rfl⟩, ⟨rfl, rfl⟩, ⟨rfl, rfl⟩⟩
end
end Go.Proofs.YtlinmcgmkpkpaaaDoor.Sp
namespace Go.Proofs.YtlinmcgmkpkpaaaDoor.Mem
open Go.RowKit Go.ChangeShapes Go.WideShapes
end Go.Proofs.YtlinmcgmkpkpaaaDoor.Mem
namespace Go.Proofs.YtlinmcgmkpkpaaaDoor.Sl
open Go.RowKit Go.Shelf Mem Held
section
variable {α : Type} {k : St α} {P : Program} {ops : Array Oper} {o : Oper} {a : Act} {w : World} {Q : Exit → Act → World → Prop}
theorem op_alloc_blk (i : Nat) (d : Option Tmp) {K : Act → World → Prop} (ty : TypeId) (cs : Array Value) (hi : ops[i]? = some o) (hd : o.dst = d) (hw : Region.wanted o (yielded ops a.tmps) = true)
    (ho : o.op = .alloc ty) (hz : (P.info? ty).bind (·.zero) = some (.agg cs))
    (h : ∀ g w', Blk w' g ty cs → Below w.heap.size w w' → Hid (w.heap.size ≤ g) → K (a.put d (.pointer (some ⟨g, 0, none⟩))) w') : wpOp P ops Q i K a w := by
  subst hd
  refine op_wp i hi hw ?_
  unfold Oper.wp execOp
  simp only [ho, run_alloc_blk ty cs hz, Sem.run_bind, Sem.run_pure, Result.andThen_ok]
  exact h _ _ (heap_alloc_new w _) ((Below.refl _ w).alloc (Nat.le_refl _) _) (Lib.hid (Nat.le_refl _))
theorem op_build_lst (i : Nat) (d : Option Tmp) {K : Act → World → Prop} (ts e : TypeId) (n : Nat) {parts : Array (Nat × Operand)} (z : Value) (bytes : Nat) (xs : List α) (hi : ops[i]? = some o) (hd : o.dst = d) (hw : Region.wanted o (yielded ops a.tmps) = true)
    (ho : o.op = .buildSlice ts n parts) (hu : P.underlying ts = some (.slice e)) (hinfo : (P.info? e).map (fun i => (i.zero, i.size, i.bytes)) = some (some z, k.s, bytes)) (hz : z.cells.size = k.s)
    (hn : xs.length = n) (hp : (parts.map fun (i, x) => (i, a.eval x)).toList = ((xs.map fun x => Value.agg (k.cells x).toArray).zipIdx 0).map fun x => (x.2, x.1)) (h0 : 0 < n) (h24 : n * k.s ≤ 16777216)
    (h : ∀ g w', Blk w' g e (flat k xs).toArray → Below w.heap.size w w' → Hid (w.heap.size ≤ g) → K (a.put d (.slice (some ⟨g, 0, none⟩) n n)) w') : wpOp P ops Q i K a w := by
  subst hd
  refine op_wp i hi hw ?_
  obtain ⟨ie, hie, hz0, hs, hb⟩ := info_parts hinfo
  refine Go.wp_buildSlice ts e n parts ho (flat k xs).toArray ie z hu hie hz0 (by rw [hs]; omega) (by rw [hs]; have := Nat.mul_pos h0 k.pos; omega) ?_ (h _ _ (heap_alloc_new w _) ((Below.refl _ w).alloc (Nat.le_refl _) _) (Lib.hid (Nat.le_refl _)))
  rw [hp, hs]
  refine (Great.fill_whole k.pos (xs.map fun x => Value.agg (k.cells x).toArray) _ (fun v hv => ?_) (by simp [hn])).trans ?_
  · obtain ⟨x, _, rfl⟩ := List.mem_map.1 hv
    simp [Value.cells, k.len]
  · rw [List.flatMap_map]
    simp [flat, Value.cells]
end
end Go.Proofs.YtlinmcgmkpkpaaaDoor.Sl
namespace Go.Proofs.YtlinmcgmkpkpaaaDoor.Sl
open Go.RowKit Go.Shelf Mem Held
section
variable {α : Type} {k : St α} {P : Program} {ops : Array Oper} {o : Oper} {a : Act} {w : World} {Q : Exit → Act → World → Prop}
end
end Go.Proofs.YtlinmcgmkpkpaaaDoor.Sl
namespace Go.Proofs.YtlinmcgmkpkpaaaDoor.Pi
open Go.RowKit Go.ChangeShapes Go.WideShapes Go.Shelf Mem Held Rc Rs Sl Vm Sp
abbrev jb (Z : Nat → Value) (K : Int) (A1 : Option Addr) (n1 c1 : Nat) (A2 : Option Addr) (n2 c2 : Nat) (A3 : Option Addr) (n3 c3 : Nat) (r k b wk : Int) (A : Option Addr) (n c : Nat) : Array Value :=
  #[Z 0, Z 1, Z 2, Z 3, Z 4, Z 5, Z 6, Z 7, Z 8, Z 9, Z 10, Z 11, Z 12, Z 13, Z 14, Z 15, Z 16, Z 17, Z 18, Z 19, Z 20, Z 21, Z 22, Z 23, Z 24, Z 25, Z 26, Z 27, Z 28, Z 29, Z 30, Z 31, Z 32,
    .int .i64 K, .slice A1 n1 c1, .slice A2 n2 c2, .slice A3 n3 c3, .int .i64 r, .int .i64 k, .int .i64 b, .int .i64 wk, .slice A n c]
def Zok (Z : Nat → Value) : Prop := ∀ i, i < 33 → (Z i).oneCell' = true
theorem jb_one {Z : Nat → Value} (hZ : Zok Z) (K : Int) (A1 : Option Addr) (n1 c1 : Nat) (A2 : Option Addr) (n2 c2 : Nat) (A3 : Option Addr) (n3 c3 : Nat) (r k b wk : Int) (A : Option Addr) (n c : Nat) : (jb Z K A1 n1 c1 A2 n2 c2 A3 n3 c3 r k b wk A n c).all (·.oneCell') = true := by
  simp only [jb, Array.all_eq_true', List.mem_toArray, List.mem_cons, List.not_mem_nil, or_false]
  intro x hx
  rcases hx with rfl | rfl | rfl | rfl | rfl | rfl | rfl | rfl | rfl | rfl | rfl | rfl | rfl | rfl | rfl | rfl | rfl | rfl | rfl | rfl | rfl | rfl | rfl | rfl | rfl | rfl | rfl | rfl | rfl | rfl | rfl | rfl | rfl | rfl | rfl | rfl | rfl | rfl | rfl | rfl | rfl | rfl
  all_goals first
    | rfl
    | exact hZ _ (by omega)
theorem size_job : (Tryd.prog.info? 31).map (·.size) = some 42 := by kernel_rfl
theorem zero_job : (Tryd.prog.info? 31).bind (·.zero) = some (.agg (jb (fun i => if i < 32 then .int .u8 0 else .int .u64 0) 0 none 0 0 none 0 0 none 0 0 0 0 0 0 none 0 0)) := by kernel_rfl
theorem blk_range {w : World} {g off : Nat} {t : TypeId} {cs : Array Value} {l : List Value} (h : Blk w g t cs) (hl : (cs.toList.drop off).take l.length = l) : w.rangeAt g off l := fun j v hv => by
  refine h.cell (i := off + j) ?_
  have hj : j < l.length := (List.getElem?_eq_some_iff.1 hv).1
  rw [← hl, List.getElem?_take, if_pos hj, List.getElem?_drop, Array.getElem?_toList] at hv
  exact hv
section
variable {P : Program} {ops : Array Oper} {rest : List Oper} {o : Oper} {a : Act} {w : World} {Q : Exit → Act → World → Prop}
theorem wpList_store_sub (hgd : o.guard = none) (ty : TypeId) (x y : Operand) (ho : o.op = .store ty x y) (g off : Nat) (hx : a.eval x = .pointer (some ⟨g, off, none⟩)) (t : TypeId) (cs sub cs' : Array Value) (hy : a.eval y = .agg sub)
    (hb : Blk w g t cs) (hfit : off + sub.size ≤ cs.size) (hsz : (P.info? ty).map (·.size) = some sub.size) (h1 : sub.all (·.oneCell') = true) (he : cs'.toList = cs.toList.take off ++ sub.toList ++ cs.toList.drop (off + sub.size))
    (h : ∀ w', Blk w' g t cs' → w.grownBy w' (some g) → wpList P ops Q rest (a.put o.dst undef) w') : wpList P ops Q (o :: rest) a w := by
  have hth : w.there g off sub.size := fun j hj => ⟨by rw [hb.cell (Array.getElem?_eq_getElem (by omega))]; rfl, hb.frozen _⟩
  obtain ⟨cur', k1, k2, k3⟩ := heap_setCells sub.toList off w cs hb (by simpa using hfit)
  refine wpList_store_mid hgd ty x y ho g off sub hx hy hth hsz h1 (h _ ?_ (grown_setCells g _ _ _))
  have : cur' = cs' := by
    apply Array.ext'
    rw [k3, he]
    simp
  rw [← this]
  exact k1
end
section
variable {H : Type} {enc : TypeId × Value → H} {w : World} {base : Nat} {held : Bool}
theorem field_sub {cs : List Value} {j s n : Nat} {t : TypeId} {x : Option (DataW H × List MemPlace)} (h : DataW.trod enc Tryd.prog w base (fun _ => true) held n t ((cs.drop j).take s) = x) (hx : x.isSome = true) : ∃ y, DataW.trod enc Tryd.prog w base (fun _ => true) held n t ((cs.drop j).take s) = some y := by
  obtain ⟨y, rfl⟩ := Option.isSome_iff_exists.1 hx
  exact ⟨y, h⟩
theorem open_prog1 (n : Nat) (cs : List Value) (x : DataW H × List MemPlace) (h : DataW.trod enc Tryd.prog w base (fun _ => true) held n 26 cs = some x) :
    ∃ (K : Int) (A1 : Option Addr) (n1 c1 : Nat) (x1 : List O) (A2 : Option Addr) (n2 c2 : Nat) (x2 : List O) (A3 : Option Addr) (n3 c3 : Nat) (x3 : List O), cs = [.int .i64 K, .slice A1 n1 c1, .slice A2 n2 c2, .slice A3 n3 c3] ∧ (Lit.int .i64 K).wf = true ∧
      (Lst kO w w.heap.size A1 n1 x1 ∧ n1 ≤ c1 ∧ c1 ≤ maxLen) ∧ (Lst kO w w.heap.size A2 n2 x2 ∧ n2 ≤ c2 ∧ c2 ≤ maxLen) ∧ (Lst kO w w.heap.size A3 n3 x3 ∧ n3 ≤ c3 ∧ c3 ≤ maxLen) := by
  obtain ⟨f0, f1, f2, f3, hu, ⟨o0, t0⟩, ⟨o1, t1⟩, ⟨o2, t2⟩, ⟨o3, t3⟩⟩ := prog_fields
  obtain ⟨xs, m, _, _, hl, hxl, hel⟩ := DataW.trod_struct hu h
  have ci : Tryd.prog.cellsOf 3 = 1 := by kernel_rfl
  have cs1 : Tryd.prog.cellsOf 24 = 1 := by kernel_rfl
  have cc : Tryd.prog.cellsOf 26 = 4 := by kernel_rfl
  rw [cc] at hl
  have hx4 : xs.length = 4 := hxl
  have e0 := hel 0 f0 rfl
  have e1 := hel 1 f1 rfl
  have e2 := hel 2 f2 rfl
  have e3 := hel 3 f3 rfl
  rw [o0, t0, ci] at e0
  rw [o1, t1, cs1] at e1
  rw [o2, t2, cs1] at e2
  rw [o3, t3, cs1] at e3
  obtain ⟨z0, q0, w0⟩ := field_int (by omega) Tryd.underlying3 e0 (by simp [hx4])
  obtain ⟨A1, n1, c1, x1, q1, k1⟩ := field_ops (by omega) e1 (by simp [hx4])
  obtain ⟨A2, n2, c2, x2, q2, k2⟩ := field_ops (by omega) e2 (by simp [hx4])
  obtain ⟨A3, n3, c3, x3, q3, k3⟩ := field_ops (by omega) e3 (by simp [hx4])
  refine ⟨z0, A1, n1, c1, x1, A2, n2, c2, x2, A3, n3, c3, x3, ?_, w0, k1, k2, k3⟩
  apply List.ext_getElem?
  intro i
  match i with
  | 0 => exact q0
  | 1 => exact q1
  | 2 => exact q2
  | 3 => exact q3
  | i + 4 => rw [List.getElem?_eq_none (by omega), List.getElem?_eq_none (by simp)]
theorem open_params1 (n : Nat) (cs : List Value) (x : DataW H × List MemPlace) (h : DataW.trod enc Tryd.prog w base (fun _ => true) held n 28 cs = some x) :
    ∃ pr pk pb pw : Int, cs = [.int .i64 pr, .int .i64 pk, .int .i64 pb, .int .i64 pw] ∧ (Lit.int .i64 pr).wf = true ∧ (Lit.int .i64 pk).wf = true ∧ (Lit.int .i64 pb).wf = true ∧ (Lit.int .i64 pw).wf = true := by
  obtain ⟨f0, f1, f2, f3, hu, ⟨o0, t0⟩, ⟨o1, t1⟩, ⟨o2, t2⟩, ⟨o3, t3⟩⟩ := params_fields
  obtain ⟨xs, m, _, _, hl, hxl, hel⟩ := DataW.trod_struct hu h
  have ci : Tryd.prog.cellsOf 3 = 1 := by kernel_rfl
  have cc : Tryd.prog.cellsOf 28 = 4 := by kernel_rfl
  rw [cc] at hl
  have hx4 : xs.length = 4 := hxl
  have e0 := hel 0 f0 rfl
  have e1 := hel 1 f1 rfl
  have e2 := hel 2 f2 rfl
  have e3 := hel 3 f3 rfl
  rw [o0, t0, ci] at e0
  rw [o1, t1, ci] at e1
  rw [o2, t2, ci] at e2
  rw [o3, t3, ci] at e3
  obtain ⟨z0, q0, w0⟩ := field_int (by omega) Tryd.underlying3 e0 (by simp [hx4])
  obtain ⟨z1, q1, w1⟩ := field_int (by omega) Tryd.underlying3 e1 (by simp [hx4])
  obtain ⟨z2, q2, w2⟩ := field_int (by omega) Tryd.underlying3 e2 (by simp [hx4])
  obtain ⟨z3, q3, w3⟩ := field_int (by omega) Tryd.underlying3 e3 (by simp [hx4])
  refine ⟨z0, z1, z2, z3, ?_, w0, w1, w2, w3⟩
  apply List.ext_getElem?
  intro i
  match i with
  | 0 => exact q0
  | 1 => exact q1
  | 2 => exact q2
  | 3 => exact q3
  | i + 4 => rw [List.getElem?_eq_none (by omega), List.getElem?_eq_none (by simp)]
theorem open_master1 (n : Nat) (cs : List Value) (x : DataW H × List MemPlace) (h : DataW.trod enc Tryd.prog w base (fun _ => true) held n 22 cs = some x) : cs.length = 32 ∧ ∀ i, i < 32 → ∃ z, cs[i]? = some (.int .u8 z) := by
  obtain ⟨xs, m, _, _, hl, hxl, hel⟩ := DataW.trod_array Tryd.underlying22 h
  have ce : Tryd.prog.cellsOf 5 = 1 := by kernel_rfl
  have cc : Tryd.prog.cellsOf 22 = 32 := by kernel_rfl
  rw [cc] at hl
  refine ⟨hl, fun i hi => ?_⟩
  have h1 := hel i (by omega)
  rw [ce, Nat.mul_one, List.getElem?_eq_getElem (by omega)] at h1
  obtain ⟨z, h2, _, h3⟩ := DataW.trod_int Tryd.underlying5 h1
  rw [List.drop_eq_getElem_cons (by omega)] at h2
  simp only [List.take_succ_cons, List.take_zero] at h2
  exact ⟨z, by rw [List.getElem?_eq_getElem (by omega), (List.cons.inj h2).1]⟩
theorem job_fields : ∃ f0 f1 f2 f3 f4 : Field, Tryd.prog.underlying 31 = some (.struct #[f0, f1, f2, f3, f4]) ∧ (f0.offset = 0 ∧ f0.type = 22) ∧ (f1.offset = 32 ∧ f1.type = 23) ∧ (f2.offset = 33 ∧ f2.type = 26) ∧ (f3.offset = 37 ∧ f3.type = 28) ∧ (f4.offset = 41 ∧ f4.type = 29) :=
  ⟨_, _, _, _, _, Tryd.underlying31, ⟨rfl, rfl⟩, ⟨rfl, rfl⟩, ⟨rfl, rfl⟩, ⟨rfl, rfl⟩, ⟨rfl, rfl⟩⟩
theorem field_pairs {cs : List Value} {j n : Nat} {x : Option (DataW H × List MemPlace)} (hj : j < cs.length) (h : DataW.trod enc Tryd.prog w base (fun _ => true) held n 29 ((cs.drop j).take 1) = x) (hx : x.isSome = true) : ∃ (A : Option Addr) (m c : Nat) (xs : List (Int × Int)), cs[j]? = some (.slice A m c) ∧ Lst kP w w.heap.size A m xs ∧ m ≤ c ∧ c ≤ maxLen := by
  obtain ⟨y, rfl⟩ := Option.isSome_iff_exists.1 hx
  obtain ⟨A, m, c, xs, h2, h3⟩ := open_lst (k := kP) Tryd.underlying29 (by kernel_rfl) open_pair1 h
  rw [List.drop_eq_getElem_cons hj] at h2
  simp only [List.take_succ_cons, List.take_zero] at h2
  exact ⟨A, m, c, xs, by rw [List.getElem?_eq_getElem hj, (List.cons.inj h2).1], h3⟩
set_option maxRecDepth 100000 in
set_option maxHeartbeats 4000000 in
theorem open_job {r : Reach} {b0 : Nat} {v : Value} {d : DataW H} {p : List MemPlace} (hval : Value.okWide Tryd.prog w r b0 31 v) (h : DataW.Trod enc Tryd.prog w base (fun _ => true) held 31 v d p) :
    ∃ (Z : Nat → Value) (K : Int) (A1 : Option Addr) (n1 c1 : Nat) (x1 : List O) (A2 : Option Addr) (n2 c2 : Nat) (x2 : List O) (A3 : Option Addr) (n3 c3 : Nat) (x3 : List O) (pr pk pb pw : Int) (A : Option Addr) (n c : Nat) (ps : List (Int × Int)), v = .agg (jb Z K A1 n1 c1 A2 n2 c2 A3 n3 c3 pr pk pb pw A n c) ∧ Zok Z ∧ (Lit.int .i64 K).wf = true ∧
      (Lst kO w w.heap.size A1 n1 x1 ∧ n1 ≤ c1 ∧ c1 ≤ maxLen) ∧ (Lst kO w w.heap.size A2 n2 x2 ∧ n2 ≤ c2 ∧ c2 ≤ maxLen) ∧ (Lst kO w w.heap.size A3 n3 x3 ∧ n3 ≤ c3 ∧ c3 ≤ maxLen) ∧
      ((Lit.int .i64 pr).wf = true ∧ (Lit.int .i64 pk).wf = true ∧ (Lit.int .i64 pb).wf = true ∧ (Lit.int .i64 pw).wf = true) ∧ (Lst kP w w.heap.size A n ps ∧ n ≤ c ∧ c ≤ maxLen) := by
  obtain ⟨f0, f1, f2, f3, f4, hu, ⟨o0, t0⟩, ⟨o1, t1⟩, ⟨o2, t2⟩, ⟨o3, t3⟩, ⟨o4, t4⟩⟩ := job_fields
  obtain ⟨cs, rfl, hsz⟩ := okWide_struct hu hval
  obtain ⟨fuel, hf⟩ := h
  simp only [Value.cells] at hf
  obtain ⟨xs, m, _, _, hl, hxl, hel⟩ := DataW.trod_struct hu hf
  have k0 : Tryd.prog.cellsOf 22 = 32 := by kernel_rfl
  have k1 : Tryd.prog.cellsOf 23 = 1 := by kernel_rfl
  have k2 : Tryd.prog.cellsOf 26 = 4 := by kernel_rfl
  have k3 : Tryd.prog.cellsOf 28 = 4 := by kernel_rfl
  have k4 : Tryd.prog.cellsOf 29 = 1 := by kernel_rfl
  have cc : Tryd.prog.cellsOf 31 = 42 := by kernel_rfl
  rw [cc] at hl
  have hx5 : xs.length = 5 := hxl
  have e0 := hel 0 f0 rfl
  have e1 := hel 1 f1 rfl
  have e2 := hel 2 f2 rfl
  have e3 := hel 3 f3 rfl
  have e4 := hel 4 f4 rfl
  rw [o0, t0, k0] at e0
  rw [o1, t1, k1] at e1
  rw [o2, t2, k2] at e2
  rw [o3, t3, k3] at e3
  rw [o4, t4, k4] at e4
  obtain ⟨y0, e0⟩ := field_sub e0 (by simp [hx5])
  obtain ⟨y2, e2⟩ := field_sub e2 (by simp [hx5])
  obtain ⟨y3, e3⟩ := field_sub e3 (by simp [hx5])
  obtain ⟨m0, m1⟩ := open_master1 _ _ _ e0
  obtain ⟨id, q1, _⟩ := field_int (by omega) Tryd.underlying23 e1 (by simp [hx5])
  obtain ⟨K, A1, n1, c1, x1, A2, n2, c2, x2, A3, n3, c3, x3, q2, wK, l1, l2, l3⟩ := open_prog1 _ _ _ e2
  obtain ⟨pr, pk, pb, pw, q3, w1, w2, w3, w4⟩ := open_params1 _ _ _ e3
  obtain ⟨A, n, c, ps, q4, l4⟩ := field_pairs (by omega) e4 (by simp [hx5])
  have hZ : ∀ i, i < 33 → ∃ z, cs.toList[i]? = some z ∧ z.oneCell' = true := fun i hi => by
    by_cases h : i < 32
    · obtain ⟨z, hz⟩ := m1 i h
      rw [List.getElem?_take, if_pos h, List.drop_zero] at hz
      exact ⟨_, hz, rfl⟩
    · obtain rfl : i = 32 := by omega
      exact ⟨_, q1, rfl⟩
  refine ⟨fun i => cs.toList.getD i (.int .i64 0), K, A1, n1, c1, x1, A2, n2, c2, x2, A3, n3, c3, x3, pr, pk, pb, pw, A, n, c, ps, ?_, fun i hi => ?_, wK, l1, l2, l3, ⟨w1, w2, w3, w4⟩, l4⟩
  · have hG : ∀ j, j < 4 → cs.toList[33 + j]? = [Value.int .i64 K, .slice A1 n1 c1, .slice A2 n2 c2, .slice A3 n3 c3][j]? := fun j hj => by rw [← q2, List.getElem?_take, if_pos hj, List.getElem?_drop]
    have hP : ∀ j, j < 4 → cs.toList[37 + j]? = [Value.int .i64 pr, .int .i64 pk, .int .i64 pb, .int .i64 pw][j]? := fun j hj => by rw [← q3, List.getElem?_take, if_pos hj, List.getElem?_drop]
    congr 1
    apply Array.ext'
    apply List.ext_getElem?
    intro i
    by_cases h33 : i < 33
    · obtain ⟨z, hz, _⟩ := hZ i h33
      have hgd : cs.toList.getD i (.int .i64 0) = z := by rw [List.getD_eq_getElem?_getD, hz]; rfl
      rw [hz, ← hgd]
      rcases (show i = 0 ∨ i = 1 ∨ i = 2 ∨ i = 3 ∨ i = 4 ∨ i = 5 ∨ i = 6 ∨ i = 7 ∨ i = 8 ∨ i = 9 ∨ i = 10 ∨ i = 11 ∨ i = 12 ∨ i = 13 ∨ i = 14 ∨ i = 15 ∨ i = 16 ∨ i = 17 ∨ i = 18 ∨ i = 19 ∨ i = 20 ∨ i = 21 ∨ i = 22 ∨ i = 23 ∨ i = 24 ∨ i = 25 ∨ i = 26 ∨ i = 27 ∨ i = 28 ∨ i = 29 ∨ i = 30 ∨ i = 31 ∨ i = 32 by omega) with rfl | rfl | rfl | rfl | rfl | rfl | rfl | rfl | rfl | rfl | rfl | rfl | rfl | rfl | rfl | rfl | rfl | rfl | rfl | rfl | rfl | rfl | rfl | rfl | rfl | rfl | rfl | rfl | rfl | rfl | rfl | rfl | rfl <;> rfl
    · by_cases h42 : i < 42
      · rcases (show i = 33 ∨ i = 34 ∨ i = 35 ∨ i = 36 ∨ i = 37 ∨ i = 38 ∨ i = 39 ∨ i = 40 ∨ i = 41 by omega) with rfl | rfl | rfl | rfl | rfl | rfl | rfl | rfl | rfl
        · exact hG 0 (by omega)
        · exact hG 1 (by omega)
        · exact hG 2 (by omega)
        · exact hG 3 (by omega)
        · exact hP 0 (by omega)
        · exact hP 1 (by omega)
        · exact hP 2 (by omega)
        · exact hP 3 (by omega)
        · exact q4
      · rw [List.getElem?_eq_none (by omega), List.getElem?_eq_none (by simp; omega)]
  · obtain ⟨z, hz, h1⟩ := hZ i hi
    show (cs.toList.getD i (.int .i64 0)).oneCell' = true
    rw [List.getD_eq_getElem?_getD, hz]
    exact h1
end
end Go.Proofs.YtlinmcgmkpkpaaaDoor.Pi
namespace Go.Proofs.YtlinmcgmkpkpaaaDoor.Mg
open Rc Rs
section
variable (seq : Bool)
def lead (a b : R) : Bool := if seq then bef a.d a.k a.s b.d b.k b.s else ahd a.d a.k b.d b.k
theorem lead_irr (a : R) : lead seq a a = false := by
  unfold lead bef ahd
  cases a.d <;> cases seq <;> simp
theorem lead_trans {a b c : R} (h1 : lead seq a b = true) (h2 : lead seq b c = true) : lead seq a c = true := by
  unfold lead bef ahd at *
  cases seq <;> simp only [Bool.false_eq_true, if_false, if_true, Bool.and_eq_true, Bool.not_eq_true', Bool.or_eq_true, decide_eq_true_eq] at *
  · obtain ⟨ha, hb⟩ := h1
    obtain ⟨hb', hc⟩ := h2
    refine ⟨ha, ?_⟩
    rcases hc with hc | hc
    · exact .inl hc
    · rcases hb with hb | hb
      · rw [hb] at hb'; cases hb'
      · exact .inr (by omega)
  · obtain ⟨ha, hb⟩ := h1
    obtain ⟨hb', hc⟩ := h2
    refine ⟨ha, ?_⟩
    rcases hc with hc | hc
    · exact .inl hc
    · rcases hb with hb | hb
      · rw [hb] at hb'; cases hb'
      · exact .inr (by omega)
theorem lead_neg {a b c : R} (h1 : lead seq a b = false) (h2 : lead seq b c = false) : lead seq a c = false := by
  unfold lead bef ahd at *
  cases seq <;> simp only [Bool.false_eq_true, if_false, if_true, Bool.and_eq_false_iff, Bool.not_eq_false', Bool.or_eq_false_iff, decide_eq_false_iff_not] at *
  · rcases h1 with h1 | ⟨hb, h1⟩
    · exact .inl h1
    · rcases h2 with h2 | ⟨hc, h2⟩
      · rw [hb] at h2; cases h2
      · exact .inr ⟨hc, by omega⟩
  · rcases h1 with h1 | ⟨hb, h1⟩
    · exact .inl h1
    · rcases h2 with h2 | ⟨hc, h2⟩
      · rw [hb] at h2; cases h2
      · exact .inr ⟨hc, by omega⟩
theorem lead_asym {a b : R} (h : lead seq a b = true) : lead seq b a = false := by
  cases hb : lead seq b a with
  | false => rfl
  | true =>
    have := lead_trans seq h hb
    rw [lead_irr] at this
    cases this
theorem lead_of {a b c : R} (h1 : lead seq a b = true) (h2 : lead seq c b = false) : lead seq a c = true := by
  cases h : lead seq a c with
  | true => rfl
  | false => rw [lead_neg seq h h2] at h1; cases h1
theorem lead_of' {a b c : R} (h1 : lead seq a b = true) (h2 : lead seq a c = false) : lead seq c b = true := by
  cases h : lead seq c b with
  | true => rfl
  | false => rw [lead_neg seq h2 h] at h1; cases h1
def tie (a b : R) : Bool := !lead seq a b && !lead seq b a
theorem tie_refl (a : R) : tie seq a a = true := by simp [tie, lead_irr]
def Srt : List R → Prop
  | [] => True
  | [_] => True
  | a :: b :: l => lead seq b a = false ∧ Srt (b :: l)
theorem Srt.tail {a : R} {l : List R} (h : Srt seq (a :: l)) : Srt seq l := by
  cases l with
  | nil => trivial
  | cons b l => exact h.2
theorem Srt.head {a : R} : ∀ {l : List R}, Srt seq (a :: l) → ∀ x ∈ l, lead seq x a = false
  | [], _, x, hx => by simp at hx
  | b :: l, h, x, hx => by
    rcases List.mem_cons.1 hx with rfl | hx
    · exact h.1
    · exact lead_neg seq (Srt.head (a := b) h.2 x hx) h.1
theorem stable_unique : ∀ (xs ys : List R), Srt seq xs → Srt seq ys → (∀ c, xs.filter (tie seq c) = ys.filter (tie seq c)) → xs = ys
  | [], [], _, _, _ => rfl
  | [], y :: ys, _, _, h => by
    have := h y
    simp [tie_refl] at this
  | x :: xs, [], _, _, h => by
    have := h x
    simp [tie_refl] at this
  | x :: xs, y :: ys, hx, hy, h => by
    have h1 : x ∈ y :: ys := by
      have : x ∈ (y :: ys).filter (tie seq x) := by rw [← h x]; simp [tie_refl]
      exact (List.mem_filter.1 this).1
    have h2 : y ∈ x :: xs := by
      have : y ∈ (x :: xs).filter (tie seq y) := by rw [h y]; simp [tie_refl]
      exact (List.mem_filter.1 this).1
    have e1 : lead seq x y = false := by
      rcases List.mem_cons.1 h1 with rfl | h1
      · exact lead_irr seq _
      · exact hy.head seq _ h1
    have e2 : lead seq y x = false := by
      rcases List.mem_cons.1 h2 with rfl | h2
      · exact lead_irr seq _
      · exact hx.head seq _ h2
    have ht : tie seq x y = true := by simp [tie, e1, e2]
    have hh := h x
    rw [List.filter_cons_of_pos (tie_refl seq x), List.filter_cons_of_pos ht] at hh
    injection hh with hxy _
    subst hxy
    refine congrArg (x :: ·) (stable_unique xs ys hx.tail hy.tail fun c => ?_)
    have hc := h c
    by_cases ct : tie seq c x = true
    · rw [List.filter_cons_of_pos ct, List.filter_cons_of_pos ct] at hc
      injection hc
    · rw [List.filter_cons_of_neg ct, List.filter_cons_of_neg ct] at hc
      exact hc
def spotR (x : R) (out : List R) : Nat → Nat
  | 0 => 0
  | k + 1 => if lead seq x (out.getD k R0) then spotR x out k else k + 1
def insR (out : List R) (x : R) : List R := out.take (spotR seq x out out.length) ++ x :: out.drop (spotR seq x out out.length)
def sortR (l : List R) : List R := l.foldl (insR seq) []
theorem spotR_le (x : R) (out : List R) : ∀ k, spotR seq x out k ≤ k
  | 0 => Nat.le_refl 0
  | k + 1 => by
    unfold spotR
    split
    · exact Nat.le_succ_of_le (spotR_le x out k)
    · exact Nat.le_refl _
theorem spotR_behind (x : R) (out : List R) : ∀ k i, spotR seq x out k ≤ i → i < k → lead seq x (out.getD i R0) = true
  | 0, i, _, h => absurd h (by omega)
  | k + 1, i, h1, h2 => by
    unfold spotR at h1
    split at h1
    · rename_i hl
      by_cases e : i = k
      · rw [e]; exact hl
      · exact spotR_behind x out k i h1 (by omega)
    · omega
theorem spotR_ahead (x : R) (out : List R) : ∀ k, 0 < spotR seq x out k → lead seq x (out.getD (spotR seq x out k - 1) R0) = false
  | 0, h => absurd h (by simp [spotR])
  | k + 1, h => by
    unfold spotR at h ⊢
    split
    · rename_i hl
      rw [if_pos hl] at h
      exact spotR_ahead x out k h
    · rename_i hl
      simpa using hl
theorem insR_length (out : List R) (x : R) : (insR seq out x).length = out.length + 1 := by
  have := spotR_le seq x out out.length
  simp [insR]; omega
theorem foldR_length : ∀ (l out : List R), (l.foldl (insR seq) out).length = out.length + l.length
  | [], out => rfl
  | x :: l, out => by rw [List.foldl_cons, foldR_length l, insR_length, List.length_cons]; omega
theorem sortR_length (l : List R) : (sortR seq l).length = l.length := by rw [sortR, foldR_length]; simp
theorem srt_iff : ∀ (l : List R), Srt seq l ↔ ∀ i, i + 1 < l.length → lead seq (l.getD (i + 1) R0) (l.getD i R0) = false
  | [] => ⟨fun _ i h => absurd h (by simp), fun _ => trivial⟩
  | [a] => ⟨fun _ i h => absurd h (by simp), fun _ => trivial⟩
  | a :: b :: l => by
    have ih := srt_iff (b :: l)
    constructor
    · rintro ⟨h1, h2⟩ i hi
      cases i with
      | zero => exact h1
      | succ i => exact ih.1 h2 i (by simpa using hi)
    · intro h
      exact ⟨h 0 (by simp), ih.2 fun i hi => h (i + 1) (by simpa using hi)⟩
theorem insR_sorts {out : List R} (x : R) (h : Srt seq out) : Srt seq (insR seq out x) := by
  have hle := spotR_le seq x out out.length
  have hb := spotR_behind seq x out out.length
  have ha := spotR_ahead seq x out out.length
  unfold insR
  generalize spotR seq x out out.length = k at *
  rw [srt_iff] at h ⊢
  intro i hi
  have hg : ∀ j, (out.take k ++ x :: out.drop k).getD j R0 = if j < k then out.getD j R0 else if j = k then x else out.getD (j - 1) R0 := fun j => by
    have hl : (out.take k).length = k := by rw [List.length_take]; omega
    simp only [List.getD_eq_getElem?_getD]
    by_cases c1 : j < k
    · rw [if_pos c1, List.getElem?_append_left (by omega), List.getElem?_take, if_pos c1]
    · rw [if_neg c1, List.getElem?_append_right (by omega), hl]
      by_cases c2 : j = k
      · rw [if_pos c2, c2, Nat.sub_self]; rfl
      · rw [if_neg c2, show j - k = (j - k - 1) + 1 by omega, List.getElem?_cons_succ, List.getElem?_drop, show k + (j - k - 1) = j - 1 by omega]
  have hi' : i < out.length := by simp at hi; omega
  rw [hg, hg]
  by_cases c1 : i + 1 < k
  · rw [if_pos c1, if_pos (by omega)]
    exact h i (by omega)
  · rw [if_neg c1]
    by_cases c2 : i + 1 = k
    · rw [if_pos c2, if_pos (by omega)]
      have := ha (by omega)
      rwa [show k - 1 = i by omega] at this
    · rw [if_neg c2, if_neg (by omega)]
      by_cases c3 : i = k
      · rw [if_pos c3, show i + 1 - 1 = i by omega]
        exact lead_asym seq (hb i (by omega) hi')
      · rw [if_neg c3, show i + 1 - 1 = (i - 1) + 1 by omega]
        exact h (i - 1) (by omega)
theorem insR_ties (c : R) {out : List R} (x : R) (h : Srt seq out) : (insR seq out x).filter (tie seq c) = out.filter (tie seq c) ++ (if tie seq c x then [x] else []) := by
  have hb := spotR_behind seq x out out.length
  have hle := spotR_le seq x out out.length
  unfold insR
  generalize spotR seq x out out.length = k at *
  have hd : ∀ y ∈ out.drop k, lead seq x y = true := fun y hy => by
    obtain ⟨j, hj, rfl⟩ := List.mem_iff_getElem.1 hy
    have hj' : k + j < out.length := by simp at hj; omega
    have := hb (k + j) (by omega) hj'
    rw [List.getD_eq_getElem?_getD, List.getElem?_eq_getElem hj'] at this
    rw [List.getElem_drop]
    exact this
  have ho : out.filter (tie seq c) = (out.take k).filter (tie seq c) ++ (out.drop k).filter (tie seq c) := by rw [← List.filter_append, List.take_append_drop]
  rw [List.filter_append, ho]
  by_cases ct : tie seq c x = true
  · rw [List.filter_cons_of_pos ct, if_pos ct]
    have : (out.drop k).filter (tie seq c) = [] := by
      rw [List.filter_eq_nil_iff]
      intro y hy hty
      have h1 := hd y hy
      unfold tie at ct hty
      simp only [Bool.and_eq_true, Bool.not_eq_true'] at ct hty
      rw [lead_neg seq ct.2 hty.1] at h1
      cases h1
    rw [this]
    simp
  · rw [List.filter_cons_of_neg ct, if_neg ct, List.append_nil]
theorem foldR_is : ∀ (l out : List R), Srt seq out → Srt seq (l.foldl (insR seq) out) ∧ ∀ c, (l.foldl (insR seq) out).filter (tie seq c) = out.filter (tie seq c) ++ l.filter (tie seq c)
  | [], out, h => ⟨h, fun c => by simp⟩
  | x :: l, out, h => by
    obtain ⟨h1, h2⟩ := foldR_is l (insR seq out x) (insR_sorts seq x h)
    refine ⟨h1, fun c => ?_⟩
    rw [List.foldl_cons, h2 c, insR_ties seq c x h]
    by_cases ct : tie seq c x = true
    · rw [if_pos ct, List.filter_cons_of_pos ct]; simp
    · rw [if_neg ct, List.filter_cons_of_neg ct]; simp
theorem sortR_sorts (l : List R) : Srt seq (sortR seq l) := (foldR_is seq l [] trivial).1
theorem sortR_ties (l : List R) (c : R) : (sortR seq l).filter (tie seq c) = l.filter (tie seq c) := by rw [sortR, (foldR_is seq l [] trivial).2 c]; simp
end
section
variable (seq : Bool)
def swR (l : List R) (p : Nat) : Bool := lead seq (l.getD (p + 1) R0) (l.getD p R0)
def settleR (l : List R) (p : Nat) : List R := (l.set p (if swR seq l p then l.getD (p + 1) R0 else l.getD p R0)).set (p + 1) (if swR seq l p then l.getD p R0 else l.getD (p + 1) R0)
theorem settleR_length (l : List R) (p : Nat) : (settleR seq l p).length = l.length := by simp [settleR]
theorem split2 : ∀ (p : Nat) (l : List R), p + 1 < l.length → ∃ A a b B, l = A ++ a :: b :: B ∧ A.length = p
  | _, [], h => absurd h (by simp)
  | 0, [a], h => absurd h (by simp)
  | 0, a :: b :: B, _ => ⟨[], a, b, B, rfl, rfl⟩
  | p + 1, x :: l, h => by
    obtain ⟨A, a, b, B, e, hl⟩ := split2 p l (by simpa using h)
    exact ⟨x :: A, a, b, B, by rw [e]; rfl, by simp [hl]⟩
theorem settle_app (A : List R) (a b : R) (B : List R) : settleR seq (A ++ a :: b :: B) A.length = if lead seq b a then A ++ b :: a :: B else A ++ a :: b :: B := by
  have g0 : (A ++ a :: b :: B).getD A.length R0 = a := by simp [List.getD_eq_getElem?_getD]
  have g1 : (A ++ a :: b :: B).getD (A.length + 1) R0 = b := by
    rw [List.getD_eq_getElem?_getD, List.getElem?_append_right (by omega), show A.length + 1 - A.length = 1 by omega]; rfl
  have hs : ∀ x y : R, ((A ++ a :: b :: B).set A.length x).set (A.length + 1) y = A ++ x :: y :: B := fun x y => by
    rw [List.set_append_right _ _ (Nat.le_refl _), Nat.sub_self, List.set_cons_zero, List.set_append_right _ _ (by omega), show A.length + 1 - A.length = 1 by omega]; rfl
  unfold settleR swR
  rw [g0, g1, hs]
  split <;> rfl
theorem settle_ties (c : R) {l : List R} {p : Nat} (hp : p + 1 < l.length) : (settleR seq l p).filter (tie seq c) = l.filter (tie seq c) := by
  obtain ⟨A, a, b, B, rfl, rfl⟩ := split2 p l hp
  rw [settle_app]
  split
  · rename_i hl
    rw [List.filter_append, List.filter_append]
    congr 1
    by_cases ca : tie seq c a = true
    · have cb : ¬ tie seq c b = true := fun cb => by
        unfold tie at ca cb
        simp only [Bool.and_eq_true, Bool.not_eq_true'] at ca cb
        rw [lead_neg seq cb.2 ca.1] at hl
        cases hl
      rw [List.filter_cons_of_neg cb, List.filter_cons_of_pos ca, List.filter_cons_of_pos ca, List.filter_cons_of_neg cb]
    · rw [List.filter_cons_of_neg ca (l := b :: B)]
      by_cases cb : tie seq c b = true
      · rw [List.filter_cons_of_pos cb, List.filter_cons_of_pos cb, List.filter_cons_of_neg ca]
      · rw [List.filter_cons_of_neg cb, List.filter_cons_of_neg cb, List.filter_cons_of_neg ca]
  · rfl
theorem settle_perm {l : List R} {p : Nat} (hp : p + 1 < l.length) : (settleR seq l p).Perm l := by
  obtain ⟨A, a, b, B, rfl, rfl⟩ := split2 p l hp
  rw [settle_app]
  split
  · exact List.Perm.append_left A (List.Perm.swap _ _ _)
  · exact List.Perm.refl _
def cnt (c : R) (l : List R) (q : Nat) : Nat := (l.drop q).countP (lead seq c)
theorem cnt_step (c : R) {l : List R} {q : Nat} (hq : q < l.length) : cnt seq c l q = (if lead seq c (l.getD q R0) then 1 else 0) + cnt seq c l (q + 1) := by
  unfold cnt
  rw [List.drop_eq_getElem_cons hq, List.countP_cons, List.getD_eq_getElem?_getD, List.getElem?_eq_getElem hq, Option.getD_some]
  omega
theorem cnt_le (c : R) (l : List R) (q : Nat) : cnt seq c l q ≤ l.length - q := by
  unfold cnt
  have := List.countP_le_length (p := lead seq c) (l := l.drop q)
  rwa [List.length_drop] at this
theorem cnt_mono (c : R) (l : List R) (q : Nat) : cnt seq c l (q + 1) ≤ cnt seq c l q := by
  by_cases h : q < l.length
  · rw [cnt_step seq c h]; omega
  · have := cnt_le seq c l (q + 1)
    omega
theorem cnt_zero (c : R) (l : List R) : ∀ q, cnt seq c l 0 ≤ q + cnt seq c l q
  | 0 => by omega
  | q + 1 => by
    have := cnt_zero c l q
    by_cases h : q < l.length
    · rw [cnt_step seq c h] at this
      split at this <;> omega
    · have h2 := cnt_le seq c l q
      omega
theorem cnt_top (c : R) (l : List R) : ∀ q, cnt seq c l q ≤ cnt seq c l 0
  | 0 => Nat.le_refl _
  | q + 1 => Nat.le_trans (cnt_mono seq c l q) (cnt_top c l q)
theorem settle_cnt (c : R) {l : List R} {p : Nat} (hp : p + 1 < l.length) (q : Nat) : cnt seq c (settleR seq l p) q = if q = p + 1 then min (cnt seq c l p) (cnt seq c l (p + 2) + 1) else cnt seq c l q := by
  obtain ⟨A, a, b, B, rfl, rfl⟩ := split2 p l hp
  rw [settle_app]
  have d1 : ∀ x y : R, (A ++ x :: y :: B).drop (A.length + 1) = y :: B := fun x y => by
    rw [List.drop_append]; simp
  have d2 : ∀ x y : R, (A ++ x :: y :: B).drop (A.length + 2) = B := fun x y => by
    rw [List.drop_append]; simp
  have d0 : ∀ x y : R, (A ++ x :: y :: B).drop A.length = x :: y :: B := fun x y => by
    rw [List.drop_append]; simp
  by_cases e : q = A.length + 1
  · rw [if_pos e, e]
    unfold cnt
    rw [d0, d2]
    by_cases hl : lead seq b a = true
    · rw [if_pos hl, d1]
      simp only [List.countP_cons]
      by_cases ca : lead seq c a = true
      · rw [if_pos ca]; split <;> omega
      · by_cases cb : lead seq c b = true
        · exact absurd (lead_trans seq cb hl) ca
        · rw [if_neg ca, if_neg cb]; omega
    · rw [if_neg hl, d1]
      simp only [List.countP_cons]
      by_cases cb : lead seq c b = true
      · rw [if_pos cb]; split <;> omega
      · by_cases ca : lead seq c a = true
        · exact absurd (lead_of' seq ca (by simpa using cb)) hl
        · rw [if_neg ca, if_neg cb]; omega
  · rw [if_neg e]
    split
    · unfold cnt
      rw [List.drop_append, List.drop_append, List.countP_append, List.countP_append]
      congr 1
      by_cases hq : q ≤ A.length
      · rw [show q - A.length = 0 by omega]
        simp only [List.drop_zero, List.countP_cons]
        omega
      · obtain ⟨r, hr⟩ : ∃ r, q - A.length = r + 2 := ⟨q - A.length - 2, by omega⟩
        rw [hr]
        rfl
    · rfl
def stepsR (f : Nat) : Nat → List R → List R
  | 0, l => l
  | k + 1, l => settleR seq (stepsR f k l) (f + 2 * k)
theorem stepsR_length (f : Nat) : ∀ (k : Nat) (l : List R), (stepsR seq f k l).length = l.length
  | 0, _ => rfl
  | k + 1, l => by rw [stepsR, settleR_length, stepsR_length f k l]
theorem steps_ties (c : R) (f : Nat) : ∀ (k : Nat) (l : List R), f + 2 * k ≤ l.length → (stepsR seq f k l).filter (tie seq c) = l.filter (tie seq c)
  | 0, _, _ => rfl
  | k + 1, l, h => by
    rw [stepsR, settle_ties seq c (by rw [stepsR_length]; omega), steps_ties c f k l (by omega)]
theorem steps_perm (f : Nat) : ∀ (k : Nat) (l : List R), f + 2 * k ≤ l.length → (stepsR seq f k l).Perm l
  | 0, _, _ => List.Perm.refl _
  | k + 1, l, h => by
    rw [stepsR]
    exact (settle_perm seq (by rw [stepsR_length]; omega)).trans (steps_perm f k l (by omega))
theorem steps_cnt (c : R) (f : Nat) : ∀ (k : Nat) (l : List R), f + 2 * k ≤ l.length → ∀ q, cnt seq c (stepsR seq f k l) q = if f < q ∧ q < f + 2 * k ∧ (q - f) % 2 = 1 then min (cnt seq c l (q - 1)) (cnt seq c l (q + 1) + 1) else cnt seq c l q
  | 0, l, _, q => by rw [if_neg (by omega)]; rfl
  | k + 1, l, h, q => by
    have ih := steps_cnt c f k l (by omega)
    rw [stepsR, settle_cnt seq c (by rw [stepsR_length]; omega)]
    by_cases e : q = f + 2 * k + 1
    · rw [if_pos e, if_pos (by omega), ih, ih, if_neg (by omega), if_neg (by omega), e, show f + 2 * k + 1 - 1 = f + 2 * k by omega]
    · rw [if_neg e, ih]
      by_cases hc : f < q ∧ q < f + 2 * k ∧ (q - f) % 2 = 1
      · rw [if_pos hc, if_pos (by omega)]
      · rw [if_neg hc, if_neg (by omega)]
def roundR (f : Nat) (l : List R) : List R := stepsR seq f ((l.length - f) / 2) l
def oetR : Nat → List R → List R
  | 0, l => l
  | t + 1, l => roundR seq (t % 2) (oetR t l)
theorem oetR_length : ∀ (t : Nat) (l : List R), (oetR seq t l).length = l.length
  | 0, _ => rfl
  | t + 1, l => by rw [oetR, roundR, stepsR_length, oetR_length t l]
theorem round_fits {f n : Nat} (hf : f ≤ 1) (hn : 0 < n) : f + 2 * ((n - f) / 2) ≤ n := by omega
theorem oet_ties (c : R) : ∀ (t : Nat) (l : List R), (oetR seq t l).filter (tie seq c) = l.filter (tie seq c)
  | 0, _ => rfl
  | t + 1, l => by
    rw [oetR, roundR]
    rcases Nat.eq_zero_or_pos (oetR seq t l).length with h0 | h0
    · rw [h0, Nat.zero_sub, Nat.zero_div]
      exact oet_ties c t l
    · rw [steps_ties seq c _ _ _ (round_fits (by omega) h0), oet_ties c t l]
theorem oet_perm : ∀ (t : Nat) (l : List R), (oetR seq t l).Perm l
  | 0, _ => List.Perm.refl _
  | t + 1, l => by
    rw [oetR, roundR]
    rcases Nat.eq_zero_or_pos (oetR seq t l).length with h0 | h0
    · rw [h0, Nat.zero_sub, Nat.zero_div]
      exact oet_perm t l
    · exact (steps_perm seq _ _ _ (round_fits (by omega) h0)).trans (oet_perm t l)
theorem oet_cnt (c : R) (l : List R) (hl : 0 < l.length) : ∀ t, cnt seq c (oetR seq t l) 0 = cnt seq c l 0 ∧ ∀ q j, j ≤ cnt seq c l 0 → q + j ≤ l.length → 2 * j + q ≤ 2 * ((cnt seq c l 0 + 1) / 2) + t → j ≤ cnt seq c (oetR seq t l) q
  | 0 => ⟨rfl, fun q j h1 h2 h3 => by
    have := cnt_zero seq c l q
    show j ≤ cnt seq c l q
    omega⟩
  | t + 1 => by
    obtain ⟨i0, ih⟩ := oet_cnt c l hl t
    have hL := oetR_length seq t l
    have hc := fun q => steps_cnt seq c (t % 2) ((l.length - t % 2) / 2) (oetR seq t l) (by rw [hL]; exact round_fits (by omega) hl) q
    have hz : cnt seq c (oetR seq (t + 1) l) 0 = cnt seq c l 0 := by
      rw [oetR, roundR, hL, hc, if_neg (by omega), i0]
    refine ⟨hz, fun q j h1 h2 h3 => ?_⟩
    rw [oetR, roundR, hL, hc]
    by_cases hq : t % 2 < q ∧ q < t % 2 + 2 * ((l.length - t % 2) / 2) ∧ (q - t % 2) % 2 = 1
    · rw [if_pos hq]
      have a1 := ih (q - 1) j h1 (by omega) (by omega)
      rcases Nat.eq_zero_or_pos j with j0 | j0
      · omega
      · have a2 := ih (q + 1) (j - 1) (by omega) (by omega) (by omega)
        omega
    · rw [if_neg hq]
      by_cases q0 : q = 0
      · rw [q0, i0]; exact h1
      · rcases Nat.eq_zero_or_pos j with j0 | j0
        · omega
        · refine ih q j h1 h2 ?_
          omega
theorem oet_sorts (l : List R) : Srt seq (oetR seq l.length l) := by
  rw [srt_iff]
  intro i hi
  rw [oetR_length] at hi
  cases hL : lead seq ((oetR seq l.length l).getD (i + 1) R0) ((oetR seq l.length l).getD i R0) with
  | false => rfl
  | true =>
    exfalso
    obtain ⟨c, hc⟩ : ∃ c, (oetR seq l.length l).getD (i + 1) R0 = c := ⟨_, rfl⟩
    rw [hc] at hL
    obtain ⟨h0, h1⟩ := oet_cnt seq c l (by omega) l.length
    have hlen := oetR_length seq l.length l
    have s0 := cnt_step seq c (l := oetR seq l.length l) (q := i) (by omega)
    have s1 := cnt_step seq c (l := oetR seq l.length l) (q := i + 1) (by omega)
    rw [hc, lead_irr] at s1
    rw [hL] at s0
    simp only [if_true, Bool.false_eq_true, if_false] at s0 s1
    have u0 := cnt_top seq c (oetR seq l.length l) i
    have u2 := cnt_le seq c (oetR seq l.length l) (i + 1 + 1)
    have v0 := cnt_le seq c l 0
    rcases Nat.le_total (cnt seq c l 0) (l.length - (i + 1)) with k | k
    · have := h1 (i + 1) (cnt seq c l 0) (Nat.le_refl _) (by omega) (by omega)
      omega
    · have := h1 (i + 1) (l.length - (i + 1)) k (by omega) (by omega)
      omega
theorem oet_is (l : List R) : oetR seq l.length l = sortR seq l :=
  stable_unique seq _ _ (oet_sorts seq l) (sortR_sorts seq l) (fun c => by rw [oet_ties, sortR_ties])
theorem sortR_perm (l : List R) : (sortR seq l).Perm l := by
  rw [← oet_is]
  exact oet_perm seq _ l
theorem Srt.take {l : List R} (h : Srt seq l) (k : Nat) : Srt seq (l.take k) := by
  rw [srt_iff] at h ⊢
  intro i hi
  have hi' : i + 1 < k ∧ i + 1 < l.length := by rw [List.length_take] at hi; omega
  have := h i hi'.2
  simp only [List.getD_eq_getElem?_getD, List.getElem?_take] at this ⊢
  rw [if_pos hi'.1, if_pos (by omega)]
  exact this
theorem Srt.drop : ∀ (k : Nat) {l : List R}, Srt seq l → Srt seq (l.drop k)
  | 0, _, h => h
  | _ + 1, [], _ => trivial
  | k + 1, _ :: l, h => Srt.drop k (l := l) h.tail
theorem Srt.two {l : List R} (h : Srt seq l) {i j : Nat} (hij : i ≤ j) (hj : j < l.length) : lead seq (l.getD j R0) (l.getD i R0) = false := by
  rw [srt_iff] at h
  obtain ⟨k, rfl⟩ : ∃ k, j = i + k := ⟨j - i, by omega⟩
  clear hij
  induction k with
  | zero => exact lead_irr seq _
  | succ k ih => exact lead_neg seq (h (i + k) (by omega)) (ih (by omega))
end
end Go.Proofs.YtlinmcgmkpkpaaaDoor.Mg
