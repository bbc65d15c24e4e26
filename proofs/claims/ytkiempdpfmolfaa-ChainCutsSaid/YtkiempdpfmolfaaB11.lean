/-
  What the frame of a proof says of a program, a pair, a list of truths that came in.
  What the frame of a proof says of a list of records that came in.
-/
import Derived.Test.YtkiempdpfmolfaaB5
import Derived.Test.YtkiempdpfmolfaaB3
import Derived.WideShapes
import Derived.ChangeArms
set_option linter.unusedVariables false
namespace Go.Proofs.Ytkiempdpfmolfaa.Vm
open Go.RowKit Go.ChangeShapes Go.WideShapes Mem Rc Sl
def kB : St Bool := ⟨1, fun b => [.bool b], fun _ => True, false, fun _ => rfl, fun _ u hu => by rw [List.mem_singleton.1 hu]; rfl, by omega⟩
section
variable {H : Type} {enc : TypeId × Value → H} {w : World} {base : Nat} {held : Bool}
theorem cells_some {a : Addr} {cs : List Value} {n : Nat} (h : w.cells? base a n = some cs) : cs.length = n ∧ ∀ j, j < n → w.cell? (a.add j) = cs[j]? := by
  obtain ⟨h1, h2, h3⟩ := World.cells?_some h
  exact ⟨h2, h3⟩
theorem open_lst {α : Type} {k : St α} {t e : TypeId} (ht : Try.prog.underlying t = some (.slice e)) (hc : Try.prog.cellsOf e = k.s)
    (one : ∀ (n : Nat) (cs : List Value) (x : DataW H × List MemPlace), DataW.trod enc Try.prog w base (fun _ => true) held n e cs = some x → ∃ r : α, cs = k.cells r ∧ k.wf r)
    {fuel : Nat} {cs : List Value} {x : DataW H × List MemPlace} (hf : DataW.trod enc Try.prog w base (fun _ => true) held fuel t cs = some x) :
    ∃ (A : Option Addr) (m c : Nat) (xs : List α), cs = [.slice A m c] ∧ Lst k w w.heap.size A m xs ∧ m ≤ c ∧ c ≤ maxLen := by
  rcases DataW.trod_slice ht hf with ⟨hcs, _⟩ | ⟨a, len, cap, elems, rest, n, _, hcs, _, hb, hl, hm, hlen, hel, _, _⟩
  · exact ⟨none, 0, 0, [], hcs, Lst.nil _ _ _ _, Nat.le_refl _, by simp [maxLen]⟩
  · have each : ∀ i, i < len → ∃ r : α, k.wf r ∧ ∀ j, j < k.s → w.cell? ((a.add (i * k.s)).add j) = (k.cells r)[j]? := fun i hi => by
      have hi' : i < elems.length := by rw [hlen]; exact hi
      have e := hel i hi
      rw [hc, List.getElem?_eq_getElem hi', Option.bind_eq_some_iff] at e
      obtain ⟨cs, hc, ht⟩ := e
      obtain ⟨r, rfl, hw⟩ := one _ _ _ ht
      exact ⟨r, hw, (cells_some hc).2⟩
    have hch : ∃ F : Nat → α, ∀ i, i < len → k.wf (F i) ∧ ∀ j, j < k.s → w.cell? ((a.add (i * k.s)).add j) = (k.cells (F i))[j]? :=
      ⟨fun i => if h : i < len then Classical.choose (each i h) else k.d, fun i hi => by
        have := Classical.choose_spec (each i hi)
        simp only [hi, dif_pos]
        exact this⟩
    obtain ⟨F, hF⟩ := hch
    refine ⟨some a, len, cap, (List.range len).map F, hcs, ⟨by simp, fun r hr => ?_, fun h0 => ?_⟩, hl, hm⟩
    · obtain ⟨i, hi, rfl⟩ := List.mem_map.1 hr
      exact (hF i (List.mem_range.1 hi)).1
    · have h00 := (hF 0 h0).2 0 k.pos
      have hk0 : 0 < (k.cells (F 0)).length := by rw [k.len]; exact k.pos
      rw [List.getElem?_eq_getElem hk0, Nat.zero_mul] at h00
      obtain ⟨u0, h00⟩ : ∃ u, w.cell? a = some u := ⟨_, by simpa [Addr.add] using h00⟩
      obtain ⟨b, off, spot⟩ := a
      have hspot : spot = none := by simpa [Addr.add] using World.cell?_spot h00
      subst hspot
      have hlt : b < w.heap.size := by simpa [Addr.add] using World.block_lt_of_cell? w _ h00
      have ea : ∀ o j : Nat, (Addr.mk b o none).add j = ⟨b, o + j, none⟩ := fun o j => by unfold Addr.add; split <;> simp_all
      refine ⟨b, off, rfl, hlt, fun q v hv => ?_⟩
      have hq := (List.getElem?_eq_some_iff.1 hv).1
      rw [flat_length] at hq
      simp only [List.length_map, List.length_range] at hq
      have hq1 : q / k.s < len := Nat.div_lt_of_lt_mul (by rw [Nat.mul_comm]; exact hq)
      have hq2 := Nat.mod_lt q k.pos
      have hq3 : q / k.s * k.s + q % k.s = q := by rw [Nat.mul_comm]; exact Nat.div_add_mod q k.s
      have hv' := hv
      have h4 := flat_at (k := k) ((List.range len).map F) (q / k.s) (q % k.s) hq2 (by simpa using hq1)
      rw [hq3] at h4
      rw [h4] at hv'
      have hg : ((List.range len).map F).getD (q / k.s) k.d = F (q / k.s) := by
        rw [List.getD_eq_getElem?_getD, List.getElem?_map, List.getElem?_range hq1]
        rfl
      rw [hg, ← (hF (q / k.s) hq1).2 (q % k.s) hq2, ea, ea, Nat.add_assoc, hq3] at hv'
      exact hv'
theorem op_fields : ∃ f0 f1 f2 f3 f4 f5 : Field, Try.prog.underlying 50 = some (.struct #[f0, f1, f2, f3, f4, f5]) ∧ (f0.offset = 0 ∧ f0.type = 3) ∧ (f1.offset = 1 ∧ f1.type = 3) ∧ (f2.offset = 2 ∧ f2.type = 3) ∧ (f3.offset = 3 ∧ f3.type = 3) ∧ (f4.offset = 4 ∧ f4.type = 3) ∧ (f5.offset = 5 ∧ f5.type = 2) :=
  ⟨_, _, _, _, _, _, Try.underlying50, ⟨rfl, rfl⟩, ⟨rfl, rfl⟩, ⟨rfl, rfl⟩, ⟨rfl, rfl⟩, ⟨rfl, rfl⟩, ⟨rfl, rfl⟩⟩
theorem open_op (n : Nat) (cs : List Value) (x : DataW H × List MemPlace) (h : DataW.trod enc Try.prog w base (fun _ => true) held n 50 cs = some x) : ∃ o : O, cs = kO.cells o ∧ kO.wf o := by
  obtain ⟨f0, f1, f2, f3, f4, f5, hu, ⟨o0, t0⟩, ⟨o1, t1⟩, ⟨o2, t2⟩, ⟨o3, t3⟩, ⟨o4, t4⟩, ⟨o5, t5⟩⟩ := op_fields
  obtain ⟨xs, m, _, _, hl, hxl, hel⟩ := DataW.trod_struct hu h
  have ci : Try.prog.cellsOf 3 = 1 := by kernel_rfl
  have c6 : Try.prog.cellsOf 2 = 1 := by kernel_rfl
  have cc : Try.prog.cellsOf 50 = 6 := by kernel_rfl
  rw [cc] at hl
  have hx6 : xs.length = 6 := hxl
  have e0 := hel 0 f0 rfl
  have e1 := hel 1 f1 rfl
  have e2 := hel 2 f2 rfl
  have e3 := hel 3 f3 rfl
  have e4 := hel 4 f4 rfl
  have e5 := hel 5 f5 rfl
  rw [o0, t0, ci] at e0
  rw [o1, t1, ci] at e1
  rw [o2, t2, ci] at e2
  rw [o3, t3, ci] at e3
  rw [o4, t4, ci] at e4
  rw [o5, t5, c6] at e5
  obtain ⟨z0, q0, w0⟩ := field_int (by omega) Try.underlying3 e0 (by simp [hx6])
  obtain ⟨z1, q1, w1⟩ := field_int (by omega) Try.underlying3 e1 (by simp [hx6])
  obtain ⟨z2, q2, w2⟩ := field_int (by omega) Try.underlying3 e2 (by simp [hx6])
  obtain ⟨z3, q3, w3⟩ := field_int (by omega) Try.underlying3 e3 (by simp [hx6])
  obtain ⟨z4, q4, w4⟩ := field_int (by omega) Try.underlying3 e4 (by simp [hx6])
  obtain ⟨z5, q5, w5⟩ := field_int (by omega) Try.underlying2 e5 (by simp [hx6])
  refine ⟨⟨z0, z1, z2, z3, z4, z5⟩, ?_, w0, w1, w2, w3, w4, w5⟩
  apply List.ext_getElem?
  intro i
  match i with
  | 0 => exact q0
  | 1 => exact q1
  | 2 => exact q2
  | 3 => exact q3
  | 4 => exact q4
  | 5 => exact q5
  | i + 6 => rw [List.getElem?_eq_none (by omega), List.getElem?_eq_none (by simp [kO, O.cells])]
theorem prog_fields : ∃ f0 f1 f2 f3 : Field, Try.prog.underlying 24 = some (.struct #[f0, f1, f2, f3]) ∧ (f0.offset = 0 ∧ f0.type = 3) ∧ (f1.offset = 1 ∧ f1.type = 22) ∧ (f2.offset = 2 ∧ f2.type = 22) ∧ (f3.offset = 3 ∧ f3.type = 22) :=
  ⟨_, _, _, _, Try.underlying24, ⟨rfl, rfl⟩, ⟨rfl, rfl⟩, ⟨rfl, rfl⟩, ⟨rfl, rfl⟩⟩
theorem field_ops {cs : List Value} {j n : Nat} {x : Option (DataW H × List MemPlace)} (hj : j < cs.length) (h : DataW.trod enc Try.prog w base (fun _ => true) held n 22 ((cs.drop j).take 1) = x) (hx : x.isSome = true) : ∃ (A : Option Addr) (m c : Nat) (xs : List O), cs[j]? = some (.slice A m c) ∧ Lst kO w w.heap.size A m xs ∧ m ≤ c ∧ c ≤ maxLen := by
  obtain ⟨y, rfl⟩ := Option.isSome_iff_exists.1 hx
  obtain ⟨A, m, c, xs, h2, h3⟩ := open_lst (k := kO) Try.underlying22 (by kernel_rfl) open_op h
  rw [List.drop_eq_getElem_cons hj] at h2
  simp only [List.take_succ_cons, List.take_zero] at h2
  exact ⟨A, m, c, xs, by rw [List.getElem?_eq_getElem hj, (List.cons.inj h2).1], h3⟩
set_option maxRecDepth 100000 in
theorem open_prog {r : Reach} {b0 : Nat} {v : Value} {d : DataW H} {p : List MemPlace} (hval : Value.okWide Try.prog w r b0 24 v) (h : DataW.Trod enc Try.prog w base (fun _ => true) held 24 v d p) :
    ∃ (K : Int) (A1 : Option Addr) (n1 c1 : Nat) (x1 : List O) (A2 : Option Addr) (n2 c2 : Nat) (x2 : List O) (A3 : Option Addr) (n3 c3 : Nat) (x3 : List O), v = .agg #[.int .i64 K, .slice A1 n1 c1, .slice A2 n2 c2, .slice A3 n3 c3] ∧ (Lit.int .i64 K).wf = true ∧
      (Lst kO w w.heap.size A1 n1 x1 ∧ n1 ≤ c1 ∧ c1 ≤ maxLen) ∧ (Lst kO w w.heap.size A2 n2 x2 ∧ n2 ≤ c2 ∧ c2 ≤ maxLen) ∧ (Lst kO w w.heap.size A3 n3 x3 ∧ n3 ≤ c3 ∧ c3 ≤ maxLen) := by
  obtain ⟨f0, f1, f2, f3, hu, ⟨o0, t0⟩, ⟨o1, t1⟩, ⟨o2, t2⟩, ⟨o3, t3⟩⟩ := prog_fields
  obtain ⟨cs, rfl, hsz⟩ := okWide_struct hu hval
  obtain ⟨fuel, hf⟩ := h
  simp only [Value.cells] at hf
  obtain ⟨xs, m, _, _, hl, hxl, hel⟩ := DataW.trod_struct hu hf
  have ci : Try.prog.cellsOf 3 = 1 := by kernel_rfl
  have cs1 : Try.prog.cellsOf 22 = 1 := by kernel_rfl
  have cc : Try.prog.cellsOf 24 = 4 := by kernel_rfl
  rw [cc] at hl
  have hx4 : xs.length = 4 := hxl
  have e0 := hel 0 f0 rfl
  have e1 := hel 1 f1 rfl
  have e2 := hel 2 f2 rfl
  have e3 := hel 3 f3 rfl
  rw [o0, t0, ci] at e0
  rw [o1, t1, cs1] at e1
  rw [o2, t2, cs1] at e2
  rw [o3, t3, cs1] at e3
  obtain ⟨z0, q0, w0⟩ := field_int (by omega) Try.underlying3 e0 (by simp [hx4])
  obtain ⟨A1, n1, c1, x1, q1, k1⟩ := field_ops (by omega) e1 (by simp [hx4])
  obtain ⟨A2, n2, c2, x2, q2, k2⟩ := field_ops (by omega) e2 (by simp [hx4])
  obtain ⟨A3, n3, c3, x3, q3, k3⟩ := field_ops (by omega) e3 (by simp [hx4])
  refine ⟨z0, A1, n1, c1, x1, A2, n2, c2, x2, A3, n3, c3, x3, ?_, w0, k1, k2, k3⟩
  congr 1
  apply Array.ext'
  apply List.ext_getElem?
  intro i
  match i with
  | 0 => exact q0
  | 1 => exact q1
  | 2 => exact q2
  | 3 => exact q3
  | i + 4 => rw [List.getElem?_eq_none (by omega), List.getElem?_eq_none (by simp)]
end
end Go.Proofs.Ytkiempdpfmolfaa.Vm
namespace Go.Proofs.Ytkiempdpfmolfaa.Rs
open Go.RowKit Go.ChangeShapes Go.WideShapes Mem Rc
theorem cells_four {w : World} {base : Nat} {a : Addr} {cs : List Value} (h : w.cells? base a 4 = some cs) : cs.length = 4 ∧ ∀ j, j < 4 → w.cell? (a.add j) = cs[j]? := by
  obtain ⟨h1, h2, h3⟩ := World.cells?_some h
  exact ⟨h2, h3⟩
section
variable {H : Type} {enc : TypeId × Value → H} {w : World} {base : Nat} {held : Bool}
theorem open_one {n : Nat} {cs : List Value} {x : DataW H × List MemPlace} (h : DataW.trod enc Try.prog w base (fun _ => true) held n 26 cs = some x) : ∃ r : R, cs = r.cells ∧ r.wf := by
  obtain ⟨f0, f1, f2, f3, hu, ⟨o0, t0⟩, ⟨o1, t1⟩, ⟨o2, t2⟩, ⟨o3, t3⟩⟩ := rec_fields
  obtain ⟨xs, m, _, _, hl, hxl, hel⟩ := DataW.trod_struct hu h
  have cb : Try.prog.cellsOf 4 = 1 := by kernel_rfl
  have ci : Try.prog.cellsOf 2 = 1 := by kernel_rfl
  have c4 : Try.prog.cellsOf 26 = 4 := by kernel_rfl
  rw [c4] at hl
  have hx4 : xs.length = 4 := hxl
  have e0 := hel 0 f0 rfl
  have e1 := hel 1 f1 rfl
  have e2 := hel 2 f2 rfl
  have e3 := hel 3 f3 rfl
  rw [o0, t0, cb] at e0
  rw [o1, t1, ci] at e1
  rw [o2, t2, ci] at e2
  rw [o3, t3, ci] at e3
  obtain ⟨z0, q0⟩ := field_bool (by omega) Try.underlying4 e0 (by simp [hx4])
  obtain ⟨z1, q1, w1⟩ := field_int (by omega) Try.underlying2 e1 (by simp [hx4])
  obtain ⟨z2, q2, w2⟩ := field_int (by omega) Try.underlying2 e2 (by simp [hx4])
  obtain ⟨z3, q3, w3⟩ := field_int (by omega) Try.underlying2 e3 (by simp [hx4])
  refine ⟨⟨z0, z1, z2, z3⟩, ?_, w1, w2, w3⟩
  apply List.ext_getElem?
  intro i
  match i with
  | 0 => exact q0
  | 1 => exact q1
  | 2 => exact q2
  | 3 => exact q3
  | i + 4 => rw [List.getElem?_eq_none (by omega), List.getElem?_eq_none (by simp [R.cells])]
set_option maxRecDepth 100000 in
theorem open_recs {A : Option Addr} {m c : Nat} {d : DataW H} {p : List MemPlace} (h : DataW.Trod enc Try.prog w base (fun _ => true) held 27 (.slice A m c) d p) : ∃ rs, Recs w w.heap.size A m rs ∧ m ≤ c ∧ c ≤ maxLen := by
  obtain ⟨fuel, hf⟩ := h
  simp only [Value.cells] at hf
  rcases DataW.trod_slice Try.underlying27 hf with ⟨hcs, _⟩ | ⟨a, len, cap, elems, rest, n, _, hcs, _, hb, hl, hm, hlen, hel, _, _⟩
  · simp at hcs
    obtain ⟨rfl, rfl, rfl⟩ := hcs
    exact ⟨[], Recs.nil _ _ _, Nat.le_refl _, by simp [maxLen]⟩
  · simp at hcs
    obtain ⟨rfl, rfl, rfl⟩ := hcs
    have c4 : Try.prog.cellsOf 26 = 4 := by kernel_rfl
    have each : ∀ i, i < m → ∃ r : R, r.wf ∧ ∀ j, j < 4 → w.cell? ((a.add (i * 4)).add j) = r.cells[j]? := fun i hi => by
      have hi' : i < elems.length := by rw [hlen]; exact hi
      have e := hel i hi
      rw [c4, List.getElem?_eq_getElem hi', Option.bind_eq_some_iff] at e
      obtain ⟨cs, hc, ht⟩ := e
      obtain ⟨r, rfl, hw⟩ := open_one ht
      exact ⟨r, hw, (cells_four hc).2⟩
    have hch : ∃ F : Nat → R, ∀ i, i < m → (F i).wf ∧ ∀ j, j < 4 → w.cell? ((a.add (i * 4)).add j) = (F i).cells[j]? :=
      ⟨fun i => if h : i < m then Classical.choose (each i h) else R0, fun i hi => by
        have := Classical.choose_spec (each i hi)
        simp only [hi, dif_pos]
        exact this⟩
    obtain ⟨F, hF⟩ := hch
    refine ⟨(List.range m).map F, ⟨by simp, fun r hr => ?_, fun h0 => ?_⟩, hl, hm⟩
    · obtain ⟨i, hi, rfl⟩ := List.mem_map.1 hr
      exact (hF i (List.mem_range.1 hi)).1
    · have h00 := (hF 0 h0).2 0 (by omega)
      have hsome : ∃ u, w.cell? (a.add 0) = some u := ⟨_, by simpa [R.cells, Addr.add] using h00⟩
      obtain ⟨u, hu⟩ := hsome
      obtain ⟨b, off, spot⟩ := a
      have hspot : spot = none := by simpa [Addr.add] using World.cell?_spot hu
      subst hspot
      have hlt : b < w.heap.size := by simpa [Addr.add] using World.block_lt_of_cell? w _ hu
      have ea : ∀ o j : Nat, (Addr.mk b o none).add j = ⟨b, o + j, none⟩ := fun o j => by unfold Addr.add; split <;> simp_all
      refine ⟨b, off, rfl, hlt, fun q v hv => ?_⟩
      have hq := (List.getElem?_eq_some_iff.1 hv).1
      rw [flat_length] at hq
      simp only [List.length_map, List.length_range] at hq
      have hv' := hv
      rw [show q = q / 4 * 4 + q % 4 by omega, flat_at _ (q / 4) (q % 4) (by omega) (by simp; omega)] at hv'
      have hg : ((List.range m).map F).getD (q / 4) R0 = F (q / 4) := by
        rw [List.getD_eq_getElem?_getD, List.getElem?_map, List.getElem?_range (by omega)]
        rfl
      rw [hg, ← (hF (q / 4) (by omega)).2 (q % 4) (by omega), ea, ea, Nat.add_assoc, show q / 4 * 4 + q % 4 = q by omega] at hv'
      exact hv'
end
end Go.Proofs.Ytkiempdpfmolfaa.Rs
