/-
  What the frame of a proof says of a list of texts that came in: a slice of slices that read as lists of bytes. No conditions beyond those stated.
-/
import Derived.Test.YtebkicikpeicmaaDoorTextsA
import Derived.Test.YtebkicikpeicmaaDoorSum
import Derived.Deep.Matrix
namespace Go.Proofs.YtebkicikpeicmaaDoor.Sha
open Go.RowKit Go.Proofs.YtebkicikpeicmaaDoor.Mem Go.Proofs.YtebkicikpeicmaaDoor.Sum Go.ChangeShapes Go.WideShapes
set_option linter.unusedVariables false

theorem vals_of_cells {w : World} {a : Addr} {m : Nat} (V : Nat → Value) (h1 : ∀ r, r < m → (V r).oneCell' = true) (h : ∀ r, r < m → w.cell? (a.add r) = some (V r)) :
    Vals w w.heap.size (some a) m ((List.range m).map V) := by
  refine ⟨by simp, fun v hv => ?_, fun hn => ?_⟩
  · obtain ⟨r, hr, rfl⟩ := List.mem_map.1 hv
    exact h1 r (List.mem_range.1 hr)
  · obtain ⟨b, off, spot⟩ := a
    have h0 := h 0 hn
    have hspot : spot = none := by simpa [Addr.add] using World.cell?_spot h0
    subst hspot
    have hlt : b < w.heap.size := by simpa [Addr.add] using World.block_lt_of_cell? w _ h0
    refine ⟨b, off, rfl, hlt, fun i hi => ?_⟩
    have := h i hi
    have e : (Addr.mk b off none).add i = ⟨b, off + i, none⟩ := by unfold Addr.add; split <;> simp_all
    rw [e] at this
    rw [this]
    simp [List.getD_eq_getElem?_getD, hi]

theorem open_texts {H : Type} {enc : TypeId × Value → H} {P : Program} {w : World} {base : Nat} {held : Bool} {t e q : TypeId} {A : Option Addr} {m c : Nat} {d : DataW H} {p : List MemPlace}
    (ht : P.underlying t = some (.slice e)) (he : P.underlying e = some (.slice q)) (hq : P.underlying q = some (.int .u8)) (ce : P.cellsOf e = 1) (cq : P.cellsOf q = 1)
    (h : DataW.Trod enc P w base (fun _ => true) held t (.slice A m c) d p) : ∃ vs xss, Vals w w.heap.size A m vs ∧ Texts w w.heap.size vs xss := by
  obtain ⟨fuel, hf⟩ := h
  rcases Deep.open_int_rows ht he hq ce cq hf with ⟨hcs, _⟩ | ⟨a, len, cap, A', L, C, Z, hcs, _, hl, hm, _, hx⟩
  · simp [Value.cells] at hcs
    obtain ⟨rfl, rfl, rfl⟩ := hcs
    exact ⟨[], [], Vals.nil _ _ _, Texts.nil _ _⟩
  · simp [Value.cells] at hcs
    obtain ⟨rfl, rfl, rfl⟩ := hcs
    refine ⟨(List.range m).map fun r => .slice (A' r) (L r) (C r), (List.range m).map fun r => (Z r).take (L r), vals_of_cells _ (fun _ _ => rfl) (fun r hr => (hx r (by omega)).1), by simp, fun i hi => ?_⟩
    have hi' : i < m := by simpa using hi
    obtain ⟨_, r1, r2, r3, r4, r5, r6⟩ := hx i (by omega)
    refine ⟨A' i, L i, C i, by simp [List.getD_eq_getElem?_getD, hi'], r1, r2, ?_⟩
    have e : ((List.range m).map fun r => (Z r).take (L r)).getD i [] = (Z i).take (L i) := by simp [List.getD_eq_getElem?_getD, hi']
    rw [e]
    refine (ints_of_row (cap := C i) ?_).1
    cases hA : A' i with
    | none => have := r5 hA; exact .inl ⟨rfl, by omega, this, List.eq_nil_of_length_eq_zero (by omega)⟩
    | some x => exact .inr ⟨x, rfl, r1, r2, r3, fun j hj => (r6 x hA).2 j (by omega), r4⟩

theorem Texts.bs {w : World} {B : Nat} {vs : List Value} {xss : List (List Int)} (h : Texts w B vs xss) : Bs xss.flatten := fun z hz => by
  obtain ⟨xs, hxs, hz⟩ := List.mem_flatten.1 hz
  obtain ⟨i, hi, rfl⟩ := List.mem_iff_getElem.1 hxs
  obtain ⟨A, n, c, _, _, _, hh⟩ := h.2 i (by rw [h.1]; exact hi)
  have e : xss.getD i [] = xss[i] := by simp [List.getD_eq_getElem?_getD, hi]
  rw [e] at hh
  exact wf_u8 (hh.2.1 z hz)
theorem flat_succ (xss : List (List Int)) {k : Nat} (h : k < xss.length) : (xss.take (k + 1)).flatten = (xss.take k).flatten ++ xss.getD k [] := by
  rw [List.take_add_one, List.getElem?_eq_getElem h, List.flatten_append]
  simp [List.getD_eq_getElem?_getD, h]
end Go.Proofs.YtebkicikpeicmaaDoor.Sha

