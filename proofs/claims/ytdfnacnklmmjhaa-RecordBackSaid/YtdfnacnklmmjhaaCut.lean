/-
  Slices cut: s[:h] and s[l:] by their run, and what they read as. No program here. No conditions beyond those stated.
-/
import Derived.Test.YtdfnacnklmmjhaaOwn
import Derived.Laws.Slices
namespace Go.Proofs.Ytdfnacnklmmjhaa.Mem
open Go.RowKit
set_option linter.unusedVariables false

/-- an address without a spot, if there is room behind it -/
def Flat (A : Option Addr) (cap : Nat) : Prop := cap = 0 ∨ A = none ∨ ∃ b off, A = some ⟨b, off, none⟩
theorem Flat.head (b off cap : Nat) : Flat (some ⟨b, off, none⟩) cap := .inr (.inr ⟨b, off, rfl⟩)

section
variable {P : Program} {t e : TypeId} {A : Option Addr} {n cap : Nat}
theorem run_front (ht : P.underlying t = some (.slice e)) (hs : (P.info? e).map (·.size) = some 1) (hf : Flat A cap) {h : Nat} (hh : h ≤ cap) (w : World) :
    (Instr.sliceAt t (.slice A n cap) none (some (.int .i64 (h : Int))) none).run P w = .ok (.slice A h cap) w := by
  have he : P.elem t = e := by simp [Program.elem, ht]
  have ht' : P.underlying t = some (.slice (P.elem t)) := by rw [he]; exact ht
  obtain ⟨inf, hi, h1⟩ := Option.map_eq_some_iff.1 hs
  rw [run_sliceAt_slice w t _ _ _ _ ht', run_slice_h w t A n cap ht' .i64 _ (by omega) (by omega), he]
  have hz : (sizeOf e).run P w = .ok 1 w := by simp [sizeOf, typeInfo, hi, h1]
  rw [hz]
  simp only [Result.andThen, sliced, Nat.mul_one, Nat.sub_zero, Int.toNat_natCast]
  congr 2
  split
  · rfl
  · rcases hf with h0 | rfl | ⟨b, off, rfl⟩
    · exact absurd h0 ‹_›
    · rfl
    · simp [Addr.add]
theorem run_back (ht : P.underlying t = some (.slice e)) (hs : (P.info? e).map (·.size) = some 1) (hf : Flat A cap) (hc : n ≤ cap) {l : Nat} (hl : l ≤ n) {wi : World} {k : IntKind} {B : Nat} {zs : List Int} (h : Ints wi k B A n zs) :
    ∃ A', (∀ w, (Instr.sliceAt t (.slice A n cap) (some (.int .i64 (l : Int))) none none).run P w = .ok (.slice A' (n - l) (cap - l)) w) ∧ Flat A' (cap - l) ∧ Ints wi k B A' (n - l) (zs.drop l) := by
  have he : P.elem t = e := by simp [Program.elem, ht]
  have ht' : P.underlying t = some (.slice (P.elem t)) := by rw [he]; exact ht
  obtain ⟨inf, hi, h1⟩ := Option.map_eq_some_iff.1 hs
  refine ⟨if cap = l then A else A.map (·.add l), fun w => ?_, ?_, ?_⟩
  · rw [run_sliceAt_slice w t _ _ _ _ ht', run_slice_l w t A n cap ht' .i64 _ (by omega) (by omega), he]
    have hz : (sizeOf e).run P w = .ok 1 w := by simp [sizeOf, typeInfo, hi, h1]
    rw [hz]
    simp only [Result.andThen, sliced, Nat.mul_one, Int.toNat_natCast]
  · by_cases q : cap = l
    · exact .inl (by omega)
    · rw [if_neg q]
      rcases hf with h0 | rfl | ⟨b, off, rfl⟩
      · omega
      · exact .inr (.inl rfl)
      · exact .inr (.inr ⟨b, off + l, by simp [Addr.add]⟩)
  · refine ⟨by rw [List.length_drop, h.1], fun z hz => h.2.1 z (List.mem_of_mem_drop hz), fun h0 => ?_⟩
    obtain ⟨b, off, rfl, hb, hcell⟩ := h.2.2 (by omega)
    rw [if_neg (by omega)]
    refine ⟨b, off + l, by simp [Addr.add], hb, fun i hi => ?_⟩
    have := hcell (l + i) (by omega)
    rw [← Nat.add_assoc] at this
    rw [this]
    simp [List.getD_eq_getElem?_getD, List.getElem?_drop]
end
theorem Ints.front {w : World} {k : IntKind} {B n h : Nat} {A : Option Addr} {zs : List Int} (hi : Ints w k B A n zs) (hh : h ≤ n) : Ints w k B A h (zs.take h) := by
  refine ⟨by rw [List.length_take, hi.1]; omega, fun z hz => hi.2.1 z (List.mem_of_mem_take hz), fun h0 => ?_⟩
  obtain ⟨b, off, rfl, hb, hc⟩ := hi.2.2 (by omega)
  refine ⟨b, off, rfl, hb, fun i hi' => ?_⟩
  rw [hc i (by omega)]
  simp [List.getD_eq_getElem?_getD, hi']
theorem Own.flat {w : World} {base : Nat} {t : TypeId} {k : IntKind} {A : Option Addr} {n c : Nat} {zs : List Int} (h : Own w base t k (.slice A n c) zs) : Flat A c := by
  rcases h.2.2 with ⟨hv, _⟩ | ⟨g, cap, cur, hv, _⟩
  · injection hv with e1; exact .inr (.inl e1)
  · injection hv with e1; exact .inr (.inr ⟨g, 0, e1⟩)
/-- what the frame of a proof says of a slice that came in, as 'Flat' -/
theorem flat_of_row {kd : IntKind} {w : World} {a : Option Addr} {len cap : Nat} {zs : List Int}
    (h : (a = none ∧ len = 0 ∧ cap = 0 ∧ zs = []) ∨
      ∃ x, a = some x ∧ len ≤ cap ∧ cap ≤ maxLen ∧ zs.length = cap ∧ (∀ i, i < zs.length → w.cell? (x.add i) = some (.int kd (zs.getD i 0))) ∧ ∀ n ∈ zs, (Lit.int kd n).wf = true) : Flat a cap := by
  rcases h with ⟨rfl, rfl, rfl, rfl⟩ | ⟨x, rfl, hl, hm, hz, hc, hw⟩
  · exact .inl rfl
  · rcases Nat.eq_zero_or_pos cap with h0 | h0
    · exact .inl h0
    · obtain ⟨b, off, spot⟩ := x
      have h0 := hc 0 (by omega)
      have hspot : spot = none := by simpa [Addr.add] using World.cell?_spot h0
      subst hspot
      exact .inr (.inr ⟨b, off, rfl⟩)
end Go.Proofs.Ytdfnacnklmmjhaa.Mem

