/-
  Values that are slices and read as texts: no program here. No conditions beyond those stated.
-/
import Derived.Test.YtebkicikpeicmaaDoorVals
namespace Go.Proofs.YtebkicikpeicmaaDoor.Sha
open Go.RowKit Go.Proofs.YtebkicikpeicmaaDoor.Mem
set_option linter.unusedVariables false

/-- the values vs are slices that read as the texts xss -/
def Texts (w : World) (B : Nat) (vs : List Value) (xss : List (List Int)) : Prop :=
  vs.length = xss.length ∧ ∀ i, i < vs.length → ∃ A n c, vs.getD i undef = .slice A n c ∧ n ≤ c ∧ c ≤ maxLen ∧ Ints w .u8 B A n (xss.getD i [])
section
variable {w w' : World} {B B' : Nat} {vs us : List Value} {xss yss : List (List Int)}
theorem Texts.below (h : Texts w B vs xss) (hb : Below B w w') : Texts w' B vs xss := ⟨h.1, fun i hi => by obtain ⟨A, n, c, e, h1, h2, hh⟩ := h.2 i hi; exact ⟨A, n, c, e, h1, h2, hh.below hb⟩⟩
theorem Texts.more (h : Texts w B vs xss) (hB : B ≤ B') : Texts w B' vs xss := ⟨h.1, fun i hi => by obtain ⟨A, n, c, e, h1, h2, hh⟩ := h.2 i hi; exact ⟨A, n, c, e, h1, h2, hh.more hB⟩⟩
theorem Texts.keep (h : Texts w B vs xss) (hk : ∀ p : Addr, p.block < B → w'.cell? p = w.cell? p) : Texts w' B vs xss := ⟨h.1, fun i hi => by obtain ⟨A, n, c, e, h1, h2, hh⟩ := h.2 i hi; exact ⟨A, n, c, e, h1, h2, hh.keep hk⟩⟩
theorem Texts.nil (w : World) (B : Nat) : Texts w B [] [] := ⟨rfl, fun i hi => by simp at hi⟩
theorem Texts.append (h : Texts w B vs xss) (k : Texts w B us yss) : Texts w B (vs ++ us) (xss ++ yss) := by
  refine ⟨by simp [h.1, k.1], fun i hi => ?_⟩
  by_cases q : i < vs.length
  · have := h.2 i q
    simp only [List.getD_eq_getElem?_getD] at this ⊢
    rw [List.getElem?_append_left q, List.getElem?_append_left (by rw [← h.1]; exact q)]
    exact this
  · rw [List.length_append] at hi
    have := k.2 (i - vs.length) (by omega)
    simp only [List.getD_eq_getElem?_getD] at this ⊢
    rw [List.getElem?_append_right (by omega), List.getElem?_append_right (by rw [← h.1]; omega), ← h.1]
    exact this
theorem Texts.one {A : Option Addr} {n c : Nat} {xs : List Int} (h : Ints w .u8 B A n xs) (h1 : n ≤ c) (h2 : c ≤ maxLen) : Texts w B [.slice A n c] [xs] :=
  ⟨rfl, fun i hi => by
    have : i = 0 := by simpa using hi
    subst this
    exact ⟨A, n, c, rfl, h1, h2, h⟩⟩
theorem Texts.one_cell (h : Texts w B vs xss) : ∀ v ∈ vs, v.oneCell' = true := fun v hv => by
  obtain ⟨i, hi, rfl⟩ := List.mem_iff_getElem.1 hv
  obtain ⟨A, n, c, e, _⟩ := h.2 i hi
  rw [List.getD_eq_getElem?_getD, List.getElem?_eq_getElem hi] at e
  simp only [Option.getD_some] at e
  rw [e]; rfl
end

theorem flat_take (xss : List (List Int)) {k : Nat} (h : k < xss.length) : (xss.take (k + 1)).flatten.length = (xss.take k).flatten.length + (xss.getD k []).length := by
  rw [List.take_add_one, List.getElem?_eq_getElem h, List.flatten_append, List.length_append]
  simp [List.getD_eq_getElem?_getD, h]
theorem flat_le (xss : List (List Int)) (k : Nat) : (xss.take k).flatten.length ≤ xss.flatten.length := by
  have := congrArg List.length (congrArg List.flatten (List.take_append_drop k xss))
  rw [List.flatten_append, List.length_append] at this
  omega

theorem flat_get : ∀ (yss : List (List Int)) (k : Nat), k < yss.length → yss.getD k [] = (yss.flatten.drop (yss.take k).flatten.length).take (yss.getD k []).length
  | [], k, h => by simp at h
  | ys :: yss, 0, _ => by simp
  | ys :: yss, k + 1, h => by
    have := flat_get yss k (by simpa using h)
    simp only [List.getD_cons_succ, List.take_succ_cons, List.flatten_cons, List.length_append] at this ⊢
    rw [List.drop_append, List.drop_of_length_le (by omega), List.nil_append]
    have e : ys.length + (yss.take k).flatten.length - ys.length = (yss.take k).flatten.length := by omega
    rw [e]
    exact this
def lenV : Value → Nat
  | .slice _ n _ => n
  | _ => 0

end Go.Proofs.YtebkicikpeicmaaDoor.Sha

