/-
  Plain facts about the bits of unsigned numbers: no program here.
  The functions of package ct, each by its contract: what it returns for any numbers.
  A bitonic network as a plain function on places; that behind all its stages all places rise (stages_rise); and that a round, done pair by pair in one list, is the network's step (round_is): no program here.
  Words for slices of numbers in memory, and small facts about them: no program here.
  The rounds of a network as plain numbers: how many places it has, which stage and step a round is, which pairs are up; what the bits of a place are: no program here.
  Slices that a call itself has made: what they hold, what append and a store make of them: no program here.
  Arrays of numbers, in blocks of their own and by value: no program here.
  Two arrays of the same integers are alike, by the model's own '=='.
  Slices of values of one cell each (slices of slices among them): no program here.
  append(s, make([]T, m)...) onto what the call owns, for numbers: no program here.
-/
import Derived.WalkKit
import Derived.Test.YtipmfficjomcoaaDoorRows
import Derived.ProofKit
import Derived.OpenShut
import Derived.Lib.Hide
import Derived.Below
import Derived.Deep.Draws
import Derived.Deep.QuietTactic
import Derived.BigQuiet
import Derived.Laws.OwnMore
import Derived.Maps.AppendAt
import Derived.OwnWalk
import Derived.RegionTactic
import Derived.Laws.BytesArg
import Derived.Laws.Rows
import Derived.Laws.Tables
import Derived.ChangeKeysEq
import Derived.Deep.OwnRows
import Derived.Laws.Slices
import Derived.Laws.StructEq
import Derived.Lib.AppendZerosOnto
set_option linter.unusedVariables false
namespace Go.Proofs.YtipmfficjomcoaaDoor.Bit
open Go.RowKit
def low (x y : Int) : Int := if x < y then 1 else 0
def alike (x y : Int) : Int := if x = y then 1 else 0
end Go.Proofs.YtipmfficjomcoaaDoor.Bit
namespace Go.Proofs.YtipmfficjomcoaaDoor.Ct
open Go.RowKit Go.Proofs.YtipmfficjomcoaaDoor.Bit
def oneI (b : Bool) : Int := if b = true then 1 else 0
end Go.Proofs.YtipmfficjomcoaaDoor.Ct
namespace Go.Proofs.YtipmfficjomcoaaDoor.Net
def step (d : Nat) (up : Nat → Bool) (f : Nat → Int) (x : Nat) : Int :=
  if x / d % 2 = 0 then (if up x then min (f x) (f (x + d)) else max (f x) (f (x + d)))
  else (if up (x - d) then max (f (x - d)) (f x) else min (f (x - d)) (f x))
def steps (up : Nat → Bool) : Nat → (Nat → Int) → Nat → Int
  | 0, f => f
  | t + 1, f => steps up t (step (2 ^ t) up f)
def ups (s x : Nat) : Bool := decide (x / 2 ^ s % 2 = 0)
def stages : Nat → (Nat → Int) → Nat → Int
  | 0, f => f
  | s + 1, f => steps (ups (s + 1)) (s + 1) (stages s f)
def bstep (d : Nat) (up : Nat → Bool) (f : Nat → Bool) (x : Nat) : Bool :=
  if x / d % 2 = 0 then (if up x then f x && f (x + d) else f x || f (x + d))
  else (if up (x - d) then f (x - d) || f x else f (x - d) && f x)
def bsteps (up : Nat → Bool) : Nat → (Nat → Bool) → Nat → Bool
  | 0, f => f
  | t + 1, f => bsteps up t (bstep (2 ^ t) up f)
def bstages : Nat → (Nat → Bool) → Nat → Bool
  | 0, f => f
  | s + 1, f => bsteps (ups (s + 1)) (s + 1) (bstages s f)
def thr (c : Int) (f : Nat → Int) (x : Nat) : Bool := decide (c < f x)
theorem thr_step (c : Int) (d : Nat) (up : Nat → Bool) (f : Nat → Int) : thr c (step d up f) = bstep d up (thr c f) := by
  funext x
  unfold thr step bstep
  split <;> split <;> simp only [← Bool.decide_and, ← Bool.decide_or, decide_eq_decide] <;> omega
theorem thr_steps (c : Int) (up : Nat → Bool) : ∀ (t : Nat) (f : Nat → Int), thr c (steps up t f) = bsteps up t (thr c f)
  | 0, _ => rfl
  | t + 1, f => by rw [steps, bsteps, thr_steps c up t, thr_step]
theorem thr_stages (c : Int) : ∀ (s : Nat) (f : Nat → Int), thr c (stages s f) = bstages s (thr c f)
  | 0, _ => rfl
  | s + 1, f => by rw [stages, bstages, thr_steps, thr_stages c s]
def Bito (m o : Nat) (f : Nat → Bool) : Prop := ∃ (i j : Nat) (v : Bool), i ≤ j ∧ j ≤ m ∧ ∀ x, x < m → f (o + x) = (if i ≤ x ∧ x < j then !v else v)
def All (m o : Nat) (f : Nat → Bool) (v : Bool) : Prop := ∀ x, x < m → f (o + x) = v
def Rise (m o : Nat) (f : Nat → Bool) : Prop := ∀ x y, x ≤ y → y < m → f (o + x) = true → f (o + y) = true
def Fall (m o : Nat) (f : Nat → Bool) : Prop := ∀ x y, x ≤ y → y < m → f (o + y) = true → f (o + x) = true
theorem rise_cut {m o : Nat} {f : Nat → Bool} (h : Rise m o f) : ∃ i, i ≤ m ∧ ∀ x, x < m → f (o + x) = decide (i ≤ x) := by
  induction m with
  | zero => exact ⟨0, Nat.le_refl _, fun x hx => absurd hx (by omega)⟩
  | succ m ih =>
    obtain ⟨i, hi, hf⟩ := ih (fun x y hxy hy => h x y hxy (by omega))
    by_cases hm : f (o + m) = true
    · refine ⟨i, by omega, fun x hx => ?_⟩
      by_cases e : x = m
      · subst e
        rw [hm]
        exact (decide_eq_true (by omega)).symm
      · exact hf x (by omega)
    · refine ⟨m + 1, Nat.le_refl _, fun x hx => ?_⟩
      rw [decide_eq_false (by omega)]
      cases hv : f (o + x)
      · rfl
      · exact absurd (h x m (by omega) (by omega) hv) hm
theorem fall_cut {m o : Nat} {f : Nat → Bool} (h : Fall m o f) : ∃ j, j ≤ m ∧ ∀ x, x < m → f (o + x) = decide (x < j) := by
  induction m with
  | zero => exact ⟨0, Nat.le_refl _, fun x hx => absurd hx (by omega)⟩
  | succ m ih =>
    obtain ⟨j, hj, hf⟩ := ih (fun x y hxy hy => h x y hxy (by omega))
    by_cases hm : f (o + m) = true
    · refine ⟨m + 1, Nat.le_refl _, fun x hx => ?_⟩
      rw [decide_eq_true hx]
      exact h x m (by omega) (by omega) hm
    · refine ⟨j, by omega, fun x hx => ?_⟩
      by_cases e : x = m
      · subst e
        rw [decide_eq_false (by omega)]
        simpa using hm
      · exact hf x (by omega)
theorem bito_of {m o : Nat} {f : Nat → Bool} (h1 : Rise m o f) (h2 : Fall m (o + m) f) : Bito (2 * m) o f := by
  obtain ⟨i, hi, hf⟩ := rise_cut h1
  obtain ⟨j, hj, hg⟩ := fall_cut h2
  refine ⟨i, m + j, false, by omega, by omega, fun x hx => ?_⟩
  by_cases hm : x < m
  · rw [hf x hm]
    by_cases hix : i ≤ x
    · rw [if_pos ⟨hix, by omega⟩, decide_eq_true hix]; rfl
    · rw [if_neg (fun h => hix h.1), decide_eq_false hix]
  · have e : o + x = o + m + (x - m) := by omega
    rw [e, hg (x - m) (by omega)]
    by_cases hix : x - m < j
    · rw [if_pos ⟨by omega, by omega⟩, decide_eq_true hix]; rfl
    · rw [if_neg (by omega), decide_eq_false hix]
theorem half {h o : Nat} {f : Nat → Bool} (hb : Bito (2 * h) o f) :
    Bito h 0 (fun x => f (o + x) && f (o + x + h)) ∧ Bito h 0 (fun x => f (o + x) || f (o + x + h)) ∧ ((∀ x, x < h → (f (o + x) && f (o + x + h)) = false) ∨ ∀ x, x < h → (f (o + x) || f (o + x + h)) = true) := by
  obtain ⟨i, j, v, hij, hj, hf⟩ := hb
  have hx1 : ∀ x, x < h → f (o + x) = (if i ≤ x ∧ x < j then !v else v) := fun x hx => hf x (by omega)
  have hx2 : ∀ x, x < h → f (o + x + h) = (if i ≤ x + h ∧ x + h < j then !v else v) := fun x hx => by rw [Nat.add_assoc]; exact hf (x + h) (by omega)
  cases v
  · by_cases c1 : j ≤ h
    · refine ⟨⟨0, 0, false, by omega, by omega, fun x hx => ?_⟩, ⟨i, j, false, hij, c1, fun x hx => ?_⟩, .inl fun x hx => ?_⟩
      all_goals (try rw [Nat.zero_add]); simp only [hx1 x hx, hx2 x hx]
      · rw [if_neg (c := i ≤ x + h ∧ x + h < j) (by omega)]; simp
      · rw [if_neg (c := i ≤ x + h ∧ x + h < j) (by omega)]; simp
      · rw [if_neg (c := i ≤ x + h ∧ x + h < j) (by omega)]; simp
    by_cases c2 : h ≤ i
    · refine ⟨⟨0, 0, false, by omega, by omega, fun x hx => ?_⟩, ⟨i - h, j - h, false, by omega, by omega, fun x hx => ?_⟩, .inl fun x hx => ?_⟩
      all_goals (try rw [Nat.zero_add]); simp only [hx1 x hx, hx2 x hx]
      · rw [if_neg (c := i ≤ x ∧ x < j) (by omega)]; simp
      · rw [if_neg (c := i ≤ x ∧ x < j) (by omega)]
        by_cases c : i ≤ x + h ∧ x + h < j
        · rw [if_pos c, if_pos (by omega)]; rfl
        · rw [if_neg c, if_neg (by omega)]; rfl
      · rw [if_neg (c := i ≤ x ∧ x < j) (by omega)]; simp
    by_cases c3 : j - h ≤ i
    · refine ⟨⟨0, 0, false, by omega, by omega, fun x hx => ?_⟩, ⟨j - h, i, true, c3, by omega, fun x hx => ?_⟩, .inl fun x hx => ?_⟩
      all_goals (try rw [Nat.zero_add]); simp only [hx1 x hx, hx2 x hx]
      · by_cases c : i ≤ x
        · rw [if_neg (c := i ≤ x + h ∧ x + h < j) (by omega)]; simp
        · rw [if_neg (c := i ≤ x ∧ x < j) (by omega)]; simp
      · by_cases c : j - h ≤ x ∧ x < i
        · rw [if_neg (by omega), if_neg (by omega), if_pos c]; rfl
        · rw [if_neg c]
          by_cases c' : i ≤ x
          · rw [if_pos (by omega)]; rfl
          · rw [if_pos (c := i ≤ x + h ∧ x + h < j) (by omega)]; simp
      · by_cases c : i ≤ x
        · rw [if_neg (c := i ≤ x + h ∧ x + h < j) (by omega)]; simp
        · rw [if_neg (c := i ≤ x ∧ x < j) (by omega)]; simp
    · refine ⟨⟨i, j - h, false, by omega, by omega, fun x hx => ?_⟩, ⟨0, 0, true, by omega, by omega, fun x hx => ?_⟩, .inr fun x hx => ?_⟩
      all_goals (try rw [Nat.zero_add]); simp only [hx1 x hx, hx2 x hx]
      · by_cases c : i ≤ x ∧ x < j - h
        · rw [if_pos c, if_pos (by omega), if_pos (by omega)]; rfl
        · rw [if_neg c]
          by_cases c' : i ≤ x
          · rw [if_neg (c := i ≤ x + h ∧ x + h < j) (by omega)]; simp
          · rw [if_neg (c := i ≤ x ∧ x < j) (by omega)]; simp
      · rw [if_neg (c := 0 ≤ x ∧ x < 0) (by omega)]
        by_cases c' : i ≤ x
        · rw [if_pos (by omega)]; rfl
        · rw [if_pos (c := i ≤ x + h ∧ x + h < j) (by omega)]; simp
      · by_cases c' : i ≤ x
        · rw [if_pos (by omega)]; rfl
        · rw [if_pos (c := i ≤ x + h ∧ x + h < j) (by omega)]; simp
  · by_cases c1 : j ≤ h
    · refine ⟨⟨i, j, true, hij, c1, fun x hx => ?_⟩, ⟨0, 0, true, by omega, by omega, fun x hx => ?_⟩, .inr fun x hx => ?_⟩
      all_goals (try rw [Nat.zero_add]); simp only [hx1 x hx, hx2 x hx]
      · rw [if_neg (c := i ≤ x + h ∧ x + h < j) (by omega)]; simp
      · rw [if_neg (c := i ≤ x + h ∧ x + h < j) (by omega)]; simp
      · rw [if_neg (c := i ≤ x + h ∧ x + h < j) (by omega)]; simp
    by_cases c2 : h ≤ i
    · refine ⟨⟨i - h, j - h, true, by omega, by omega, fun x hx => ?_⟩, ⟨0, 0, true, by omega, by omega, fun x hx => ?_⟩, .inr fun x hx => ?_⟩
      all_goals (try rw [Nat.zero_add]); simp only [hx1 x hx, hx2 x hx]
      · rw [if_neg (c := i ≤ x ∧ x < j) (by omega)]
        by_cases c : i ≤ x + h ∧ x + h < j
        · rw [if_pos c, if_pos (by omega)]; rfl
        · rw [if_neg c, if_neg (by omega)]; rfl
      · rw [if_neg (c := i ≤ x ∧ x < j) (by omega)]; simp
      · rw [if_neg (c := i ≤ x ∧ x < j) (by omega)]; simp
    by_cases c3 : j - h ≤ i
    · refine ⟨⟨j - h, i, false, c3, by omega, fun x hx => ?_⟩, ⟨0, 0, true, by omega, by omega, fun x hx => ?_⟩, .inr fun x hx => ?_⟩
      all_goals (try rw [Nat.zero_add]); simp only [hx1 x hx, hx2 x hx]
      · by_cases c : j - h ≤ x ∧ x < i
        · rw [if_neg (by omega), if_neg (by omega), if_pos c]; rfl
        · rw [if_neg c]
          by_cases c' : i ≤ x
          · rw [if_pos (by omega)]; rfl
          · rw [if_pos (c := i ≤ x + h ∧ x + h < j) (by omega)]; simp
      · by_cases c : i ≤ x
        · rw [if_neg (c := i ≤ x + h ∧ x + h < j) (by omega)]; simp
        · rw [if_neg (c := i ≤ x ∧ x < j) (by omega)]; simp
      · by_cases c : i ≤ x
        · rw [if_neg (c := i ≤ x + h ∧ x + h < j) (by omega)]; simp
        · rw [if_neg (c := i ≤ x ∧ x < j) (by omega)]; simp
    · refine ⟨⟨0, 0, false, by omega, by omega, fun x hx => ?_⟩, ⟨i, j - h, true, by omega, by omega, fun x hx => ?_⟩, .inl fun x hx => ?_⟩
      all_goals (try rw [Nat.zero_add]); simp only [hx1 x hx, hx2 x hx]
      · rw [if_neg (c := 0 ≤ x ∧ x < 0) (by omega)]
        by_cases c' : i ≤ x
        · rw [if_pos (by omega)]; rfl
        · rw [if_pos (c := i ≤ x + h ∧ x + h < j) (by omega)]; simp
      · by_cases c : i ≤ x ∧ x < j - h
        · rw [if_pos c, if_pos (by omega), if_pos (by omega)]; rfl
        · rw [if_neg c]
          by_cases c' : i ≤ x
          · rw [if_neg (c := i ≤ x + h ∧ x + h < j) (by omega)]; simp
          · rw [if_neg (c := i ≤ x ∧ x < j) (by omega)]; simp
      · by_cases c' : i ≤ x
        · rw [if_pos (by omega)]; rfl
        · rw [if_pos (c := i ≤ x + h ∧ x + h < j) (by omega)]; simp
theorem low_bit {h q x : Nat} (hx : x < h) : (h * (2 * q) + x) / h % 2 = 0 := by
  rw [Nat.mul_add_div (by omega), Nat.div_eq_of_lt hx]; omega
theorem high_bit {h q x : Nat} (hx : x < h) : (h * (2 * q) + x + h) / h % 2 = 1 := by
  rw [show h * (2 * q) + x + h = h * (2 * q + 1) + x by rw [Nat.mul_add]; omega, Nat.mul_add_div (by omega), Nat.div_eq_of_lt hx]; omega
theorem bstep_low {h q x : Nat} {up : Nat → Bool} {f : Nat → Bool} (hx : x < h) : bstep h up f (h * (2 * q) + x) = if up (h * (2 * q) + x) then f (h * (2 * q) + x) && f (h * (2 * q) + x + h) else f (h * (2 * q) + x) || f (h * (2 * q) + x + h) := by
  rw [bstep, if_pos (low_bit hx)]
theorem bstep_high {h q x : Nat} {up : Nat → Bool} {f : Nat → Bool} (hx : x < h) : bstep h up f (h * (2 * q) + x + h) = if up (h * (2 * q) + x) then f (h * (2 * q) + x) || f (h * (2 * q) + x + h) else f (h * (2 * q) + x) && f (h * (2 * q) + x + h) := by
  rw [bstep, if_neg (by rw [high_bit hx]; omega), Nat.add_sub_cancel]
theorem pow2 (t : Nat) : 2 ^ (t + 1) = 2 * 2 ^ t := by rw [Nat.pow_succ, Nat.mul_comm]
theorem block0 (t q : Nat) : 2 ^ (t + 1) * q = 2 ^ t * (2 * q) := by rw [pow2, Nat.mul_comm 2, Nat.mul_assoc]
theorem block1 (t q : Nat) : 2 ^ (t + 1) * q + 2 ^ t = 2 ^ t * (2 * q + 1) := by rw [block0, Nat.mul_add, Nat.mul_one]
theorem all_steps (up : Nat → Bool) (v : Bool) : ∀ (t q : Nat) (f : Nat → Bool), All (2 ^ t) (2 ^ t * q) f v → All (2 ^ t) (2 ^ t * q) (bsteps up t f) v
  | 0, _, _, h => h
  | t + 1, q, f, h => by
    have h0 : All (2 ^ t) (2 ^ t * (2 * q)) (bstep (2 ^ t) up f) v := fun x hx => by
      have e1 := h x (by rw [pow2]; omega)
      have e2 := h (x + 2 ^ t) (by rw [pow2]; omega)
      rw [block0] at e1
      rw [block0, ← Nat.add_assoc] at e2
      rw [bstep_low hx, e1, e2]
      split <;> simp
    have h1 : All (2 ^ t) (2 ^ t * (2 * q + 1)) (bstep (2 ^ t) up f) v := fun x hx => by
      have e1 := h x (by rw [pow2]; omega)
      have e2 := h (x + 2 ^ t) (by rw [pow2]; omega)
      rw [block0] at e1
      rw [block0, ← Nat.add_assoc] at e2
      rw [show 2 ^ t * (2 * q + 1) + x = 2 ^ t * (2 * q) + x + 2 ^ t by rw [Nat.mul_add]; omega, bstep_high hx, e1, e2]
      split <;> simp
    have i0 := all_steps up v t _ _ h0
    have i1 := all_steps up v t _ _ h1
    intro x hx
    rw [bsteps]
    by_cases c : x < 2 ^ t
    · rw [block0]; exact i0 x c
    · rw [show 2 ^ (t + 1) * q + x = 2 ^ t * (2 * q + 1) + (x - 2 ^ t) by rw [← block1]; omega]
      exact i1 _ (by rw [pow2] at hx; omega)
theorem rise_join {m o : Nat} {f : Nat → Bool} (h1 : Rise m o f) (h2 : Rise m (o + m) f) (h : All m o f false ∨ All m (o + m) f true) : Rise (2 * m) o f := fun x y hxy hy hf => by
  by_cases cy : y < m
  · exact h1 x y hxy cy hf
  rcases h with h | h
  · by_cases cx : x < m
    · rw [h x cx] at hf; exact absurd hf (by simp)
    · have := h2 (x - m) (y - m) (by omega) (by omega) (by rw [show o + m + (x - m) = o + x by omega]; exact hf)
      rw [show o + m + (y - m) = o + y by omega] at this
      exact this
  · have := h (y - m) (by omega)
    rw [show o + m + (y - m) = o + y by omega] at this
    exact this
theorem fall_join {m o : Nat} {f : Nat → Bool} (h1 : Fall m o f) (h2 : Fall m (o + m) f) (h : All m o f true ∨ All m (o + m) f false) : Fall (2 * m) o f := fun x y hxy hy hf => by
  by_cases cy : y < m
  · exact h1 x y hxy cy hf
  rcases h with h | h
  · by_cases cx : x < m
    · exact h x cx
    · have := h2 (x - m) (y - m) (by omega) (by omega) (by rw [show o + m + (y - m) = o + y by omega]; exact hf)
      rw [show o + m + (x - m) = o + x by omega] at this
      exact this
  · have := h (y - m) (by omega)
    rw [show o + m + (y - m) = o + y by omega, hf] at this
    exact absurd this (by simp)
theorem bito_eq {m o o' : Nat} {f g : Nat → Bool} (h : Bito m o f) (e : ∀ x, x < m → g (o' + x) = f (o + x)) : Bito m o' g := by
  obtain ⟨i, j, v, h1, h2, hf⟩ := h
  exact ⟨i, j, v, h1, h2, fun x hx => (e x hx).trans (hf x hx)⟩
theorem sorts (up : Nat → Bool) : ∀ (t q : Nat) (f : Nat → Bool) (u : Bool), (∀ x, x < 2 ^ t → up (2 ^ t * q + x) = u) → Bito (2 ^ t) (2 ^ t * q) f → (u = true → Rise (2 ^ t) (2 ^ t * q) (bsteps up t f)) ∧ (u = false → Fall (2 ^ t) (2 ^ t * q) (bsteps up t f))
  | 0, q, f, u, _, _ => by
    refine ⟨fun _ x y hxy hy h => ?_, fun _ x y hxy hy h => ?_⟩
    · have : x = y := by simp at hy; omega
      rw [← this]; exact h
    · have : x = y := by simp at hy; omega
      rw [this]; exact h
  | t + 1, q, f, u, hu, hb => by
    rw [pow2, ← pow2 t, block0, pow2] at hb
    obtain ⟨ba, bo, hc⟩ := half hb
    have hu0 : ∀ x, x < 2 ^ t → up (2 ^ t * (2 * q) + x) = u := fun x hx => by rw [← block0]; exact hu x (by rw [pow2]; omega)
    have hu1 : ∀ x, x < 2 ^ t → up (2 ^ t * (2 * q + 1) + x) = u := fun x hx => by rw [← block1, Nat.add_assoc]; exact hu _ (by rw [pow2]; omega)
    have eh : ∀ x, 2 ^ t * (2 * q + 1) + x = 2 ^ t * (2 * q) + x + 2 ^ t := fun x => by rw [Nat.mul_add]; omega
    have eb : 2 ^ t * (2 * q) + 2 ^ t = 2 ^ t * (2 * q + 1) := by rw [Nat.mul_add, Nat.mul_one]
    rw [bsteps, pow2, ← pow2 t, block0, pow2]
    cases u
    · have l : ∀ x, x < 2 ^ t → bstep (2 ^ t) up f (2 ^ t * (2 * q) + x) = (f (2 ^ t * (2 * q) + x) || f (2 ^ t * (2 * q) + x + 2 ^ t)) := fun x hx => by rw [bstep_low hx, hu0 x hx]; rfl
      have h : ∀ x, x < 2 ^ t → bstep (2 ^ t) up f (2 ^ t * (2 * q + 1) + x) = (f (2 ^ t * (2 * q) + x) && f (2 ^ t * (2 * q) + x + 2 ^ t)) := fun x hx => by rw [eh, bstep_high hx, hu0 x hx]; rfl
      refine ⟨fun h => by simp at h, fun _ => ?_⟩
      have s0 := (sorts up t (2 * q) _ false hu0 (bito_eq bo (fun x hx => by rw [Nat.zero_add]; exact l x hx))).2 rfl
      have s1 := (sorts up t (2 * q + 1) _ false hu1 (bito_eq ba (fun x hx => by rw [Nat.zero_add]; exact h x hx))).2 rfl
      refine fall_join s0 (by rw [eb]; exact s1) ?_
      rw [eb]
      rcases hc with hc | hc
      · exact .inr (all_steps up false t _ _ (fun x hx => (h x hx).trans (hc x hx)))
      · exact .inl (all_steps up true t _ _ (fun x hx => (l x hx).trans (hc x hx)))
    · have l : ∀ x, x < 2 ^ t → bstep (2 ^ t) up f (2 ^ t * (2 * q) + x) = (f (2 ^ t * (2 * q) + x) && f (2 ^ t * (2 * q) + x + 2 ^ t)) := fun x hx => by rw [bstep_low hx, hu0 x hx]; rfl
      have h : ∀ x, x < 2 ^ t → bstep (2 ^ t) up f (2 ^ t * (2 * q + 1) + x) = (f (2 ^ t * (2 * q) + x) || f (2 ^ t * (2 * q) + x + 2 ^ t)) := fun x hx => by rw [eh, bstep_high hx, hu0 x hx]; rfl
      refine ⟨fun _ => ?_, fun h => by simp at h⟩
      have s0 := (sorts up t (2 * q) _ true hu0 (bito_eq ba (fun x hx => by rw [Nat.zero_add]; exact l x hx))).1 rfl
      have s1 := (sorts up t (2 * q + 1) _ true hu1 (bito_eq bo (fun x hx => by rw [Nat.zero_add]; exact h x hx))).1 rfl
      refine rise_join s0 (by rw [eb]; exact s1) ?_
      rw [eb]
      rcases hc with hc | hc
      · exact .inl (all_steps up false t _ _ (fun x hx => (l x hx).trans (hc x hx)))
      · exact .inr (all_steps up true t _ _ (fun x hx => (h x hx).trans (hc x hx)))
theorem ups_at {s q x : Nat} (hx : x < 2 ^ s) : ups s (2 ^ s * q + x) = decide (q % 2 = 0) := by
  rw [ups, Nat.mul_add_div (Nat.two_pow_pos s), Nat.div_eq_of_lt hx, Nat.add_zero]
theorem behind : ∀ (s : Nat) (f : Nat → Bool) (q : Nat), (q % 2 = 0 → Rise (2 ^ s) (2 ^ s * q) (bstages s f)) ∧ (q % 2 = 1 → Fall (2 ^ s) (2 ^ s * q) (bstages s f))
  | 0, f, q => by
    refine ⟨fun _ x y hxy hy h => ?_, fun _ x y hxy hy h => ?_⟩
    · have : x = y := by simp at hy; omega
      rw [← this]; exact h
    · have : x = y := by simp at hy; omega
      rw [this]; exact h
  | s + 1, f, q => by
    have r := (behind s f (2 * q)).1 (by omega)
    have d := (behind s f (2 * q + 1)).2 (by omega)
    have b : Bito (2 ^ (s + 1)) (2 ^ (s + 1) * q) (bstages s f) := by
      rw [block0, pow2]
      exact bito_of r (by rw [show 2 ^ s * (2 * q) + 2 ^ s = 2 ^ s * (2 * q + 1) by rw [Nat.mul_add, Nat.mul_one]]; exact d)
    have h := sorts (ups (s + 1)) (s + 1) q (bstages s f) (decide (q % 2 = 0)) (fun x hx => ups_at hx) b
    exact ⟨fun e => h.1 (decide_eq_true e), fun e => h.2 (decide_eq_false (by omega))⟩
theorem stages_rise (s : Nat) (f : Nat → Int) {x y : Nat} (hxy : x ≤ y) (hy : y < 2 ^ s) : stages s f x ≤ stages s f y := by
  rcases Int.lt_or_le (stages s f y) (stages s f x) with h | h
  · exfalso
    have r := (behind s (thr (stages s f y) f) 0).1 rfl x y hxy hy
    rw [← thr_stages] at r
    simp only [Nat.mul_zero, Nat.zero_add, thr, decide_eq_true_eq] at r
    have := r h
    omega
  · exact h
def firsts (d k : Nat) : List Nat := (List.range k).filter (fun a => decide (a / d % 2 = 0))
theorem firsts_succ (d k : Nat) : firsts d (k + 1) = firsts d k ++ (if k / d % 2 = 0 then [k] else []) := by
  unfold firsts
  rw [List.range_succ, List.filter_append]
  congr 1
  by_cases h : k / d % 2 = 0
  · rw [if_pos h]; simp [h]
  · rw [if_neg h]; simp [h]
def sw (d : Nat) (up : Nat → Bool) (l : List Int) (a : Nat) : List Int :=
  if decide (l.getD a 0 > l.getD (a + d) 0) = up a ∧ l.getD a 0 ≠ l.getD (a + d) 0 then (l.set a (l.getD (a + d) 0)).set (a + d) (l.getD a 0) else l
theorem sw_length (d : Nat) (up : Nat → Bool) (l : List Int) (a : Nat) : (sw d up l a).length = l.length := by
  unfold sw
  split <;> simp
def lead (d x : Nat) : Nat := if x / d % 2 = 0 then x else x - d
theorem lead_le (d x : Nat) : lead d x ≤ x := by unfold lead; split <;> omega
theorem high_of {d x : Nat} (hd : 0 < d) (h : ¬ x / d % 2 = 0) : d ≤ x ∧ (x - d) / d % 2 = 0 ∧ (x - d) / d = x / d - 1 := by
  have h1 : d ≤ x := by
    rcases Nat.lt_or_ge x d with c | c
    · rw [Nat.div_eq_of_lt c] at h; omega
    · exact c
  have h2 : (x - d) / d = x / d - 1 := by
    have := Nat.add_div_right (x - d) hd
    rw [Nat.sub_add_cancel h1] at this
    generalize x / d = u at *
    generalize (x - d) / d = v at *
    omega
  exact ⟨h1, by omega, h2⟩
theorem lead_bit {d : Nat} (hd : 0 < d) (x : Nat) : lead d x / d % 2 = 0 := by
  unfold lead
  split
  · assumption
  · rename_i h; exact (high_of hd h).2.1
theorem bit_high {d k : Nat} (hd : 0 < d) (h : k / d % 2 = 0) : (k + d) / d % 2 = 1 := by
  rw [Nat.add_div_right k hd]; omega
theorem lead_of_high {d k : Nat} (hd : 0 < d) (h : k / d % 2 = 0) : lead d (k + d) = k := by
  unfold lead
  rw [if_neg (by rw [bit_high hd h]; omega)]
  omega
theorem lead_eq {d k x : Nat} (hd : 0 < d) (h : lead d x = k) : x = k ∨ x = k + d := by
  unfold lead at h
  split at h
  · exact .inl h
  · rename_i c; have := (high_of hd c).1; exact .inr (by omega)
theorem sw_get {d a n : Nat} (up : Nat → Bool) {l : List Int} (hd : 0 < d) (hl : l.length = n) (ha : a + d < n) (x : Nat) :
    (sw d up l a).getD x 0 = if x = a then (if up a then min (l.getD a 0) (l.getD (a + d) 0) else max (l.getD a 0) (l.getD (a + d) 0)) else if x = a + d then (if up a then max (l.getD a 0) (l.getD (a + d) 0) else min (l.getD a 0) (l.getD (a + d) 0)) else l.getD x 0 := by
  have g : ∀ (m : List Int) (i j : Nat) (v : Int), i < m.length → (m.set i v).getD j 0 = if j = i then v else m.getD j 0 := fun m i j v hi => by
    rw [List.getD_eq_getElem?_getD, List.getD_eq_getElem?_getD, List.getElem?_set]
    by_cases e : j = i
    · subst e; simp [hi]
    · rw [if_neg e, if_neg (fun h => e h.symm)]
  unfold sw
  by_cases c : decide (l.getD a 0 > l.getD (a + d) 0) = up a ∧ l.getD a 0 ≠ l.getD (a + d) 0
  · rw [if_pos c, g _ _ _ _ (by rw [List.length_set]; omega), g _ _ _ _ (by omega)]
    obtain ⟨c1, c2⟩ := c
    by_cases e1 : x = a
    · rw [if_pos e1, if_neg (by omega), if_pos e1]
      cases hu : up a
      · rw [hu, decide_eq_false_iff_not] at c1; simp only [Bool.false_eq_true, if_false]; omega
      · rw [hu, decide_eq_true_eq] at c1; simp only [if_true]; omega
    · rw [if_neg e1, if_neg e1]
      by_cases e2 : x = a + d
      · rw [if_pos e2, if_pos e2]
        cases hu : up a
        · rw [hu, decide_eq_false_iff_not] at c1; simp only [Bool.false_eq_true, if_false]; omega
        · rw [hu, decide_eq_true_eq] at c1; simp only [if_true]; omega
      · rw [if_neg e2, if_neg e2]
  · rw [if_neg c]
    have c' : l.getD a 0 = l.getD (a + d) 0 ∨ ¬ decide (l.getD a 0 > l.getD (a + d) 0) = up a := by
      by_cases e : l.getD a 0 = l.getD (a + d) 0
      · exact .inl e
      · exact .inr fun h => c ⟨h, e⟩
    by_cases e1 : x = a
    · rw [if_pos e1, e1]
      cases hu : up a
      · rw [hu, decide_eq_false_iff_not] at c'; simp only [Bool.false_eq_true, if_false]; omega
      · rw [hu, decide_eq_true_eq] at c'; simp only [if_true]; omega
    · rw [if_neg e1]
      by_cases e2 : x = a + d
      · rw [if_pos e2, e2]
        cases hu : up a
        · rw [hu, decide_eq_false_iff_not] at c'; simp only [Bool.false_eq_true, if_false]; omega
        · rw [hu, decide_eq_true_eq] at c'; simp only [if_true]; omega
      · rw [if_neg e2]
theorem round_to {d n : Nat} (up : Nat → Bool) (hd : 0 < d) {l : List Int} (hl : l.length = n) (hn : ∀ a, a < n → a / d % 2 = 0 → a + d < n) :
    ∀ k, k ≤ n → ((firsts d k).foldl (sw d up) l).length = n ∧ ∀ x, ((firsts d k).foldl (sw d up) l).getD x 0 = if lead d x < k then step d up (fun i => l.getD i 0) x else l.getD x 0
  | 0, _ => ⟨hl, fun x => by rw [if_neg (by omega)]; rfl⟩
  | k + 1, hk => by
    obtain ⟨h1, h2⟩ := round_to up hd hl hn k (by omega)
    rw [firsts_succ, List.foldl_append]
    by_cases hb : k / d % 2 = 0
    · rw [if_pos hb]
      show (sw d up _ k).length = n ∧ ∀ x, (sw d up _ k).getD x 0 = _
      refine ⟨by rw [sw_length, h1], fun x => ?_⟩
      have ek : lead d k = k := by unfold lead; rw [if_pos hb]
      have eh := lead_of_high hd hb
      rw [sw_get up hd h1 (hn k (by omega) hb), h2 k, h2 (k + d), h2 x, ek, eh, if_neg (Nat.lt_irrefl k), if_neg (Nat.lt_irrefl k)]
      by_cases e1 : x = k
      · subst e1
        rw [if_pos rfl, ek, if_pos (Nat.lt_add_one x), step, if_pos hb]
      · rw [if_neg e1]
        by_cases e2 : x = k + d
        · subst e2
          rw [if_pos rfl, eh, if_pos (Nat.lt_add_one k), step, if_neg (show ¬ (k + d) / d % 2 = 0 by rw [bit_high hd hb]; omega), Nat.add_sub_cancel]
        · rw [if_neg e2]
          have : lead d x ≠ k := fun h => (lead_eq hd h).elim e1 e2
          by_cases c : lead d x < k
          · rw [if_pos c, if_pos (by omega)]
          · rw [if_neg c, if_neg (by omega)]
    · rw [if_neg hb, List.foldl_nil]
      refine ⟨h1, fun x => ?_⟩
      rw [h2 x]
      have : lead d x ≠ k := fun h => hb (by rw [← h]; exact lead_bit hd x)
      by_cases c : lead d x < k
      · rw [if_pos c, if_pos (by omega)]
      · rw [if_neg c, if_neg (by omega)]
theorem round_is {d n : Nat} (up : Nat → Bool) (hd : 0 < d) {l : List Int} (hl : l.length = n) (hn : ∀ a, a < n → a / d % 2 = 0 → a + d < n) :
    ((firsts d n).foldl (sw d up) l).length = n ∧ ∀ x, x < n → ((firsts d n).foldl (sw d up) l).getD x 0 = step d up (fun i => l.getD i 0) x := by
  obtain ⟨h1, h2⟩ := round_to up hd hl hn n (Nat.le_refl _)
  exact ⟨h1, fun x hx => by rw [h2, if_pos (Nat.lt_of_le_of_lt (lead_le d x) hx)]⟩
end Go.Proofs.YtipmfficjomcoaaDoor.Net
namespace Go.Proofs.YtipmfficjomcoaaDoor.Mem
open Go.RowKit
theorem ret_bool {a b : Bool} (h : a = b) : Ending.returned (.bool a) = .returned (.bool b) := by rw [h]
theorem below_drewN {B : Nat} {a w : World} (h : Below B a w) (n : Nat) : Below B a (w.drewN n) := ⟨h.os, h.tape, h.output, h.size, h.block⟩
def Ints (w : World) (k : IntKind) (B : Nat) (A : Option Addr) (n : Nat) (zs : List Int) : Prop :=
  zs.length = n ∧ (∀ z ∈ zs, (Lit.int k z).wf = true) ∧ (0 < n → ∃ b off, A = some ⟨b, off, none⟩ ∧ b < B ∧ ∀ i, i < n → w.cell? ⟨b, off + i, none⟩ = some (.int k (zs.getD i 0)))
section
variable {w w' : World} {k : IntKind} {B B' n : Nat} {A : Option Addr} {zs : List Int}
theorem Ints.nil (w : World) (k : IntKind) (B : Nat) (A : Option Addr) : Ints w k B A 0 [] := ⟨rfl, by simp, fun h => absurd h (by omega)⟩
theorem Ints.keep (h : Ints w k B A n zs) (hk : ∀ p : Addr, p.block < B → w'.cell? p = w.cell? p) : Ints w' k B A n zs :=
  ⟨h.1, h.2.1, fun hn => by
    obtain ⟨b, off, e, hb, hc⟩ := h.2.2 hn
    exact ⟨b, off, e, hb, fun i hi => (hk ⟨b, off + i, none⟩ hb).trans (hc i hi)⟩⟩
theorem Ints.more (h : Ints w k B A n zs) (hB : B ≤ B') : Ints w k B' A n zs :=
  ⟨h.1, h.2.1, fun hn => by
    obtain ⟨b, off, e, hb, hc⟩ := h.2.2 hn
    exact ⟨b, off, e, by omega, hc⟩⟩
theorem Ints.below (h : Ints w k B A n zs) (hb : Below B w w') : Ints w' k B A n zs := h.keep fun _ hp => hb.cell hp
theorem Ints.drew (h : Ints w k B A n zs) : Ints w.drew k B A n zs := h
theorem Ints.drewN (h : Ints w k B A n zs) (m : Nat) : Ints (w.drewN m) k B A n zs := h
theorem Ints.alloc (h : Ints w k B A n zs) (hB : B ≤ w.heap.size) (o : Obj) : Ints (w.alloc o) k B A n zs := h.keep fun p hp => World.cell?_alloc_lt w o p (by omega)
theorem Ints.setCell (h : Ints w k B A n zs) {p : Addr} (hB : B ≤ p.block) (u : Value) : Ints (w.setCell p u) k B A n zs :=
  h.keep fun q hq => World.cell?_setCell_other w p q u (fun e => by subst e; omega)
theorem Ints.range (h : Ints w k B A n zs) {i : Nat} (hi : i < n) : (Lit.int k (zs.getD i 0)).wf = true := by
  have hl : i < zs.length := by have := h.1; omega
  rw [List.getD_eq_getElem?_getD, List.getElem?_eq_getElem hl]
  exact h.2.1 _ (List.getElem_mem hl)
theorem Ints.at_ (h : Ints w k B A n zs) {i : Nat} (hi : i < n) : ∃ b off, A = some ⟨b, off, none⟩ ∧ b < B ∧ w.cell? ⟨b, off + i, none⟩ = some (.int k (zs.getD i 0)) := by
  obtain ⟨b, off, e, hb, hc⟩ := h.2.2 (by omega)
  exact ⟨b, off, e, hb, hc i hi⟩
end
theorem wf_i64 {z : Int} (h : (Lit.int .i64 z).wf = true) : -9223372036854775808 ≤ z ∧ z ≤ 9223372036854775807 := by simpa [Lit.wf, IntKind.min, IntKind.max, IntKind.signed, IntKind.bits] using h
end Go.Proofs.YtipmfficjomcoaaDoor.Mem
namespace Go.Proofs.YtipmfficjomcoaaDoor.Bi
open Go.RowKit
def padF : Nat → Nat → Int → Nat
  | 0, k, _ => k
  | f + 1, k, n => if (2 : Int) ^ k < n then padF f (k + 1) n else k
def padS (n : Int) : Nat := padF 16 0 n
def padV (n : Int) : Int := 2 ^ padS n
def stg (n : Int) : Nat := if padV n = n then padS n else 0
def tri (s : Nat) : Nat := s * (s + 1) / 2
theorem padF_le : ∀ (f k : Nat) (n : Int), k ≤ padF f k n ∧ padF f k n ≤ k + f
  | 0, k, n => by simp [padF]
  | f + 1, k, n => by
    unfold padF
    split
    · have := padF_le f (k + 1) n; omega
    · omega
theorem padS_le (n : Int) : padS n ≤ 16 := by have := padF_le 16 0 n; unfold padS; omega
theorem two_mono {a b : Nat} (h : a ≤ b) : (2 : Int) ^ a ≤ 2 ^ b := by
  have := Nat.pow_le_pow_right (n := 2) (by omega) h
  exact_mod_cast this
theorem two_pos (a : Nat) : (1 : Int) ≤ 2 ^ a := by have := two_mono (Nat.zero_le a); simpa using this
theorem two_16 {a : Nat} (h : a ≤ 16) : (2 : Int) ^ a ≤ 65536 := by have := two_mono h; simpa using this
theorem two_succ (a : Nat) : (2 : Int) ^ (a + 1) = 2 * 2 ^ a := by rw [Int.pow_succ]; omega
theorem two_nat (a : Nat) : (2 : Int) ^ a = ((2 ^ a : Nat) : Int) := by simp
theorem padF_pow : ∀ (f k s : Nat), k ≤ s → s ≤ k + f → padF f k (2 ^ s) = s
  | 0, k, s => by intro h1 h2; simp [padF]; omega
  | f + 1, k, s => by
    intro h1 h2
    unfold padF
    split
    · rename_i h
      have : k ≠ s := by rintro rfl; omega
      exact padF_pow f (k + 1) s (by omega) (by omega)
    · rename_i h
      rcases Nat.lt_or_ge k s with c | c
      · have := two_mono (show k + 1 ≤ s by omega)
        rw [two_succ] at this
        have := two_pos k
        omega
      · omega
theorem padS_pow {s : Nat} (h : s ≤ 16) : padS (2 ^ s) = s := padF_pow 16 0 s (by omega) (by omega)
theorem padV_pow {s : Nat} (h : s ≤ 16) : padV (2 ^ s) = 2 ^ s := by unfold padV; rw [padS_pow h]
theorem stg_pow {s : Nat} (h : s ≤ 16) : stg (2 ^ s) = s := by unfold stg; rw [if_pos (padV_pow h), padS_pow h]
theorem stg_le (n : Int) : stg n ≤ 16 := by unfold stg; split; exact padS_le n; omega
theorem stg_is (n : Int) : n = 2 ^ stg n ∨ (stg n = 0 ∧ padV n ≠ n) := by
  unfold stg
  split
  · rename_i h; exact .inl h.symm
  · rename_i h; exact .inr ⟨rfl, h⟩
theorem tri_zero : tri 0 = 0 := rfl
theorem tri_succ (s : Nat) : tri (s + 1) = tri s + (s + 1) := by
  unfold tri
  have h : (s + 1) * (s + 1 + 1) = s * (s + 1) + 2 * (s + 1) := by
    rw [show s + 1 + 1 = s + 2 by omega, Nat.mul_add, Nat.mul_comm (s + 1) s]; omega
  rw [h]; omega
theorem tri_mono {a b : Nat} (h : a ≤ b) : tri a ≤ tri b := by
  induction b with
  | zero => have : a = 0 := by omega
            subst this; exact Nat.le_refl _
  | succ b ih =>
    rcases Nat.lt_or_ge a (b + 1) with c | c
    · have := ih (by omega); rw [tri_succ]; omega
    · have : a = b + 1 := by omega
      subst this; exact Nat.le_refl _
theorem tri_le {s : Nat} (h : s ≤ 16) : tri s ≤ 136 := tri_mono h
structure Stp (S : Nat) (r : Int) (s t : Nat) : Prop where
  t1 : 1 ≤ t
  ts : t ≤ s
  sS : s ≤ S
  e : r = ((tri (s - 1) + (s - t) : Nat) : Int)
theorem Stp.lt {S : Nat} {r : Int} {s t : Nat} (h : Stp S r s t) : 0 ≤ r ∧ r < (tri S : Int) := by
  obtain ⟨h1, h2, h3, h4⟩ := h
  obtain ⟨q, rfl⟩ : ∃ q, s = q + 1 := ⟨s - 1, by omega⟩
  have := tri_mono h3
  rw [tri_succ] at this
  simp only [Nat.add_sub_cancel] at h4
  omega
theorem Stp.unique {S : Nat} {r : Int} {s t s' t' : Nat} (h : Stp S r s t) (h' : Stp S r s' t') : s = s' ∧ t = t' := by
  obtain ⟨h1, h2, h3, h4⟩ := h
  obtain ⟨k1, k2, k3, k4⟩ := h'
  obtain ⟨q, rfl⟩ : ∃ q, s = q + 1 := ⟨s - 1, by omega⟩
  obtain ⟨q', rfl⟩ : ∃ q, s' = q + 1 := ⟨s' - 1, by omega⟩
  simp only [Nat.add_sub_cancel] at h4 k4
  rcases Nat.lt_trichotomy q q' with c | c | c
  · have := tri_mono (show q + 1 ≤ q' by omega)
    rw [tri_succ] at this
    omega
  · subst c; omega
  · have := tri_mono (show q' + 1 ≤ q by omega)
    rw [tri_succ] at this
    omega
def Found (S : Nat) (r : Int) (s t : Nat) (ok : Bool) : Prop := (ok = true ∧ Stp S r s t) ∨ (ok = false ∧ s = 0 ∧ t = 0 ∧ ¬ (0 ≤ r ∧ r < (tri S : Int)))
def upV (n : Int) (s t : Nat) (ok : Bool) (a : Int) : Bool := ok && decide (0 ≤ a) && decide (a < n) && decide (a / 2 ^ (t - 1) % 2 = 0) && decide (a / 2 ^ s % 2 = 0)
theorem and_pow (a k : Nat) : a &&& 2 ^ k = if a / 2 ^ k % 2 = 0 then 0 else 2 ^ k := by
  apply Nat.eq_of_testBit_eq
  intro i
  rw [Nat.testBit_and, Nat.testBit_two_pow]
  have hk : a.testBit k = decide (a / 2 ^ k % 2 = 1) := Nat.testBit_eq_decide_div_mod_eq
  by_cases h : a / 2 ^ k % 2 = 0
  · rw [if_pos h, Nat.zero_testBit]
    by_cases e : k = i
    · subst e; rw [hk, h]; rfl
    · simp [e]
  · rw [if_neg h, Nat.testBit_two_pow]
    by_cases e : k = i
    · subst e; rw [hk, show a / 2 ^ k % 2 = 1 by omega]; simp
    · simp [e]
theorem i64_and_nat (a b : Nat) (ha : a < 9223372036854775808) (hb : b < 9223372036854775808) : bits .and .i64 (a : Int) (b : Int) = ((a &&& b : Nat) : Int) := by
  have hlt : a &&& b < 9223372036854775808 := Nat.lt_of_le_of_lt Nat.and_le_left ha
  have key : (BitVec.ofInt 64 (a : Int) &&& BitVec.ofInt 64 (b : Int)).toNat = a &&& b := by
    rw [BitVec.toNat_and, BitVec.toNat_ofInt, BitVec.toNat_ofInt]
    have e1 : ((a : Int) % ((2 ^ 64 : Nat) : Int)).toNat = a := by omega
    have e2 : ((b : Int) % ((2 ^ 64 : Nat) : Int)).toNat = b := by omega
    rw [e1, e2]
  show IntKind.i64.wrap ((BitVec.ofInt 64 (a : Int) &&& BitVec.ofInt 64 (b : Int)).toNat : Nat) = _
  rw [key, IntKind.wrap_i64]
  omega
theorem bit_of {a : Int} {k : Nat} (h0 : 0 ≤ a) (h1 : a < 9223372036854775808) (hk : k ≤ 16) : bits .and .i64 a (2 ^ k) = if a / 2 ^ k % 2 = 0 then 0 else 2 ^ k := by
  obtain ⟨n, rfl⟩ := Int.eq_ofNat_of_zero_le h0
  have := two_16 hk
  rw [two_nat] at this
  rw [two_nat, i64_and_nat _ _ (by omega) (by omega), and_pow, ← Int.natCast_ediv, show ((n / 2 ^ k : Nat) : Int) % 2 = ((n / 2 ^ k % 2 : Nat) : Int) by omega]
  by_cases h : n / 2 ^ k % 2 = 0
  · rw [if_pos h, if_pos (by omega)]; rfl
  · rw [if_neg h, if_neg (by omega)]
theorem bit_zero {a : Int} {k : Nat} (h0 : 0 ≤ a) (h1 : a < 9223372036854775808) (hk : k ≤ 16) : decide (bits .and .i64 a (2 ^ k) = 0) = decide (a / 2 ^ k % 2 = 0) := by
  rw [bit_of h0 h1 hk]
  have := two_pos k
  by_cases h : a / 2 ^ k % 2 = 0
  · rw [if_pos h]; simp [h]
  · rw [if_neg h]; simp [h]; omega
theorem bit_one {a : Int} (h0 : 0 ≤ a) (h1 : a < 9223372036854775808) : decide (bits .and .i64 a 1 = 0) = decide (a % 2 = 0) := by
  have := bit_zero (k := 0) h0 h1 (by omega)
  simpa using this
end Go.Proofs.YtipmfficjomcoaaDoor.Bi
namespace Go.Proofs.YtipmfficjomcoaaDoor.Mem
open Go.RowKit
def Own (w : World) (base : Nat) (t : TypeId) (k : IntKind) (v : Value) (zs : List Int) : Prop :=
  (∀ z ∈ zs, (Lit.int k z).wf = true) ∧ w.ownsRow base t 1 v zs.length (zs.map (Value.int k))
section
variable {w w' : World} {base : Nat} {t : TypeId} {k : IntKind} {v : Value} {zs : List Int}
theorem Own.nil (w : World) (base : Nat) (t : TypeId) (k : IntKind) : Own w base t k (.slice none 0 0) [] := ⟨by simp, World.ownsRow_nil _ _ _ _⟩
theorem Own.drewN (h : Own w base t k v zs) (n : Nat) : Own (w.drewN n) base t k v zs := h
theorem Own.alloc (h : Own w base t k v zs) (o : Obj) : Own (w.alloc o) base t k v zs := ⟨h.1, h.2.alloc o⟩
theorem Own.kept (h : Own w base t k v zs) {row : Option Nat} (hg : w.grownBy w' row) (hne : v.ownBlock = none ∨ v.ownBlock ≠ row) : Own w' base t k v zs := ⟨h.1, h.2.kept hg hne⟩
theorem grown_of_below (h : Below w.heap.size w w') (row : Option Nat) : w.grownBy w' row := ⟨h.os, h.tape, h.output, h.size, fun i hi _ => h.block i hi⟩
theorem Own.below (h : Own w base t k v zs) (hb : Below w.heap.size w w') : Own w' base t k v zs :=
  h.kept (grown_of_below hb none) (by cases v.ownBlock <;> simp)
theorem Own.less (h : Own w base t k v zs) {b : Nat} (hb : b ≤ base) : Own w b t k v zs := by
  refine ⟨h.1, h.2.1, ?_⟩
  rcases h.2.2 with hn | ⟨g, cap, cur, e, hg, r⟩
  · exact .inl hn
  · exact .inr ⟨g, cap, cur, e, by omega, r⟩
theorem Own.form (h : Own w base t k v zs) : ∃ A c, v = .slice A zs.length c ∧ zs.length ≤ c ∧ c ≤ maxLen ∧ Ints w k w.heap.size A zs.length zs := by
  rcases h.2.2 with ⟨rfl, hn⟩ | ⟨g, cap, cur, rfl, hb, hg, hnc, hcm, hcs, ht⟩
  · have : zs = [] := List.eq_nil_of_length_eq_zero hn
    subst this
    exact ⟨none, 0, rfl, Nat.le_refl _, by simp [maxLen], Ints.nil _ _ _ _⟩
  · refine ⟨_, cap, rfl, hnc, hcm, rfl, h.1, fun _ => ⟨g, 0, rfl, (Array.getElem?_eq_some_iff.1 hg).1, fun i hi => ?_⟩⟩
    have hc := h.2.cells (g := g) rfl i (.int k (zs.getD i 0)) (by simp [List.getD_eq_getElem?_getD, hi])
    have e : (Addr.mk g 0 none).add i = ⟨g, 0 + i, none⟩ := by unfold Addr.add; split <;> simp_all
    rwa [e] at hc
theorem Own.ints {A : Option Addr} {n c : Nat} (h : Own w base t k (.slice A n c) zs) (hl : zs.length = n) : Ints w k w.heap.size A n zs := by
  obtain ⟨A', c', e, _, _, hi⟩ := h.form
  injection e with e1 e2 _
  subst e1
  rw [hl] at hi
  exact hi
theorem Own.at_ (h : Own w base t k v zs) (hn : 0 < zs.length) : ∃ g c, v = .slice (some ⟨g, 0, none⟩) zs.length c ∧ base ≤ g ∧ g < w.heap.size ∧ zs.length ≤ c ∧ c ≤ maxLen ∧
    (∀ i, i < zs.length → w.cell? ⟨g, i, none⟩ = some (.int k (zs.getD i 0))) ∧ (∀ i, w.frozen? ⟨g, i, none⟩ = false) := by
  rcases h.2.2 with ⟨rfl, hn'⟩ | ⟨g, cap, cur, rfl, hb, hg, hnc, hcm, hcs, ht⟩
  · omega
  · refine ⟨g, cap, rfl, hb, (Array.getElem?_eq_some_iff.1 hg).1, hnc, hcm, fun i hi => ?_, fun i => by simp [World.frozen?, hg]⟩
    have hc := h.2.cells (g := g) rfl i (.int k (zs.getD i 0)) (by simp [List.getD_eq_getElem?_getD, hi])
    have e : (Addr.mk g 0 none).add i = ⟨g, i, none⟩ := by unfold Addr.add; split <;> simp_all
    rwa [e] at hc
theorem Own.set {g c : Nat} (h : Own w base t k (.slice (some ⟨g, 0, none⟩) zs.length c) zs) (i : Nat) {z : Int} (hz : (Lit.int k z).wf = true) :
    Own (w.setCell ⟨g, i, none⟩ (.int k z)) base t k (.slice (some ⟨g, 0, none⟩) zs.length c) (zs.set i z) := by
  refine ⟨fun y hy => ?_, by simp, ?_⟩
  · rcases List.mem_or_eq_of_mem_set hy with h1 | h1
    · exact h.1 y h1
    · rw [h1]; exact hz
  · rcases h.2.2 with ⟨e, _⟩ | ⟨g', cap, cur, e, hb, hg, hnc, hcm, hcs, ht⟩
    · cases e
    · injection e with e1 _ e3
      injection e1 with e1
      injection e1 with e1
      subst e1
      subst e3
      refine .inr ⟨g, c, cur.setIfInBounds i (.int k z), by simp, hb, ?_, by simpa using hnc, hcm, by simpa using hcs, ?_⟩
      · simp [World.setCell, Array.getElem?_modify, hg]
      · rw [Array.toList_setIfInBounds, List.take_set, List.length_set]
        rw [ht]
        simp [List.map_set]
theorem grown_setCell (w : World) (g i : Nat) (u : Value) : w.grownBy (w.setCell ⟨g, i, none⟩ u) (some g) :=
  ⟨rfl, rfl, rfl, by simp [World.setCell], fun j _ hne => Below.heap_setCell w _ u j (fun e => hne (by rw [e]))⟩
theorem Below.of_grown {B : Nat} {a : World} (h : Below B a w) {row : Option Nat} (hg : w.grownBy w' row) (hB : B ≤ w.heap.size) (hr : ∀ g, row = some g → B ≤ g) : Below B a w' := h.grown hg hB hr
end
theorem run_append_ints {P : Program} (w : World) (base : Nat) (ts ty e : TypeId) (k : IntKind) (bytes : Nat) (ht : P.underlying ts = some (.slice e))
    (hinfo : (P.info? e).map (fun i => (i.zero, i.size, i.bytes)) = some (some (.int k 0), 1, bytes)) (v : Value) (zs : List Int) (hown : Own w base e k v zs)
    (B : Nat) (A : Option Addr) (m c : Nat) (xs : List Int) (hr : Ints w k B A m xs) (hlen : zs.length + m ≤ 17592186044416) (hby : bytes ≤ 8) (hbase : base ≤ w.heap.size) :
    ∃ v' w', (Builtin.append_ #[ts, ts] ty #[v, .slice A m c]).run P w = .ok v' w' ∧ Own w' base e k v' (zs ++ xs) ∧ w.grownBy w' v.ownBlock ∧
      (v'.ownBlock = v.ownBlock ∨ v'.ownBlock = some w.heap.size) := by
  obtain ⟨i, hi, hz, hsz, hb⟩ := info_parts hinfo
  have hwf : ∀ z ∈ zs ++ xs, (Lit.int k z).wf = true := by
    intro z hz'
    rcases List.mem_append.1 hz' with h | h
    · exact hown.1 z h
    · exact hr.2.1 z h
  have hxl := hr.1
  rcases A with _ | ad
  · have hm : m = 0 := by
      rcases Nat.eq_zero_or_pos m with h0 | h0
      · exact h0
      · obtain ⟨_, _, h, _⟩ := hr.2.2 h0
        cases h
    subst hm
    have hx : xs = [] := List.eq_nil_of_length_eq_zero hxl
    subst hx
    refine ⟨v, w, ?_, by simpa using hown, World.grownBy.refl w _, .inl rfl⟩
    rcases hown.2.2 with ⟨rfl, _⟩ | ⟨g, cap, cur, rfl, _, _, hnc, _⟩
    · simp [Builtin.append_, run_underlying ht, sizeOf, typeInfo, hi, Builtin.lenOf, Builtin.firstCells]
    · simp [Builtin.append_, run_underlying ht, sizeOf, typeInfo, hi, Builtin.lenOf, Builtin.firstCells, hnc, storeCells]
  · have hcells : ∀ j u, (xs.map (Value.int k))[j]? = some u → w.cell? (ad.add j) = some u := by
      intro j u hu
      have hj : j < m := by
        have := (List.getElem?_eq_some_iff.1 hu).1
        simp at this
        omega
      obtain ⟨b, off, h, _, hc⟩ := hr.at_ hj
      injection h with h
      subst h
      have e : (Addr.mk b off none).add j = ⟨b, off + j, none⟩ := by unfold Addr.add; split <;> simp_all
      rw [e, hc, ← hu]
      simp [List.getD_eq_getElem?_getD, show j < xs.length by omega]
    obtain ⟨v', w', hrun, h2, h3, _, h5⟩ := run_append_own_at (P := P) w base ts ty e i (.int k 0) 1 bytes ht hi hz hsz hb rfl (by omega) v zs.length (zs.map (Value.int k)) hown.2 ad m c
      (xs.map (Value.int k)) (by simp [hxl]) hcells (by intro u hu; obtain ⟨z, _, rfl⟩ := List.mem_map.1 hu; rfl) (by simp only [maxLen]; omega)
      (Nat.le_trans (Nat.mul_le_mul hlen hby) (by omega)) hbase
    refine ⟨v', w', hrun, ⟨hwf, ?_⟩, h3, h5⟩
    rw [List.length_append, List.map_append, hxl]
    exact h2
section
variable {P : Program} (w : World) {ops : Array Oper} {rest : List Oper} {o : Oper} {a : Act}
theorem wp_append_ints {K : Act → World → Prop} {Q : Exit → Act → World → Prop} (s x : Operand) (ts : TypeId)
    (ho : o.op = .call { callee := .builtin .append, args := #[s, x], argTypes := #[ts, ts] }) (base : Nat) (e : TypeId) (k : IntKind) (bytes : Nat) (ht : P.underlying ts = some (.slice e))
    (hinfo : (P.info? e).map (fun i => (i.zero, i.size, i.bytes)) = some (some (.int k 0), 1, bytes)) (v : Value) (zs : List Int) (hs : a.eval s = v) (hown : Own w base e k v zs)
    (B : Nat) (A : Option Addr) (m c : Nat) (xs : List Int) (hx : a.eval x = .slice A m c) (hr : Ints w k B A m xs) (hlen : zs.length + m ≤ 17592186044416) (hby : bytes ≤ 8) (hbase : base ≤ w.heap.size)
    (h : ∀ v' w', Own w' base e k v' (zs ++ xs) → w.grownBy w' v.ownBlock → (v'.ownBlock = v.ownBlock ∨ v'.ownBlock = some w.heap.size) → K (a.put o.dst v') w') : o.wp P a w K Q := by
  obtain ⟨v', w', hrun, h2, h3, h4⟩ := run_append_ints (P := P) w base ts o.type e k bytes ht hinfo v zs hown B A m c xs hr hlen hby hbase
  unfold Oper.wp execOp
  simp only [ho, resolve, invoke, builtin, Sem.run_bind, Sem.run_pure, Result.andThen_ok, List.map_toArray, List.map_cons, List.map_nil, hs, hx, hrun]
  exact h v' w' h2 h3 h4
theorem wpList_append_ints {Q : Exit → Act → World → Prop} (hw : Region.wanted o (yielded ops a.tmps) = true) (s x : Operand) (ts : TypeId)
    (ho : o.op = .call { callee := .builtin .append, args := #[s, x], argTypes := #[ts, ts] }) (base : Nat) (e : TypeId) (k : IntKind) (bytes : Nat) (ht : P.underlying ts = some (.slice e))
    (hinfo : (P.info? e).map (fun i => (i.zero, i.size, i.bytes)) = some (some (.int k 0), 1, bytes)) (v : Value) (zs : List Int) (hs : a.eval s = v) (hown : Own w base e k v zs)
    (B : Nat) (A : Option Addr) (m c : Nat) (xs : List Int) (hx : a.eval x = .slice A m c) (hr : Ints w k B A m xs) (hlen : zs.length + m ≤ 17592186044416) (hby : bytes ≤ 8) (hbase : base ≤ w.heap.size)
    (h : ∀ v' w', Own w' base e k v' (zs ++ xs) → w.grownBy w' v.ownBlock → (v'.ownBlock = v.ownBlock ∨ v'.ownBlock = some w.heap.size) → wpList P ops Q rest (a.put o.dst v') w') :
    wpList P ops Q (o :: rest) a w :=
  wpList_step fun _ hK => by
    rw [if_pos hw]
    exact wp_append_ints w s x ts ho base e k bytes ht hinfo v zs hs hown B A m c xs hx hr hlen hby hbase fun v' w' h2 h3 h4 => hK _ _ (h v' w' h2 h3 h4)
end
def Row (w : World) (g : Nat) (t : TypeId) (k : IntKind) (zs : List Int) : Prop := (∀ z ∈ zs, (Lit.int k z).wf = true) ∧ w.heap[g]? = some (.cells (zs.map (Value.int k)).toArray t (0, 0))
section
variable {w w' : World} {g : Nat} {t : TypeId} {k : IntKind} {zs : List Int}
theorem Row.lt (h : Row w g t k zs) : g < w.heap.size := (Array.getElem?_eq_some_iff.1 h.2).1
theorem Row.cell (h : Row w g t k zs) {i : Nat} (hi : i < zs.length) : w.cell? ⟨g, i, none⟩ = some (.int k (zs.getD i 0)) := by
  rw [cell_of_row w g i _ t (0, 0) h.2]
  simp [List.getD_eq_getElem?_getD, hi]
theorem Row.frozen (h : Row w g t k zs) (i : Nat) : w.frozen? ⟨g, i, none⟩ = false := by simp [World.frozen?, h.2]
theorem Row.below {B : Nat} (h : Row w g t k zs) (hb : Below B w w') (hg : g < B) : Row w' g t k zs := ⟨h.1, (hb.block g hg).trans h.2⟩
theorem Row.grown {row : Option Nat} (h : Row w g t k zs) (hb : w.grownBy w' row) (hg : some g ≠ row) : Row w' g t k zs := ⟨h.1, (hb.block g h.lt hg).trans h.2⟩
theorem Row.ints (h : Row w g t k zs) {n : Nat} (hn : n ≤ zs.length) : Ints w k w.heap.size (some ⟨g, 0, none⟩) n (zs.take n) :=
  ⟨by simp; omega, fun z hz => h.1 z (List.mem_of_mem_take hz), fun _ => ⟨g, 0, rfl, h.lt, fun i hi => by
    rw [Nat.zero_add, h.cell (by omega)]
    simp [List.getD_eq_getElem?_getD, hi]⟩⟩
theorem Row.own (h : Row w g t k zs) {base : Nat} (hb : base ≤ g) {n : Nat} (hn : n ≤ zs.length) (hm : zs.length ≤ maxLen) : Own w base t k (.slice (some ⟨g, 0, none⟩) n zs.length) (zs.take n) := by
  refine ⟨fun z hz => h.1 z (List.mem_of_mem_take hz), by simp, .inr ⟨g, zs.length, _, ?_, hb, h.2, ?_, hm, by simp, ?_⟩⟩
  · congr 1; simp; omega
  · simp; omega
  · simp only [Nat.mul_one]; rw [List.length_take, Nat.min_eq_left hn, List.map_take]
end
def Fill (w : World) (g : Nat) (t : TypeId) (cap : Nat) (L : List Value) (k : Nat) : Prop :=
  ∃ cur : Array Value, w.heap[g]? = some (.cells cur t (0, 0)) ∧ cur.size = cap ∧ cur.toList.take k = L.take k
section
variable {w w' : World} {g : Nat} {t : TypeId} {cap : Nat} {L : List Value} {k : Nat}
theorem Fill.new (w : World) (t : TypeId) (cur : Array Value) (L : List Value) : Fill (w.alloc (.cells cur t)) w.heap.size t cur.size L 0 := ⟨cur, heap_alloc_new w _, rfl, by simp⟩
theorem Fill.lt (h : Fill w g t cap L k) : g < w.heap.size := by obtain ⟨cur, h, _⟩ := h; exact (Array.getElem?_eq_some_iff.1 h).1
theorem Fill.frozen (h : Fill w g t cap L k) (i : Nat) : w.frozen? ⟨g, i, none⟩ = false := by obtain ⟨cur, h, _⟩ := h; simp [World.frozen?, h]
theorem Fill.cell (h : Fill w g t cap L k) {i : Nat} (hi : i < cap) : ∃ u, w.cell? ⟨g, i, none⟩ = some u := by
  obtain ⟨cur, h, hs, _⟩ := h
  rw [cell_of_row w g i _ t (0, 0) h]
  exact ⟨cur[i], Array.getElem?_eq_getElem (by omega)⟩
theorem Fill.read (h : Fill w g t cap L k) {i : Nat} (hi : i < k) {u : Value} (hu : L[i]? = some u) : w.cell? ⟨g, i, none⟩ = some u := by
  obtain ⟨cur, h, hs, e⟩ := h
  rw [cell_of_row w g i _ t (0, 0) h]
  have := congrArg (fun l => l[i]?) e
  simp only [List.getElem?_take, hi, if_true] at this
  rw [hu] at this
  simpa using this
theorem Fill.step (h : Fill w g t cap L k) {u : Value} (hu : L[k]? = some u) (hk : k < cap) : Fill (w.setCell ⟨g, k, none⟩ u) g t cap L (k + 1) := by
  obtain ⟨cur, h, hs, e⟩ := h
  refine ⟨cur.setIfInBounds k u, by simp [World.setCell, Array.getElem?_modify, h], by simpa using hs, ?_⟩
  rw [Array.toList_setIfInBounds, List.take_add_one, List.take_add_one, hu, List.take_set, List.getElem?_set]
  simp only [Array.length_toList, hs, hk, if_true]
  rw [List.set_eq_of_length_le (by simp; omega), e]
theorem Fill.keep (h : Fill w g t cap L k) (hb : w'.heap[g]? = w.heap[g]?) : Fill w' g t cap L k := by
  obtain ⟨cur, h, hs, e⟩ := h
  exact ⟨cur, hb.trans h, hs, e⟩
theorem Fill.done (h : Fill w g t cap L k) (hk : cap ≤ k) (hl : L.length = cap) : w.heap[g]? = some (.cells L.toArray t (0, 0)) := by
  obtain ⟨cur, h, hs, e⟩ := h
  rw [List.take_of_length_le (by simp; omega), List.take_of_length_le (by omega)] at e
  rw [h, ← e]
end
end Go.Proofs.YtipmfficjomcoaaDoor.Mem
namespace Go.Proofs.YtipmfficjomcoaaDoor.Mem
open Go.RowKit
def arr (k : IntKind) (zs : List Int) : Array Value := (zs.map (Value.int k)).toArray
theorem arr_get (k : IntKind) (zs : List Int) {i : Nat} (h : i < zs.length) : (arr k zs)[i]? = some (.int k (zs.getD i 0)) := by
  simp [arr, List.getD_eq_getElem?_getD, h]
section
variable {w w' : World} {g : Nat} {t : TypeId} {k : IntKind} {zs : List Int}
theorem Row.set (h : Row w g t k zs) (i : Nat) {z : Int} (hz : (Lit.int k z).wf = true) : Row (w.setCell ⟨g, i, none⟩ (.int k z)) g t k (zs.set i z) := by
  refine ⟨fun y hy => ?_, ?_⟩
  · rcases List.mem_or_eq_of_mem_set hy with h1 | h1
    · exact h.1 y h1
    · rw [h1]; exact hz
  · have hg := h.2
    simp only [World.setCell, Array.getElem?_modify, hg, if_true, Option.map_some, Obj.cells.injEq, Option.some.injEq]
    refine ⟨?_, trivial, trivial⟩
    rw [List.map_set]
    simp
theorem Row.other (h : Row w g t k zs) {p : Addr} (hp : p.block ≠ g) (v : Value) : Row (w.setCell p v) g t k zs := ⟨h.1, (heap_setCell_other w p g v (fun e => hp e.symm)).trans h.2⟩
theorem Row.alloc (h : Row w g t k zs) (o : Obj) : Row (w.alloc o) g t k zs := ⟨h.1, (Below.heap_alloc w o g h.lt).trans h.2⟩
theorem Row.drewN (h : Row w g t k zs) (m : Nat) : Row (w.drewN m) g t k zs := h
theorem Row.new (w : World) (t : TypeId) (hz : ∀ z ∈ zs, (Lit.int k z).wf = true) : Row (w.alloc (.cells (arr k zs) t)) w.heap.size t k zs := ⟨hz, heap_alloc_new w _⟩
theorem Row.setRow {old : List Int} (h : Row w g t k old) (hz : ∀ z ∈ zs, (Lit.int k z).wf = true) : Row (w.setRow g (arr k zs)) g t k zs := ⟨hz, setRow_heap w g _ _ t (0, 0) h.2⟩
theorem Row.setRow_other (h : Row w g t k zs) {g' : Nat} (hg : g' ≠ g) (cs : Array Value) : Row (w.setRow g' cs) g t k zs := ⟨h.1, (Go.setRow_other w g' g cs hg.symm).trans h.2⟩
theorem grown_setRow (w : World) (g : Nat) (cs : Array Value) : w.grownBy (w.setRow g cs) (some g) :=
  ⟨rfl, rfl, rfl, by simp, fun j _ hne => setRow_other w g j cs (fun e => hne (by rw [e]))⟩
end
section
variable {P : Program} {ops : Array Oper} {rest : List Oper} {o : Oper} {a : Act} {w : World} {Q : Exit → Act → World → Prop}
end
end Go.Proofs.YtipmfficjomcoaaDoor.Mem
namespace Go
namespace Proofs.YtipmfficjomcoaaDoor.Mem
end Proofs.YtipmfficjomcoaaDoor.Mem
end Go
namespace Go.Proofs.YtipmfficjomcoaaDoor.Mem
open Go.RowKit
def Vals (w : World) (B : Nat) (A : Option Addr) (n : Nat) (vs : List Value) : Prop :=
  vs.length = n ∧ (∀ v ∈ vs, v.oneCell' = true) ∧ (0 < n → ∃ b off, A = some ⟨b, off, none⟩ ∧ b < B ∧ ∀ i, i < n → w.cell? ⟨b, off + i, none⟩ = some (vs.getD i undef))
section
variable {w w' : World} {B B' n : Nat} {A : Option Addr} {vs : List Value}
theorem Vals.nil (w : World) (B : Nat) (A : Option Addr) : Vals w B A 0 [] := ⟨rfl, by simp, fun h => absurd h (by omega)⟩
theorem Vals.keep (h : Vals w B A n vs) (hk : ∀ p : Addr, p.block < B → w'.cell? p = w.cell? p) : Vals w' B A n vs :=
  ⟨h.1, h.2.1, fun hn => by
    obtain ⟨b, off, e, hb, hc⟩ := h.2.2 hn
    exact ⟨b, off, e, hb, fun i hi => (hk ⟨b, off + i, none⟩ hb).trans (hc i hi)⟩⟩
theorem Vals.more (h : Vals w B A n vs) (hB : B ≤ B') : Vals w B' A n vs :=
  ⟨h.1, h.2.1, fun hn => by
    obtain ⟨b, off, e, hb, hc⟩ := h.2.2 hn
    exact ⟨b, off, e, by omega, hc⟩⟩
theorem Vals.below (h : Vals w B A n vs) (hb : Below B w w') : Vals w' B A n vs := h.keep fun _ hp => hb.cell hp
theorem Vals.drewN (h : Vals w B A n vs) (m : Nat) : Vals (w.drewN m) B A n vs := h
theorem Vals.alloc (h : Vals w B A n vs) (hB : B ≤ w.heap.size) (o : Obj) : Vals (w.alloc o) B A n vs := h.keep fun p hp => World.cell?_alloc_lt w o p (by omega)
theorem Vals.at_ (h : Vals w B A n vs) {i : Nat} (hi : i < n) : ∃ b off, A = some ⟨b, off, none⟩ ∧ b < B ∧ w.cell? ⟨b, off + i, none⟩ = some (vs.getD i undef) := by
  obtain ⟨b, off, e, hb, hc⟩ := h.2.2 (by omega)
  exact ⟨b, off, e, hb, hc i hi⟩
end
theorem Vals.new (w : World) (t : TypeId) (vs : List Value) (h1 : ∀ v ∈ vs, v.oneCell' = true) : Vals (w.alloc (.cells vs.toArray t)) (w.heap.size + 1) (some ⟨w.heap.size, 0, none⟩) vs.length vs :=
  ⟨rfl, h1, fun hn => ⟨w.heap.size, 0, rfl, by omega, fun i hi => by
    rw [cell_of_row _ _ _ _ t (0, 0) (heap_alloc_new w _)]
    simp [List.getD_eq_getElem?_getD, hi]⟩⟩
end Go.Proofs.YtipmfficjomcoaaDoor.Mem
namespace Go.Proofs.YtipmfficjomcoaaDoor.Mem
open Go.RowKit
end Go.Proofs.YtipmfficjomcoaaDoor.Mem
