/-
  A bitonic network as a plain function on places; that behind all its stages all places rise (stages_rise); and that a round, done pair by pair in one list, is the network's step (round_is): no program here.
  The rounds of a network as plain numbers: how many places it has, which stage and step a round is, which pairs are up; what the bits of a place are: no program here.
  Package bitonic: Padded, stages, Rounds, apart, lower, by their contracts.
  Package bitonic: which stage and step a round is, and whether a pair is up, by their contracts.
-/
import Derived.Test.YtlinmcgmkpkpaaaDoorRows
import Derived.Test.YtlinmcgmkpkpaaaDoorB1
import Derived.Test.YtlinmcgmkpkpaaaDoorB2
import Derived.Test.YtlinmcgmkpkpaaaDoorB4
set_option linter.unusedVariables false
namespace Go.Proofs.YtlinmcgmkpkpaaaDoor.Net
def step (d : Nat) (up : Nat → Bool) (f : Nat → Int) (x : Nat) : Int :=
  if x / d % 2 = 0 then (if up x then min (f x) (f (x + d)) else max (f x) (f (x + d)))
  else (if up (x - d) then max (f (x - d)) (f x) else min (f (x - d)) (f x))
def steps (up : Nat → Bool) : Nat → (Nat → Int) → Nat → Int
  | 0, f => f
  | t + 1, f => steps up t (step (2 ^ t) up f)
def ups (s x : Nat) : Bool := decide (x / 2 ^ s % 2 = 0)
def stages : Nat → (Nat → Int) → Nat → Int
  | 0, f => f
  | s + 1, f => steps (ups (s + 1)) (s + 1) (stages s f)
def bstep (d : Nat) (up : Nat → Bool) (f : Nat → Bool) (x : Nat) : Bool :=
  if x / d % 2 = 0 then (if up x then f x && f (x + d) else f x || f (x + d))
  else (if up (x - d) then f (x - d) || f x else f (x - d) && f x)
def bsteps (up : Nat → Bool) : Nat → (Nat → Bool) → Nat → Bool
  | 0, f => f
  | t + 1, f => bsteps up t (bstep (2 ^ t) up f)
def bstages : Nat → (Nat → Bool) → Nat → Bool
  | 0, f => f
  | s + 1, f => bsteps (ups (s + 1)) (s + 1) (bstages s f)
def thr (c : Int) (f : Nat → Int) (x : Nat) : Bool := decide (c < f x)
theorem thr_step (c : Int) (d : Nat) (up : Nat → Bool) (f : Nat → Int) : thr c (step d up f) = bstep d up (thr c f) := by
  funext x
  unfold thr step bstep
  split <;> split <;> simp only [← Bool.decide_and, ← Bool.decide_or, decide_eq_decide] <;> omega
theorem thr_steps (c : Int) (up : Nat → Bool) : ∀ (t : Nat) (f : Nat → Int), thr c (steps up t f) = bsteps up t (thr c f)
  | 0, _ => rfl
  | t + 1, f => by rw [steps, bsteps, thr_steps c up t, thr_step]
theorem thr_stages (c : Int) : ∀ (s : Nat) (f : Nat → Int), thr c (stages s f) = bstages s (thr c f)
  | 0, _ => rfl
  | s + 1, f => by rw [stages, bstages, thr_steps, thr_stages c s]
def Bito (m o : Nat) (f : Nat → Bool) : Prop := ∃ (i j : Nat) (v : Bool), i ≤ j ∧ j ≤ m ∧ ∀ x, x < m → f (o + x) = (if i ≤ x ∧ x < j then !v else v)
def All (m o : Nat) (f : Nat → Bool) (v : Bool) : Prop := ∀ x, x < m → f (o + x) = v
def Rise (m o : Nat) (f : Nat → Bool) : Prop := ∀ x y, x ≤ y → y < m → f (o + x) = true → f (o + y) = true
def Fall (m o : Nat) (f : Nat → Bool) : Prop := ∀ x y, x ≤ y → y < m → f (o + y) = true → f (o + x) = true
theorem rise_cut {m o : Nat} {f : Nat → Bool} (h : Rise m o f) : ∃ i, i ≤ m ∧ ∀ x, x < m → f (o + x) = decide (i ≤ x) := by
  induction m with
  | zero => exact ⟨0, Nat.le_refl _, fun x hx => absurd hx (by omega)⟩
  | succ m ih =>
    obtain ⟨i, hi, hf⟩ := ih (fun x y hxy hy => h x y hxy (by omega))
    by_cases hm : f (o + m) = true
    · refine ⟨i, by omega, fun x hx => ?_⟩
      by_cases e : x = m
      · subst e
        rw [hm]
        exact (decide_eq_true (by omega)).symm
      · exact hf x (by omega)
    · refine ⟨m + 1, Nat.le_refl _, fun x hx => ?_⟩
      rw [decide_eq_false (by omega)]
      cases hv : f (o + x)
      · rfl
      · exact absurd (h x m (by omega) (by omega) hv) hm
theorem fall_cut {m o : Nat} {f : Nat → Bool} (h : Fall m o f) : ∃ j, j ≤ m ∧ ∀ x, x < m → f (o + x) = decide (x < j) := by
  induction m with
  | zero => exact ⟨0, Nat.le_refl _, fun x hx => absurd hx (by omega)⟩
  | succ m ih =>
    obtain ⟨j, hj, hf⟩ := ih (fun x y hxy hy => h x y hxy (by omega))
    by_cases hm : f (o + m) = true
    · refine ⟨m + 1, Nat.le_refl _, fun x hx => ?_⟩
      rw [decide_eq_true hx]
      exact h x m (by omega) (by omega) hm
    · refine ⟨j, by omega, fun x hx => ?_⟩
      by_cases e : x = m
      · subst e
        rw [decide_eq_false (by omega)]
        simpa using hm
      · exact hf x (by omega)
theorem bito_of {m o : Nat} {f : Nat → Bool} (h1 : Rise m o f) (h2 : Fall m (o + m) f) : Bito (2 * m) o f := by
  obtain ⟨i, hi, hf⟩ := rise_cut h1
  obtain ⟨j, hj, hg⟩ := fall_cut h2
  refine ⟨i, m + j, false, by omega, by omega, fun x hx => ?_⟩
  by_cases hm : x < m
  · rw [hf x hm]
    by_cases hix : i ≤ x
    · rw [if_pos ⟨hix, by omega⟩, decide_eq_true hix]; rfl
    · rw [if_neg (fun h => hix h.1), decide_eq_false hix]
  · have e : o + x = o + m + (x - m) := by omega
    rw [e, hg (x - m) (by omega)]
    by_cases hix : x - m < j
    · rw [if_pos ⟨by omega, by omega⟩, decide_eq_true hix]; rfl
    · rw [if_neg (by omega), decide_eq_false hix]
theorem half {h o : Nat} {f : Nat → Bool} (hb : Bito (2 * h) o f) :
    Bito h 0 (fun x => f (o + x) && f (o + x + h)) ∧ Bito h 0 (fun x => f (o + x) || f (o + x + h)) ∧ ((∀ x, x < h → (f (o + x) && f (o + x + h)) = false) ∨ ∀ x, x < h → (f (o + x) || f (o + x + h)) = true) := by
  obtain ⟨i, j, v, hij, hj, hf⟩ := hb
  have hx1 : ∀ x, x < h → f (o + x) = (if i ≤ x ∧ x < j then !v else v) := fun x hx => hf x (by omega)
  have hx2 : ∀ x, x < h → f (o + x + h) = (if i ≤ x + h ∧ x + h < j then !v else v) := fun x hx => by rw [Nat.add_assoc]; exact hf (x + h) (by omega)
  cases v
  · by_cases c1 : j ≤ h
    · refine ⟨⟨0, 0, false, by omega, by omega, fun x hx => ?_⟩, ⟨i, j, false, hij, c1, fun x hx => ?_⟩, .inl fun x hx => ?_⟩
      all_goals (try rw [Nat.zero_add]); simp only [hx1 x hx, hx2 x hx]
      · rw [if_neg (c := i ≤ x + h ∧ x + h < j) (by omega)]; simp
      · rw [if_neg (c := i ≤ x + h ∧ x + h < j) (by omega)]; simp
      · rw [if_neg (c := i ≤ x + h ∧ x + h < j) (by omega)]; simp
    by_cases c2 : h ≤ i
    · refine ⟨⟨0, 0, false, by omega, by omega, fun x hx => ?_⟩, ⟨i - h, j - h, false, by omega, by omega, fun x hx => ?_⟩, .inl fun x hx => ?_⟩
      all_goals (try rw [Nat.zero_add]); simp only [hx1 x hx, hx2 x hx]
      · rw [if_neg (c := i ≤ x ∧ x < j) (by omega)]; simp
      · rw [if_neg (c := i ≤ x ∧ x < j) (by omega)]
        by_cases c : i ≤ x + h ∧ x + h < j
        · rw [if_pos c, if_pos (by omega)]; rfl
        · rw [if_neg c, if_neg (by omega)]; rfl
      · rw [if_neg (c := i ≤ x ∧ x < j) (by omega)]; simp
    by_cases c3 : j - h ≤ i
    · refine ⟨⟨0, 0, false, by omega, by omega, fun x hx => ?_⟩, ⟨j - h, i, true, c3, by omega, fun x hx => ?_⟩, .inl fun x hx => ?_⟩
      all_goals (try rw [Nat.zero_add]); simp only [hx1 x hx, hx2 x hx]
      · by_cases c : i ≤ x
        · rw [if_neg (c := i ≤ x + h ∧ x + h < j) (by omega)]; simp
        · rw [if_neg (c := i ≤ x ∧ x < j) (by omega)]; simp
      · by_cases c : j - h ≤ x ∧ x < i
        · rw [if_neg (by omega), if_neg (by omega), if_pos c]; rfl
        · rw [if_neg c]
          by_cases c' : i ≤ x
          · rw [if_pos (by omega)]; rfl
          · rw [if_pos (c := i ≤ x + h ∧ x + h < j) (by omega)]; simp
      · by_cases c : i ≤ x
        · rw [if_neg (c := i ≤ x + h ∧ x + h < j) (by omega)]; simp
        · rw [if_neg (c := i ≤ x ∧ x < j) (by omega)]; simp
    · refine ⟨⟨i, j - h, false, by omega, by omega, fun x hx => ?_⟩, ⟨0, 0, true, by omega, by omega, fun x hx => ?_⟩, .inr fun x hx => ?_⟩
      all_goals (try rw [Nat.zero_add]); simp only [hx1 x hx, hx2 x hx]
      · by_cases c : i ≤ x ∧ x < j - h
        · rw [if_pos c, if_pos (by omega), if_pos (by omega)]; rfl
        · rw [if_neg c]
          by_cases c' : i ≤ x
          · rw [if_neg (c := i ≤ x + h ∧ x + h < j) (by omega)]; simp
          · rw [if_neg (c := i ≤ x ∧ x < j) (by omega)]; simp
      · rw [if_neg (c := 0 ≤ x ∧ x < 0) (by omega)]
        by_cases c' : i ≤ x
        · rw [if_pos (by omega)]; rfl
        · rw [if_pos (c := i ≤ x + h ∧ x + h < j) (by omega)]; simp
      · by_cases c' : i ≤ x
        · rw [if_pos (by omega)]; rfl
        · rw [if_pos (c := i ≤ x + h ∧ x + h < j) (by omega)]; simp
  · by_cases c1 : j ≤ h
    · refine ⟨⟨i, j, true, hij, c1, fun x hx => ?_⟩, ⟨0, 0, true, by omega, by omega, fun x hx => ?_⟩, .inr fun x hx => ?_⟩
      all_goals (try rw [Nat.zero_add]); simp only [hx1 x hx, hx2 x hx]
      · rw [if_neg (c := i ≤ x + h ∧ x + h < j) (by omega)]; simp
      · rw [if_neg (c := i ≤ x + h ∧ x + h < j) (by omega)]; simp
      · rw [if_neg (c := i ≤ x + h ∧ x + h < j) (by omega)]; simp
    by_cases c2 : h ≤ i
    · refine ⟨⟨i - h, j - h, true, by omega, by omega, fun x hx => ?_⟩, ⟨0, 0, true, by omega, by omega, fun x hx => ?_⟩, .inr fun x hx => ?_⟩
      all_goals (try rw [Nat.zero_add]); simp only [hx1 x hx, hx2 x hx]
      · rw [if_neg (c := i ≤ x ∧ x < j) (by omega)]
        by_cases c : i ≤ x + h ∧ x + h < j
        · rw [if_pos c, if_pos (by omega)]; rfl
        · rw [if_neg c, if_neg (by omega)]; rfl
      · rw [if_neg (c := i ≤ x ∧ x < j) (by omega)]; simp
      · rw [if_neg (c := i ≤ x ∧ x < j) (by omega)]; simp
    by_cases c3 : j - h ≤ i
    · refine ⟨⟨j - h, i, false, c3, by omega, fun x hx => ?_⟩, ⟨0, 0, true, by omega, by omega, fun x hx => ?_⟩, .inr fun x hx => ?_⟩
      all_goals (try rw [Nat.zero_add]); simp only [hx1 x hx, hx2 x hx]
      · by_cases c : j - h ≤ x ∧ x < i
        · rw [if_neg (by omega), if_neg (by omega), if_pos c]; rfl
        · rw [if_neg c]
          by_cases c' : i ≤ x
          · rw [if_pos (by omega)]; rfl
          · rw [if_pos (c := i ≤ x + h ∧ x + h < j) (by omega)]; simp
      · by_cases c : i ≤ x
        · rw [if_neg (c := i ≤ x + h ∧ x + h < j) (by omega)]; simp
        · rw [if_neg (c := i ≤ x ∧ x < j) (by omega)]; simp
      · by_cases c : i ≤ x
        · rw [if_neg (c := i ≤ x + h ∧ x + h < j) (by omega)]; simp
        · rw [if_neg (c := i ≤ x ∧ x < j) (by omega)]; simp
    · refine ⟨⟨0, 0, false, by omega, by omega, fun x hx => ?_⟩, ⟨i, j - h, true, by omega, by omega, fun x hx => ?_⟩, .inl fun x hx => ?_⟩
      all_goals (try rw [Nat.zero_add]); simp only [hx1 x hx, hx2 x hx]
      · rw [if_neg (c := 0 ≤ x ∧ x < 0) (by omega)]
        by_cases c' : i ≤ x
        · rw [if_pos (by omega)]; rfl
        · rw [if_pos (c := i ≤ x + h ∧ x + h < j) (by omega)]; simp
      · by_cases c : i ≤ x ∧ x < j - h
        · rw [if_pos c, if_pos (by omega), if_pos (by omega)]; rfl
        · rw [if_neg c]
          by_cases c' : i ≤ x
          · rw [if_neg (c := i ≤ x + h ∧ x + h < j) (by omega)]; simp
          · rw [if_neg (c := i ≤ x ∧ x < j) (by omega)]; simp
      · by_cases c' : i ≤ x
        · rw [if_pos (by omega)]; rfl
        · rw [if_pos (c := i ≤ x + h ∧ x + h < j) (by omega)]; simp
theorem low_bit {h q x : Nat} (hx : x < h) : (h * (2 * q) + x) / h % 2 = 0 := by
  rw [Nat.mul_add_div (by omega), Nat.div_eq_of_lt hx]; omega
theorem high_bit {h q x : Nat} (hx : x < h) : (h * (2 * q) + x + h) / h % 2 = 1 := by
  rw [show h * (2 * q) + x + h = h * (2 * q + 1) + x by rw [Nat.mul_add]; omega, Nat.mul_add_div (by omega), Nat.div_eq_of_lt hx]; omega
theorem bstep_low {h q x : Nat} {up : Nat → Bool} {f : Nat → Bool} (hx : x < h) : bstep h up f (h * (2 * q) + x) = if up (h * (2 * q) + x) then f (h * (2 * q) + x) && f (h * (2 * q) + x + h) else f (h * (2 * q) + x) || f (h * (2 * q) + x + h) := by
  rw [bstep, if_pos (low_bit hx)]
theorem bstep_high {h q x : Nat} {up : Nat → Bool} {f : Nat → Bool} (hx : x < h) : bstep h up f (h * (2 * q) + x + h) = if up (h * (2 * q) + x) then f (h * (2 * q) + x) || f (h * (2 * q) + x + h) else f (h * (2 * q) + x) && f (h * (2 * q) + x + h) := by
  rw [bstep, if_neg (by rw [high_bit hx]; omega), Nat.add_sub_cancel]
theorem pow2 (t : Nat) : 2 ^ (t + 1) = 2 * 2 ^ t := by rw [Nat.pow_succ, Nat.mul_comm]
theorem block0 (t q : Nat) : 2 ^ (t + 1) * q = 2 ^ t * (2 * q) := by rw [pow2, Nat.mul_comm 2, Nat.mul_assoc]
theorem block1 (t q : Nat) : 2 ^ (t + 1) * q + 2 ^ t = 2 ^ t * (2 * q + 1) := by rw [block0, Nat.mul_add, Nat.mul_one]
theorem all_steps (up : Nat → Bool) (v : Bool) : ∀ (t q : Nat) (f : Nat → Bool), All (2 ^ t) (2 ^ t * q) f v → All (2 ^ t) (2 ^ t * q) (bsteps up t f) v
  | 0, _, _, h => h
  | t + 1, q, f, h => by
    have h0 : All (2 ^ t) (2 ^ t * (2 * q)) (bstep (2 ^ t) up f) v := fun x hx => by
      have e1 := h x (by rw [pow2]; omega)
      have e2 := h (x + 2 ^ t) (by rw [pow2]; omega)
      rw [block0] at e1
      rw [block0, ← Nat.add_assoc] at e2
      rw [bstep_low hx, e1, e2]
      split <;> simp
    have h1 : All (2 ^ t) (2 ^ t * (2 * q + 1)) (bstep (2 ^ t) up f) v := fun x hx => by
      have e1 := h x (by rw [pow2]; omega)
      have e2 := h (x + 2 ^ t) (by rw [pow2]; omega)
      rw [block0] at e1
      rw [block0, ← Nat.add_assoc] at e2
      rw [show 2 ^ t * (2 * q + 1) + x = 2 ^ t * (2 * q) + x + 2 ^ t by rw [Nat.mul_add]; omega, bstep_high hx, e1, e2]
      split <;> simp
    have i0 := all_steps up v t _ _ h0
    have i1 := all_steps up v t _ _ h1
    intro x hx
    rw [bsteps]
    by_cases c : x < 2 ^ t
    · rw [block0]; exact i0 x c
    · rw [show 2 ^ (t + 1) * q + x = 2 ^ t * (2 * q + 1) + (x - 2 ^ t) by rw [← block1]; omega]
      exact i1 _ (by rw [pow2] at hx; omega)
theorem rise_join {m o : Nat} {f : Nat → Bool} (h1 : Rise m o f) (h2 : Rise m (o + m) f) (h : All m o f false ∨ All m (o + m) f true) : Rise (2 * m) o f := fun x y hxy hy hf => by
  by_cases cy : y < m
  · exact h1 x y hxy cy hf
  rcases h with h | h
  · by_cases cx : x < m
    · rw [h x cx] at hf; exact absurd hf (by simp)
    · have := h2 (x - m) (y - m) (by omega) (by omega) (by rw [show o + m + (x - m) = o + x by omega]; exact hf)
      rw [show o + m + (y - m) = o + y by omega] at this
      exact this
  · have := h (y - m) (by omega)
    rw [show o + m + (y - m) = o + y by omega] at this
    exact this
theorem fall_join {m o : Nat} {f : Nat → Bool} (h1 : Fall m o f) (h2 : Fall m (o + m) f) (h : All m o f true ∨ All m (o + m) f false) : Fall (2 * m) o f := fun x y hxy hy hf => by
  by_cases cy : y < m
  · exact h1 x y hxy cy hf
  rcases h with h | h
  · by_cases cx : x < m
    · exact h x cx
    · have := h2 (x - m) (y - m) (by omega) (by omega) (by rw [show o + m + (y - m) = o + y by omega]; exact hf)
      rw [show o + m + (x - m) = o + x by omega] at this
      exact this
  · have := h (y - m) (by omega)
    rw [show o + m + (y - m) = o + y by omega, hf] at this
    exact absurd this (by simp)
theorem bito_eq {m o o' : Nat} {f g : Nat → Bool} (h : Bito m o f) (e : ∀ x, x < m → g (o' + x) = f (o + x)) : Bito m o' g := by
  obtain ⟨i, j, v, h1, h2, hf⟩ := h
  exact ⟨i, j, v, h1, h2, fun x hx => (e x hx).trans (hf x hx)⟩
theorem sorts (up : Nat → Bool) : ∀ (t q : Nat) (f : Nat → Bool) (u : Bool), (∀ x, x < 2 ^ t → up (2 ^ t * q + x) = u) → Bito (2 ^ t) (2 ^ t * q) f → (u = true → Rise (2 ^ t) (2 ^ t * q) (bsteps up t f)) ∧ (u = false → Fall (2 ^ t) (2 ^ t * q) (bsteps up t f))
  | 0, q, f, u, _, _ => by
    refine ⟨fun _ x y hxy hy h => ?_, fun _ x y hxy hy h => ?_⟩
    · have : x = y := by simp at hy; omega
      rw [← this]; exact h
    · have : x = y := by simp at hy; omega
      rw [this]; exact h
  | t + 1, q, f, u, hu, hb => by
    rw [pow2, ← pow2 t, block0, pow2] at hb
    obtain ⟨ba, bo, hc⟩ := half hb
    have hu0 : ∀ x, x < 2 ^ t → up (2 ^ t * (2 * q) + x) = u := fun x hx => by rw [← block0]; exact hu x (by rw [pow2]; omega)
    have hu1 : ∀ x, x < 2 ^ t → up (2 ^ t * (2 * q + 1) + x) = u := fun x hx => by rw [← block1, Nat.add_assoc]; exact hu _ (by rw [pow2]; omega)
    have eh : ∀ x, 2 ^ t * (2 * q + 1) + x = 2 ^ t * (2 * q) + x + 2 ^ t := fun x => by rw [Nat.mul_add]; omega
    have eb : 2 ^ t * (2 * q) + 2 ^ t = 2 ^ t * (2 * q + 1) := by rw [Nat.mul_add, Nat.mul_one]
    rw [bsteps, pow2, ← pow2 t, block0, pow2]
    cases u
    · have l : ∀ x, x < 2 ^ t → bstep (2 ^ t) up f (2 ^ t * (2 * q) + x) = (f (2 ^ t * (2 * q) + x) || f (2 ^ t * (2 * q) + x + 2 ^ t)) := fun x hx => by rw [bstep_low hx, hu0 x hx]; rfl
      have h : ∀ x, x < 2 ^ t → bstep (2 ^ t) up f (2 ^ t * (2 * q + 1) + x) = (f (2 ^ t * (2 * q) + x) && f (2 ^ t * (2 * q) + x + 2 ^ t)) := fun x hx => by rw [eh, bstep_high hx, hu0 x hx]; rfl
      refine ⟨fun h => by simp at h, fun _ => ?_⟩
      have s0 := (sorts up t (2 * q) _ false hu0 (bito_eq bo (fun x hx => by rw [Nat.zero_add]; exact l x hx))).2 rfl
      have s1 := (sorts up t (2 * q + 1) _ false hu1 (bito_eq ba (fun x hx => by rw [Nat.zero_add]; exact h x hx))).2 rfl
      refine fall_join s0 (by rw [eb]; exact s1) ?_
      rw [eb]
      rcases hc with hc | hc
      · exact .inr (all_steps up false t _ _ (fun x hx => (h x hx).trans (hc x hx)))
      · exact .inl (all_steps up true t _ _ (fun x hx => (l x hx).trans (hc x hx)))
    · have l : ∀ x, x < 2 ^ t → bstep (2 ^ t) up f (2 ^ t * (2 * q) + x) = (f (2 ^ t * (2 * q) + x) && f (2 ^ t * (2 * q) + x + 2 ^ t)) := fun x hx => by rw [bstep_low hx, hu0 x hx]; rfl
      have h : ∀ x, x < 2 ^ t → bstep (2 ^ t) up f (2 ^ t * (2 * q + 1) + x) = (f (2 ^ t * (2 * q) + x) || f (2 ^ t * (2 * q) + x + 2 ^ t)) := fun x hx => by rw [eh, bstep_high hx, hu0 x hx]; rfl
      refine ⟨fun _ => ?_, fun h => by simp at h⟩
      have s0 := (sorts up t (2 * q) _ true hu0 (bito_eq ba (fun x hx => by rw [Nat.zero_add]; exact l x hx))).1 rfl
      have s1 := (sorts up t (2 * q + 1) _ true hu1 (bito_eq bo (fun x hx => by rw [Nat.zero_add]; exact h x hx))).1 rfl
      refine rise_join s0 (by rw [eb]; exact s1) ?_
      rw [eb]
      rcases hc with hc | hc
      · exact .inl (all_steps up false t _ _ (fun x hx => (l x hx).trans (hc x hx)))
      · exact .inr (all_steps up true t _ _ (fun x hx => (h x hx).trans (hc x hx)))
theorem ups_at {s q x : Nat} (hx : x < 2 ^ s) : ups s (2 ^ s * q + x) = decide (q % 2 = 0) := by
  rw [ups, Nat.mul_add_div (Nat.two_pow_pos s), Nat.div_eq_of_lt hx, Nat.add_zero]
theorem behind : ∀ (s : Nat) (f : Nat → Bool) (q : Nat), (q % 2 = 0 → Rise (2 ^ s) (2 ^ s * q) (bstages s f)) ∧ (q % 2 = 1 → Fall (2 ^ s) (2 ^ s * q) (bstages s f))
  | 0, f, q => by
    refine ⟨fun _ x y hxy hy h => ?_, fun _ x y hxy hy h => ?_⟩
    · have : x = y := by simp at hy; omega
      rw [← this]; exact h
    · have : x = y := by simp at hy; omega
      rw [this]; exact h
  | s + 1, f, q => by
    have r := (behind s f (2 * q)).1 (by omega)
    have d := (behind s f (2 * q + 1)).2 (by omega)
    have b : Bito (2 ^ (s + 1)) (2 ^ (s + 1) * q) (bstages s f) := by
      rw [block0, pow2]
      exact bito_of r (by rw [show 2 ^ s * (2 * q) + 2 ^ s = 2 ^ s * (2 * q + 1) by rw [Nat.mul_add, Nat.mul_one]]; exact d)
    have h := sorts (ups (s + 1)) (s + 1) q (bstages s f) (decide (q % 2 = 0)) (fun x hx => ups_at hx) b
    exact ⟨fun e => h.1 (decide_eq_true e), fun e => h.2 (decide_eq_false (by omega))⟩
theorem stages_rise (s : Nat) (f : Nat → Int) {x y : Nat} (hxy : x ≤ y) (hy : y < 2 ^ s) : stages s f x ≤ stages s f y := by
  rcases Int.lt_or_le (stages s f y) (stages s f x) with h | h
  · exfalso
    have r := (behind s (thr (stages s f y) f) 0).1 rfl x y hxy hy
    rw [← thr_stages] at r
    simp only [Nat.mul_zero, Nat.zero_add, thr, decide_eq_true_eq] at r
    have := r h
    omega
  · exact h
def firsts (d k : Nat) : List Nat := (List.range k).filter (fun a => decide (a / d % 2 = 0))
theorem firsts_succ (d k : Nat) : firsts d (k + 1) = firsts d k ++ (if k / d % 2 = 0 then [k] else []) := by
  unfold firsts
  rw [List.range_succ, List.filter_append]
  congr 1
  by_cases h : k / d % 2 = 0
  · rw [if_pos h]; simp [h]
  · rw [if_neg h]; simp [h]
def sw (d : Nat) (up : Nat → Bool) (l : List Int) (a : Nat) : List Int :=
  if decide (l.getD a 0 > l.getD (a + d) 0) = up a ∧ l.getD a 0 ≠ l.getD (a + d) 0 then (l.set a (l.getD (a + d) 0)).set (a + d) (l.getD a 0) else l
theorem sw_length (d : Nat) (up : Nat → Bool) (l : List Int) (a : Nat) : (sw d up l a).length = l.length := by
  unfold sw
  split <;> simp
def lead (d x : Nat) : Nat := if x / d % 2 = 0 then x else x - d
theorem lead_le (d x : Nat) : lead d x ≤ x := by unfold lead; split <;> omega
theorem high_of {d x : Nat} (hd : 0 < d) (h : ¬ x / d % 2 = 0) : d ≤ x ∧ (x - d) / d % 2 = 0 ∧ (x - d) / d = x / d - 1 := by
  have h1 : d ≤ x := by
    rcases Nat.lt_or_ge x d with c | c
    · rw [Nat.div_eq_of_lt c] at h; omega
    · exact c
  have h2 : (x - d) / d = x / d - 1 := by
    have := Nat.add_div_right (x - d) hd
    rw [Nat.sub_add_cancel h1] at this
    generalize x / d = u at *
    generalize (x - d) / d = v at *
    omega
  exact ⟨h1, by omega, h2⟩
theorem lead_bit {d : Nat} (hd : 0 < d) (x : Nat) : lead d x / d % 2 = 0 := by
  unfold lead
  split
  · assumption
  · rename_i h; exact (high_of hd h).2.1
theorem bit_high {d k : Nat} (hd : 0 < d) (h : k / d % 2 = 0) : (k + d) / d % 2 = 1 := by
  rw [Nat.add_div_right k hd]; omega
theorem lead_of_high {d k : Nat} (hd : 0 < d) (h : k / d % 2 = 0) : lead d (k + d) = k := by
  unfold lead
  rw [if_neg (by rw [bit_high hd h]; omega)]
  omega
theorem lead_eq {d k x : Nat} (hd : 0 < d) (h : lead d x = k) : x = k ∨ x = k + d := by
  unfold lead at h
  split at h
  · exact .inl h
  · rename_i c; have := (high_of hd c).1; exact .inr (by omega)
theorem sw_get {d a n : Nat} (up : Nat → Bool) {l : List Int} (hd : 0 < d) (hl : l.length = n) (ha : a + d < n) (x : Nat) :
    (sw d up l a).getD x 0 = if x = a then (if up a then min (l.getD a 0) (l.getD (a + d) 0) else max (l.getD a 0) (l.getD (a + d) 0)) else if x = a + d then (if up a then max (l.getD a 0) (l.getD (a + d) 0) else min (l.getD a 0) (l.getD (a + d) 0)) else l.getD x 0 := by
  have g : ∀ (m : List Int) (i j : Nat) (v : Int), i < m.length → (m.set i v).getD j 0 = if j = i then v else m.getD j 0 := fun m i j v hi => by
    rw [List.getD_eq_getElem?_getD, List.getD_eq_getElem?_getD, List.getElem?_set]
    by_cases e : j = i
    · subst e; simp [hi]
    · rw [if_neg e, if_neg (fun h => e h.symm)]
  unfold sw
  by_cases c : decide (l.getD a 0 > l.getD (a + d) 0) = up a ∧ l.getD a 0 ≠ l.getD (a + d) 0
  · rw [if_pos c, g _ _ _ _ (by rw [List.length_set]; omega), g _ _ _ _ (by omega)]
    obtain ⟨c1, c2⟩ := c
    by_cases e1 : x = a
    · rw [if_pos e1, if_neg (by omega), if_pos e1]
      cases hu : up a
      · rw [hu, decide_eq_false_iff_not] at c1; simp only [Bool.false_eq_true, if_false]; omega
      · rw [hu, decide_eq_true_eq] at c1; simp only [if_true]; omega
    · rw [if_neg e1, if_neg e1]
      by_cases e2 : x = a + d
      · rw [if_pos e2, if_pos e2]
        cases hu : up a
        · rw [hu, decide_eq_false_iff_not] at c1; simp only [Bool.false_eq_true, if_false]; omega
        · rw [hu, decide_eq_true_eq] at c1; simp only [if_true]; omega
      · rw [if_neg e2, if_neg e2]
  · rw [if_neg c]
    have c' : l.getD a 0 = l.getD (a + d) 0 ∨ ¬ decide (l.getD a 0 > l.getD (a + d) 0) = up a := by
      by_cases e : l.getD a 0 = l.getD (a + d) 0
      · exact .inl e
      · exact .inr fun h => c ⟨h, e⟩
    by_cases e1 : x = a
    · rw [if_pos e1, e1]
      cases hu : up a
      · rw [hu, decide_eq_false_iff_not] at c'; simp only [Bool.false_eq_true, if_false]; omega
      · rw [hu, decide_eq_true_eq] at c'; simp only [if_true]; omega
    · rw [if_neg e1]
      by_cases e2 : x = a + d
      · rw [if_pos e2, e2]
        cases hu : up a
        · rw [hu, decide_eq_false_iff_not] at c'; simp only [Bool.false_eq_true, if_false]; omega
        · rw [hu, decide_eq_true_eq] at c'; simp only [if_true]; omega
      · rw [if_neg e2]
theorem round_to {d n : Nat} (up : Nat → Bool) (hd : 0 < d) {l : List Int} (hl : l.length = n) (hn : ∀ a, a < n → a / d % 2 = 0 → a + d < n) :
    ∀ k, k ≤ n → ((firsts d k).foldl (sw d up) l).length = n ∧ ∀ x, ((firsts d k).foldl (sw d up) l).getD x 0 = if lead d x < k then step d up (fun i => l.getD i 0) x else l.getD x 0
  | 0, _ => ⟨hl, fun x => by rw [if_neg (by omega)]; rfl⟩
  | k + 1, hk => by
    obtain ⟨h1, h2⟩ := round_to up hd hl hn k (by omega)
    rw [firsts_succ, List.foldl_append]
    by_cases hb : k / d % 2 = 0
    · rw [if_pos hb]
      show (sw d up _ k).length = n ∧ ∀ x, (sw d up _ k).getD x 0 = _
      refine ⟨by rw [sw_length, h1], fun x => ?_⟩
      have ek : lead d k = k := by unfold lead; rw [if_pos hb]
      have eh := lead_of_high hd hb
      rw [sw_get up hd h1 (hn k (by omega) hb), h2 k, h2 (k + d), h2 x, ek, eh, if_neg (Nat.lt_irrefl k), if_neg (Nat.lt_irrefl k)]
      by_cases e1 : x = k
      · subst e1
        rw [if_pos rfl, ek, if_pos (Nat.lt_add_one x), step, if_pos hb]
      · rw [if_neg e1]
        by_cases e2 : x = k + d
        · subst e2
          rw [if_pos rfl, eh, if_pos (Nat.lt_add_one k), step, if_neg (show ¬ (k + d) / d % 2 = 0 by rw [bit_high hd hb]; omega), Nat.add_sub_cancel]
        · rw [if_neg e2]
          have : lead d x ≠ k := fun h => (lead_eq hd h).elim e1 e2
          by_cases c : lead d x < k
          · rw [if_pos c, if_pos (by omega)]
          · rw [if_neg c, if_neg (by omega)]
    · rw [if_neg hb, List.foldl_nil]
      refine ⟨h1, fun x => ?_⟩
      rw [h2 x]
      have : lead d x ≠ k := fun h => hb (by rw [← h]; exact lead_bit hd x)
      by_cases c : lead d x < k
      · rw [if_pos c, if_pos (by omega)]
      · rw [if_neg c, if_neg (by omega)]
theorem round_is {d n : Nat} (up : Nat → Bool) (hd : 0 < d) {l : List Int} (hl : l.length = n) (hn : ∀ a, a < n → a / d % 2 = 0 → a + d < n) :
    ((firsts d n).foldl (sw d up) l).length = n ∧ ∀ x, x < n → ((firsts d n).foldl (sw d up) l).getD x 0 = step d up (fun i => l.getD i 0) x := by
  obtain ⟨h1, h2⟩ := round_to up hd hl hn n (Nat.le_refl _)
  exact ⟨h1, fun x hx => by rw [h2, if_pos (Nat.lt_of_le_of_lt (lead_le d x) hx)]⟩
end Go.Proofs.YtlinmcgmkpkpaaaDoor.Net
namespace Go.Proofs.YtlinmcgmkpkpaaaDoor.Bi
open Go.RowKit
def padF : Nat → Nat → Int → Nat
  | 0, k, _ => k
  | f + 1, k, n => if (2 : Int) ^ k < n then padF f (k + 1) n else k
def padS (n : Int) : Nat := padF 16 0 n
def padV (n : Int) : Int := 2 ^ padS n
def stg (n : Int) : Nat := if padV n = n then padS n else 0
def tri (s : Nat) : Nat := s * (s + 1) / 2
theorem padF_le : ∀ (f k : Nat) (n : Int), k ≤ padF f k n ∧ padF f k n ≤ k + f
  | 0, k, n => by simp [padF]
  | f + 1, k, n => by
    unfold padF
    split
    · have := padF_le f (k + 1) n; omega
    · omega
theorem padS_le (n : Int) : padS n ≤ 16 := by have := padF_le 16 0 n; unfold padS; omega
theorem two_mono {a b : Nat} (h : a ≤ b) : (2 : Int) ^ a ≤ 2 ^ b := by
  have := Nat.pow_le_pow_right (n := 2) (by omega) h
  exact_mod_cast this
theorem two_pos (a : Nat) : (1 : Int) ≤ 2 ^ a := by have := two_mono (Nat.zero_le a); simpa using this
theorem two_16 {a : Nat} (h : a ≤ 16) : (2 : Int) ^ a ≤ 65536 := by have := two_mono h; simpa using this
theorem two_succ (a : Nat) : (2 : Int) ^ (a + 1) = 2 * 2 ^ a := by rw [Int.pow_succ]; omega
theorem two_nat (a : Nat) : (2 : Int) ^ a = ((2 ^ a : Nat) : Int) := by simp
theorem padF_pow : ∀ (f k s : Nat), k ≤ s → s ≤ k + f → padF f k (2 ^ s) = s
  | 0, k, s => by intro h1 h2; simp [padF]; omega
  | f + 1, k, s => by
    intro h1 h2
    unfold padF
    split
    · rename_i h
      have : k ≠ s := by rintro rfl; omega
      exact padF_pow f (k + 1) s (by omega) (by omega)
    · rename_i h
      rcases Nat.lt_or_ge k s with c | c
      · have := two_mono (show k + 1 ≤ s by omega)
        rw [two_succ] at this
        have := two_pos k
        omega
      · omega
theorem padS_pow {s : Nat} (h : s ≤ 16) : padS (2 ^ s) = s := padF_pow 16 0 s (by omega) (by omega)
theorem padV_pow {s : Nat} (h : s ≤ 16) : padV (2 ^ s) = 2 ^ s := by unfold padV; rw [padS_pow h]
theorem stg_pow {s : Nat} (h : s ≤ 16) : stg (2 ^ s) = s := by unfold stg; rw [if_pos (padV_pow h), padS_pow h]
theorem stg_le (n : Int) : stg n ≤ 16 := by unfold stg; split; exact padS_le n; omega
theorem stg_is (n : Int) : n = 2 ^ stg n ∨ (stg n = 0 ∧ padV n ≠ n) := by
  unfold stg
  split
  · rename_i h; exact .inl h.symm
  · rename_i h; exact .inr ⟨rfl, h⟩
theorem tri_zero : tri 0 = 0 := rfl
theorem tri_succ (s : Nat) : tri (s + 1) = tri s + (s + 1) := by
  unfold tri
  have h : (s + 1) * (s + 1 + 1) = s * (s + 1) + 2 * (s + 1) := by
    rw [show s + 1 + 1 = s + 2 by omega, Nat.mul_add, Nat.mul_comm (s + 1) s]; omega
  rw [h]; omega
theorem tri_mono {a b : Nat} (h : a ≤ b) : tri a ≤ tri b := by
  induction b with
  | zero => have : a = 0 := by omega
            subst this; exact Nat.le_refl _
  | succ b ih =>
    rcases Nat.lt_or_ge a (b + 1) with c | c
    · have := ih (by omega); rw [tri_succ]; omega
    · have : a = b + 1 := by omega
      subst this; exact Nat.le_refl _
theorem tri_le {s : Nat} (h : s ≤ 16) : tri s ≤ 136 := tri_mono h
structure Stp (S : Nat) (r : Int) (s t : Nat) : Prop where
  t1 : 1 ≤ t
  ts : t ≤ s
  sS : s ≤ S
  e : r = ((tri (s - 1) + (s - t) : Nat) : Int)
theorem Stp.lt {S : Nat} {r : Int} {s t : Nat} (h : Stp S r s t) : 0 ≤ r ∧ r < (tri S : Int) := by
  obtain ⟨h1, h2, h3, h4⟩ := h
  obtain ⟨q, rfl⟩ : ∃ q, s = q + 1 := ⟨s - 1, by omega⟩
  have := tri_mono h3
  rw [tri_succ] at this
  simp only [Nat.add_sub_cancel] at h4
  omega
theorem Stp.unique {S : Nat} {r : Int} {s t s' t' : Nat} (h : Stp S r s t) (h' : Stp S r s' t') : s = s' ∧ t = t' := by
  obtain ⟨h1, h2, h3, h4⟩ := h
  obtain ⟨k1, k2, k3, k4⟩ := h'
  obtain ⟨q, rfl⟩ : ∃ q, s = q + 1 := ⟨s - 1, by omega⟩
  obtain ⟨q', rfl⟩ : ∃ q, s' = q + 1 := ⟨s' - 1, by omega⟩
  simp only [Nat.add_sub_cancel] at h4 k4
  rcases Nat.lt_trichotomy q q' with c | c | c
  · have := tri_mono (show q + 1 ≤ q' by omega)
    rw [tri_succ] at this
    omega
  · subst c; omega
  · have := tri_mono (show q' + 1 ≤ q by omega)
    rw [tri_succ] at this
    omega
def Found (S : Nat) (r : Int) (s t : Nat) (ok : Bool) : Prop := (ok = true ∧ Stp S r s t) ∨ (ok = false ∧ s = 0 ∧ t = 0 ∧ ¬ (0 ≤ r ∧ r < (tri S : Int)))
def upV (n : Int) (s t : Nat) (ok : Bool) (a : Int) : Bool := ok && decide (0 ≤ a) && decide (a < n) && decide (a / 2 ^ (t - 1) % 2 = 0) && decide (a / 2 ^ s % 2 = 0)
theorem and_pow (a k : Nat) : a &&& 2 ^ k = if a / 2 ^ k % 2 = 0 then 0 else 2 ^ k := by
  apply Nat.eq_of_testBit_eq
  intro i
  rw [Nat.testBit_and, Nat.testBit_two_pow]
  have hk : a.testBit k = decide (a / 2 ^ k % 2 = 1) := Nat.testBit_eq_decide_div_mod_eq
  by_cases h : a / 2 ^ k % 2 = 0
  · rw [if_pos h, Nat.zero_testBit]
    by_cases e : k = i
    · subst e; rw [hk, h]; rfl
    · simp [e]
  · rw [if_neg h, Nat.testBit_two_pow]
    by_cases e : k = i
    · subst e; rw [hk, show a / 2 ^ k % 2 = 1 by omega]; simp
    · simp [e]
theorem i64_and_nat (a b : Nat) (ha : a < 9223372036854775808) (hb : b < 9223372036854775808) : bits .and .i64 (a : Int) (b : Int) = ((a &&& b : Nat) : Int) := by
  have hlt : a &&& b < 9223372036854775808 := Nat.lt_of_le_of_lt Nat.and_le_left ha
  have key : (BitVec.ofInt 64 (a : Int) &&& BitVec.ofInt 64 (b : Int)).toNat = a &&& b := by
    rw [BitVec.toNat_and, BitVec.toNat_ofInt, BitVec.toNat_ofInt]
    have e1 : ((a : Int) % ((2 ^ 64 : Nat) : Int)).toNat = a := by omega
    have e2 : ((b : Int) % ((2 ^ 64 : Nat) : Int)).toNat = b := by omega
    rw [e1, e2]
  show IntKind.i64.wrap ((BitVec.ofInt 64 (a : Int) &&& BitVec.ofInt 64 (b : Int)).toNat : Nat) = _
  rw [key, IntKind.wrap_i64]
  omega
theorem bit_of {a : Int} {k : Nat} (h0 : 0 ≤ a) (h1 : a < 9223372036854775808) (hk : k ≤ 16) : bits .and .i64 a (2 ^ k) = if a / 2 ^ k % 2 = 0 then 0 else 2 ^ k := by
  obtain ⟨n, rfl⟩ := Int.eq_ofNat_of_zero_le h0
  have := two_16 hk
  rw [two_nat] at this
  rw [two_nat, i64_and_nat _ _ (by omega) (by omega), and_pow, ← Int.natCast_ediv, show ((n / 2 ^ k : Nat) : Int) % 2 = ((n / 2 ^ k % 2 : Nat) : Int) by omega]
  by_cases h : n / 2 ^ k % 2 = 0
  · rw [if_pos h, if_pos (by omega)]; rfl
  · rw [if_neg h, if_neg (by omega)]
theorem bit_zero {a : Int} {k : Nat} (h0 : 0 ≤ a) (h1 : a < 9223372036854775808) (hk : k ≤ 16) : decide (bits .and .i64 a (2 ^ k) = 0) = decide (a / 2 ^ k % 2 = 0) := by
  rw [bit_of h0 h1 hk]
  have := two_pos k
  by_cases h : a / 2 ^ k % 2 = 0
  · rw [if_pos h]; simp [h]
  · rw [if_neg h]; simp [h]; omega
theorem bit_one {a : Int} (h0 : 0 ≤ a) (h1 : a < 9223372036854775808) : decide (bits .and .i64 a 1 = 0) = decide (a % 2 = 0) := by
  have := bit_zero (k := 0) h0 h1 (by omega)
  simpa using this
end Go.Proofs.YtlinmcgmkpkpaaaDoor.Bi
namespace Go.Proofs.YtlinmcgmkpkpaaaDoor.Bi
open Go.RowKit Go.Shelf Go.Proofs.YtlinmcgmkpkpaaaDoor Mem Held
attribute [local go_sem] Oper.semAt_some
attribute [local irreducible] wpList wpListIn Calls
def tzT : List Int := [0, 1, 56, 2, 57, 49, 28, 3, 61, 58, 42, 50, 38, 29, 17, 4, 62, 47, 59, 36, 45, 43, 51, 22, 53, 39, 33, 30, 24, 18, 12, 5, 63, 55, 48, 27, 60, 41, 37, 16, 46, 35, 44, 21, 52, 32, 23, 11, 54, 26, 40, 15, 34, 20, 31, 10, 25, 14, 19, 9, 13, 8, 7, 6]
def TzT (w : World) : Prop := Po.TabK w 1 .u8 tzT
theorem y_neg_ {P : Program} {S : World → Prop} {ρ : Operand → Value} {o : Oper} {t ty : TypeId} {x : Operand} {k : IntKind} {a r : Int} (ho : o.op = .unOp .neg t x) (hx : ρ x = .int k a) (hr : k.wrap (-a) = r) :
    ∀ w, S w → (execOp ρ o).run P w = .ok (.value (.int k r)) w := fun w _ => by
  subst hr
  simp [execOp, ho, hx, Op.unary, Op.intArith]
set_option maxRecDepth 100000 in
set_option maxHeartbeats 2000000 in
theorem padded_any (n : Int) (w : World) (h0 : -9223372036854775808 ≤ n) (h1 : n ≤ 9223372036854775807) :
    Calls Tryd.prog 29 #[.int .i64 n] w fun e w' => e = .returned (.int .i64 (padV n)) ∧ w = w' := by
  go_enter Tryd.func29, Tryd.ntmps29
  go_wp2_with fail
  go_loopw [3] (fun v wr => ∃ (k : Nat) (p : Int), v = .int .i64 p ∧ Hid (p = 2 ^ k) ∧ k ≤ 16 ∧ Hid (padF (16 - k) k n = padS n) ∧ w = wr) (fun v _ => (70000 - intOf v).toNat)
  case atStart => exact ⟨0, 1, rfl, Lib.hid (by simp), by omega, Lib.hid rfl, rfl⟩
  case round =>
    obtain ⟨k, p, rfl, hp, hk, hf, rfl⟩ := hrel
    have p1 : 1 ≤ p := by rw [hp.out]; exact two_pos k
    have p2 : p ≤ 65536 := by rw [hp.out]; exact two_16 hk
    by_cases c1 : p < n
    · by_cases c2 : p < 65536
      · have k16 : k < 16 := by
          rcases Nat.lt_or_ge k 16 with c | c
          · exact c
          · have : k = 16 := by omega
            have := hp.out
            subst k
            omega
        have HN := Lib.hid (show padF (16 - (k + 1)) (k + 1) n = padS n by
          rw [← hf.out, show 16 - k = (16 - (k + 1)) + 1 by omega]
          rw [hp.out] at c1
          conv => rhs; rw [padF, if_pos c1])
        have HP := Lib.hid (show p * 2 = 2 ^ (k + 1) by rw [hp.out, two_succ]; omega)
        go_wp2_with fail
        go_roundw
        case rel => exact ⟨k + 1, p * 2, by go_num, HP, by omega, HN, trivial⟩
        case measure => simp [intOf]; omega
      · have k16 : k = 16 := by
          rcases Nat.lt_or_ge k 16 with c | c
          · have := two_mono (show k ≤ 15 by omega)
            have h15 : (2 : Int) ^ 15 = 32768 := by decide
            rw [← hp.out] at this
            omega
          · omega
        have HN := Lib.hid (show p = padV n by
          have := hf.out
          rw [k16] at this
          unfold padV
          rw [← this, hp.out, k16]
          rfl)
        go_wp2_with fail
        go_ret
        exact ⟨by rw [HN.out]; rfl, rfl⟩
    · have HN := Lib.hid (show p = padV n by
        have := hf.out
        unfold padV
        rw [← this, hp.out]
        rw [hp.out] at c1
        cases hq : 16 - k with
        | zero => rfl
        | succ q => rw [padF, if_neg c1])
      go_wp2_with fail
      go_ret
      exact ⟨by rw [HN.out]; rfl, rfl⟩
theorem apart_any (t : Nat) (w : World) (h1 : 1 ≤ t) (h2 : t ≤ 16) :
    Calls Tryd.prog 85 #[.int .i64 (t : Int)] w fun e w' => e = .returned (.int .i64 (2 ^ (t - 1))) ∧ w = w' := by
  have hr := fun W : World => Rc.run_shl_ (P := Tryd.prog) 3 .i64 .i64 (a := 1) (t - 1) (by show t - 1 ≤ 64; omega) W
  have h3 := two_pos (t - 1)
  have h4 := two_16 (show t - 1 ≤ 16 by omega)
  rw [show (1 : Int) * 2 ^ (t - 1) = 2 ^ (t - 1) by omega] at hr
  obtain ⟨d, hd⟩ : ∃ d : Int, 2 ^ (t - 1) = d := ⟨_, rfl⟩
  rw [hd] at h3 h4 hr ⊢
  rw [show IntKind.i64.wrap d = d by rw [IntKind.wrap_i64]; omega] at hr
  have ht : IntKind.i64.wrap ((t : Int) - 1) = ((t - 1 : Nat) : Int) := by rw [IntKind.wrap_i64]; omega
  clear hd
  go_enter Tryd.func85, Tryd.ntmps85
  go_wp2_with (first
    | (refine Held.wpList_run (w := w) rfl (v := .int .i64 ((t - 1 : Nat) : Int)) (Held.y_int (S := fun _ => True) rfl rfl rfl (Held.run_sub 3 .i64 ht) _ trivial) ?_)
    | (refine Held.wpList_run (w := w) rfl (v := .int .i64 d) (Held.y_bin (S := fun _ => True) rfl rfl rfl (fun W => by simp [eqGuard]) hr _ trivial) ?_))
  go_ret
  exact ⟨rfl, rfl⟩
theorem lower_any (a : Int) (t : Nat) (w : World) (ha : 0 ≤ a) (ha' : a < 9223372036854775808) (h1 : 1 ≤ t) (h2 : t ≤ 16) :
    Calls Tryd.prog 84 #[.int .i64 a, .int .i64 (t : Int)] w fun e w' => e = .returned (.bool (decide (a / 2 ^ (t - 1) % 2 = 0))) ∧ w = w' := by
  have hb := bit_zero ha ha' (show t - 1 ≤ 16 by omega)
  rw [← hb]
  have HA := fun W => apart_any t W h1 h2
  obtain ⟨d, hd⟩ : ∃ d : Int, 2 ^ (t - 1) = d := ⟨_, rfl⟩
  rw [hd] at HA ⊢
  clear hd hb
  go_enter Tryd.func84, Tryd.ntmps84
  go_wp2_with fail
  refine (HA w).mono ?_
  rintro e w1 ⟨rfl, rfl⟩
  go_wp2_with (refine Held.wpList_run (w := w) rfl (v := .int .i64 (bits .and .i64 a d)) (Held.y_int (S := fun _ => True) rfl rfl rfl (Held.run_bitop (by simp) 3 .i64 rfl) _ trivial) ?_)
  go_ret
  exact ⟨Mem.ret_bool rfl, rfl⟩
theorem tz_index : ∀ s : Fin 17, (bits .and .u64 (2 ^ s.val) (IntKind.u64.wrap (-(2 ^ s.val)))) = 2 ^ s.val ∧ IntKind.u64.wrap (2 ^ s.val * 285870213051353865) / 2 ^ 58 = ((IntKind.u64.wrap (2 ^ s.val * 285870213051353865) / 2 ^ 58).toNat : Nat) ∧
    (IntKind.u64.wrap (2 ^ s.val * 285870213051353865) / 2 ^ 58).toNat < 64 ∧ tzT.getD (IntKind.u64.wrap (2 ^ s.val * 285870213051353865) / 2 ^ 58).toNat 0 = (s.val : Int) := by decide +kernel
set_option maxRecDepth 100000 in
set_option maxHeartbeats 2000000 in
theorem tz_any (s : Nat) (w : World) (hs : s ≤ 16) (hT : TzT w) :
    Calls Tryd.prog 80 #[.int .u64 (2 ^ s)] w fun e w' => e = .returned (.int .i64 (s : Int)) ∧ w = w' := by
  obtain ⟨e1, e2, e3, e4⟩ := tz_index ⟨s, by omega⟩
  simp only at e1 e2 e3 e4
  have p1 := two_pos s
  have p2 := two_16 hs
  obtain ⟨x, hx⟩ : ∃ x : Int, 2 ^ s = x := ⟨_, rfl⟩
  rw [hx] at p1 p2 e1 e2 e3 e4 ⊢
  obtain ⟨m, hm⟩ : ∃ m : Int, IntKind.u64.wrap (x * 285870213051353865) = m := ⟨_, rfl⟩
  rw [hm] at e2 e3 e4
  obtain ⟨j, hj⟩ : ∃ j : Nat, (m / 2 ^ 58).toNat = j := ⟨_, rfl⟩
  rw [hj] at e2 e3 e4
  have hc := Po.TabK.cell hT (i := j) (by simpa [tzT] using e3)
  rw [e4] at hc
  have hsh := fun W : World => Held.run_shr (P := Tryd.prog) 23 .u64 .u64 (a := m) (r := (j : Int)) 58 (by decide) e2 W
  obtain ⟨ng, hng⟩ : ∃ ng : Int, IntKind.u64.wrap (-x) = ng := ⟨_, rfl⟩
  rw [hng] at e1
  have x0 : ¬ x = 0 := by omega
  have hw : IntKind.i64.wrap (s : Int) = (s : Int) := by rw [IntKind.wrap_i64]; omega
  have hidx := fun W : World => Held.run_addr_arr (P := Tryd.prog) 145 5 64 1 j .u64 Tryd.underlying145 (by kernel_rfl) e3 W
  have HS := Lib.hid hs
  clear hs hj e2 hx p2
  go_enter Tryd.func80, Tryd.ntmps80
  go_wp2_with (first
    | (refine Held.wpList_run (w := w) rfl (v := .int .u64 ng) (y_neg_ (S := fun _ => True) rfl rfl hng _ trivial) ?_)
    | (refine Held.wpList_run (w := w) rfl (v := .int .u64 x) (Held.y_int (S := fun _ => True) rfl rfl rfl (Held.run_bitop (by simp) 23 .u64 e1) _ trivial) ?_)
    | (refine Held.wpList_run (w := w) rfl (v := .int .u64 m) (Held.y_int (S := fun _ => True) rfl rfl rfl (Held.run_mul 23 .u64 hm) _ trivial) ?_)
    | (refine Held.wpList_run (w := w) rfl (v := .int .u64 (j : Int)) (Held.y_bin (S := fun _ => True) rfl rfl rfl (fun W => by simp [eqGuard]) hsh _ trivial) ?_)
    | (refine Held.wpList_run (w := w) rfl (v := .pointer (some ⟨1, j, none⟩)) (Held.y_addr (S := fun _ => True) rfl rfl rfl hidx _ trivial) ?_)
    | (refine Held.wpList_run (w := w) rfl (v := .int .u8 (s : Int)) (Held.y_load (S := fun W => W = w) rfl rfl (by kernel_rfl) (fun W hW => by rw [hW]; exact hc) _ rfl) ?_))
  go_ret
  exact ⟨rfl, rfl⟩
theorem tzs_any (s : Nat) (w : World) (hs : s ≤ 16) (hT : TzT w) :
    Calls Tryd.prog 61 #[.int .u64 (2 ^ s)] w fun e w' => e = .returned (.int .i64 (s : Int)) ∧ w = w' := by
  have H := tz_any s w hs hT
  have p1 := two_pos s
  have p2 := two_16 hs
  obtain ⟨x, hx⟩ : ∃ x : Int, 2 ^ s = x := ⟨_, rfl⟩
  rw [hx] at p1 p2 H ⊢
  clear hx
  go_enter Tryd.func61, Tryd.ntmps61
  go_wp2_with fail
  refine H.mono ?_
  rintro e w1 ⟨rfl, rfl⟩
  go_wp2_with fail
  go_ret
  exact ⟨rfl, rfl⟩
theorem stages_any (n : Int) (w : World) (h0 : -9223372036854775808 ≤ n) (h1 : n ≤ 9223372036854775807) (hT : TzT w) :
    Calls Tryd.prog 49 #[.int .i64 n] w fun e w' => e = .returned (.int .i64 (stg n : Int)) ∧ w = w' := by
  have H := fun W => padded_any n W h0 h1
  by_cases hp : padV n = n
  · have hs : stg n = padS n := by unfold stg; rw [if_pos hp]
    have hn : n = 2 ^ padS n := hp.symm
    have HZ := tzs_any (padS n) w (padS_le n) hT
    rw [← hn] at HZ
    have p1 := two_pos (padS n)
    have p2 := two_16 (padS_le n)
    rw [← hn] at p1 p2
    rw [hp] at H
    rw [hs]
    have hwr : IntKind.u64.wrap n = n := by rw [IntKind.wrap_u64]; omega
    generalize padS n = q at *
    clear hn hp hs
    go_enter Tryd.func49, Tryd.ntmps49
    go_wp2_with fail
    refine (H w).mono ?_
    rintro e w1 ⟨rfl, rfl⟩
    go_wp2_with fail
    refine HZ.mono ?_
    rintro e w1 ⟨rfl, rfl⟩
    go_wp2_with fail
    go_ret
    exact ⟨rfl, rfl⟩
  · have hs : stg n = 0 := by unfold stg; rw [if_neg hp]
    rw [hs]
    generalize padV n = v at *
    go_enter Tryd.func49, Tryd.ntmps49
    go_wp2_with fail
    refine (H w).mono ?_
    rintro e w1 ⟨rfl, rfl⟩
    go_wp2_with fail
    go_ret
    exact ⟨rfl, rfl⟩
theorem rounds_any (n : Int) (w : World) (h0 : -9223372036854775808 ≤ n) (h1 : n ≤ 9223372036854775807) (hT : TzT w) :
    Calls Tryd.prog 35 #[.int .i64 n] w fun e w' => e = .returned (.int .i64 (tri (stg n) : Int)) ∧ w = w' := by
  have H := stages_any n w h0 h1 hT
  have h16 := stg_le n
  have htri : tri (stg n) = stg n * (stg n + 1) / 2 := rfl
  rw [htri]
  generalize stg n = q at *
  clear htri hT h0 h1
  have b : q * (q + 1) ≤ 16 * 17 := Nat.mul_le_mul h16 (by omega)
  obtain ⟨m, hm⟩ : ∃ m, q * (q + 1) = m := ⟨_, rfl⟩
  have hmul : IntKind.i64.wrap ((q : Int) * ((q : Int) + 1)) = (m : Int) := by
    rw [show (q : Int) * ((q : Int) + 1) = (m : Int) by rw [← hm]; simp, IntKind.wrap_i64]; omega
  rw [hm] at b ⊢
  clear hm
  have hq := Held.run_quo (P := Tryd.prog) 3 .i64 (a := (m : Int)) (b := 2) (r := ((m / 2 : Nat) : Int)) (by omega) (by rw [Int.tdiv_eq_ediv_of_nonneg (by omega), IntKind.wrap_i64]; omega)
  go_enter Tryd.func35, Tryd.ntmps35
  go_wp2_with fail
  refine H.mono ?_
  rintro e w1 ⟨rfl, rfl⟩
  go_wp2_with (first
    | (refine Held.wpList_run (w := w) rfl (v := .int .i64 (m : Int)) (Held.y_int (S := fun _ => True) rfl rfl rfl (Held.run_mul 3 .i64 hmul) _ trivial) ?_)
    | (refine Held.wpList_run (w := w) rfl (v := .int .i64 ((m / 2 : Nat) : Int)) (Held.y_int (S := fun _ => True) rfl rfl rfl hq _ trivial) ?_))
  go_ret
  exact ⟨rfl, rfl⟩
end Go.Proofs.YtlinmcgmkpkpaaaDoor.Bi
namespace Go.Proofs.YtlinmcgmkpkpaaaDoor.Bi
open Go.RowKit Go.Shelf Go.Proofs.YtlinmcgmkpkpaaaDoor Mem Held
attribute [local go_sem] Oper.semAt_some
attribute [local irreducible] wpList wpListIn Calls
theorem Found.no {S : Nat} {r : Int} {s t : Nat} {ok : Bool} (h : Found S r s t ok) (hn : ¬ (0 ≤ r ∧ r < (tri S : Int))) : s = 0 ∧ t = 0 ∧ ok = false := by
  rcases h with ⟨h1, h2⟩ | ⟨h1, h2, h3, h4⟩
  · exact absurd h2.lt hn
  · exact ⟨h2, h3, h1⟩
theorem Found.yes {S : Nat} {r : Int} {s t s' t' : Nat} {ok : Bool} (h : Found S r s t ok) (ha : Stp S r s' t') : s = s' ∧ t = t' ∧ ok = true := by
  rcases h with ⟨h1, h2⟩ | ⟨h1, h2, h3, h4⟩
  · have := h2.unique ha
    exact ⟨this.1, this.2, h1⟩
  · exact absurd ha.lt h4
theorem results_tmp3 {fn : Func} {t u v : Tmp} (h : fn.results = #[.tmp t, .tmp u, .tmp v]) (tmps : Array Value) (P : Program) (w : World) :
    (results fn tmps).run P w = .ok (.tuple #[tmps.getD t undef, tmps.getD u undef, tmps.getD v undef]) w := by
  unfold results
  simp [h, go_sem]
set_option maxRecDepth 100000 in
set_option maxHeartbeats 4000000 in
theorem find_any (n r : Int) (S s t : Nat) (ok : Bool) (w : World) (h0 : -9223372036854775808 ≤ n) (h1 : n ≤ 9223372036854775807) (hT : TzT w) (hS : stg n = S) (hF : Found S r s t ok) :
    Calls Tryd.prog 83 #[.int .i64 n, .int .i64 r] w fun e w' => e = .returned (.tuple #[.int .i64 (s : Int), .int .i64 (t : Int), .bool ok]) ∧ w = w' := by
  have H := stages_any n w h0 h1 hT
  have hS16 := stg_le n
  rw [hS] at H hS16
  have HF := Lib.hid (fun hn => hF.no hn)
  have HY := Lib.hid (fun s' t' (ha : Stp S r s' t') => hF.yes ha)
  have HTS := Lib.hid tri_succ
  have HTL := Lib.hid (fun q (h : q ≤ 16) => tri_le h)
  have htri0 : (tri 0 : Int) = 0 := rfl
  clear hS hF hT h0 h1
  go_enter Tryd.func83, Tryd.ntmps83
  go_wp2_with fail
  apply wp_scope_straight
  go_wp2_with fail
  refine H.mono ?_
  rintro e w1 ⟨rfl, rfl⟩
  go_wp2_with fail
  apply wp_label
  go_wp2_with fail
  go_loopw [4, 5, 6, 7, 9] (fun x4 x5 x6 rd sv wr => ∃ q tq : Nat, x4 = .int .i64 0 ∧ x5 = .int .i64 0 ∧ x6 = .bool false ∧ rd = .int .i64 (tq : Int) ∧ Hid (tq = tri q) ∧ sv = .int .i64 ((q : Int) + 1) ∧ q ≤ S ∧ Hid (¬ (0 ≤ r ∧ r < (tri q : Int))) ∧ w = wr) (fun _ _ _ rd sv _ => (20 - intOf sv).toNat)
  case atStart => exact ⟨0, 0, rfl, rfl, rfl, by simp, Lib.hid rfl, rfl, by omega, Lib.hid (by rw [htri0]; omega), rfl⟩
  case round =>
    obtain ⟨q, tq, rfl, rfl, rfl, rfl, htq, rfl, hq, hr, rfl⟩ := hrel
    have htb : tq ≤ 136 := by rw [htq.out]; exact HTL.out q (by omega)
    by_cases hlt : q < S
    · have hlt' : (q : Int) + 1 ≤ (S : Int) := by omega
      go_wp2_with fail
      go_loopw [4, 5, 6, 7, 10] (fun x4 x5 x6 rd tv wr => ∃ j u : Nat, x4 = .int .i64 0 ∧ x5 = .int .i64 0 ∧ x6 = .bool false ∧ rd = .int .i64 (u : Int) ∧ Hid (u = tri q + (q + 1 - j)) ∧ u ≤ 200 ∧ tv = .int .i64 (j : Int) ∧ j ≤ q + 1 ∧ Hid (¬ (0 ≤ r ∧ r < (u : Int))) ∧ w = wr) (fun _ _ _ _ tv _ => (intOf tv).toNat)
      case atStart => exact ⟨q + 1, tq, rfl, rfl, rfl, rfl, Lib.hid (by rw [htq.out]; omega), by omega, by go_num, by omega, Lib.hid (by rw [htq.out]; exact hr.out), rfl⟩
      case round =>
        obtain ⟨j, u, rfl, rfl, rfl, rfl, hu, hu2, rfl, hj, hru, rfl⟩ := hrel
        by_cases hj1 : 1 ≤ j
        · have hj1' : (1 : Int) ≤ (j : Int) := by omega
          by_cases hur : (u : Int) = r
          · obtain ⟨e1, e2, e3⟩ := HY.out (q + 1) j ⟨hj1, hj, hlt, by rw [← hur, hu.out]; simp⟩
            have hd : decide ((u : Int) = r) = true := by simp [hur]
            subst e1 e2 e3
            go_wp2_with fail
            exact bodyPost_ret (results_tmp3 rfl _ _ _) rfl ⟨by simp, rfl⟩
          · go_wp2_with fail
            go_roundw
            case rel => exact ⟨j - 1, u + 1, rfl, rfl, rfl, by go_num, Lib.hid (by rw [hu.out]; omega), by have := hu.out; have := htq.out; omega, by go_num, by omega, Lib.hid (by have := hru.out; omega), trivial⟩
            case measure => simp [intOf]; omega
        · have hj0 : j = 0 := by omega
          subst hj0
          have HT := Lib.hid (show u = tri (q + 1) by rw [hu.out, HTS.out]; omega)
          go_wp2_with fail
          go_roundw
          case rel => exact ⟨q + 1, u, rfl, rfl, rfl, rfl, HT, by go_num, by omega, Lib.hid (by rw [← HT.out]; exact hru.out), trivial⟩
          case measure => simp [intOf]; omega
    · obtain rfl : q = S := by omega
      obtain ⟨rfl, rfl, rfl⟩ := HF.out hr.out
      go_wp2_with fail
      exact bodyPost_ret (results_tmp3 rfl _ _ _) rfl ⟨rfl, rfl⟩
theorem round_any (n r : Int) (w : World) : Calls Tryd.prog 64 #[.int .i64 n, .int .i64 r] w fun e w' => ∃ bn br : Nat, e = .returned (.func (.func 82) #[] #[.pointer (some ⟨bn, 0, none⟩), .pointer (some ⟨br, 0, none⟩)]) ∧
    Blk w' bn 3 #[.int .i64 n] ∧ Blk w' br 3 #[.int .i64 r] ∧ w.heap.size ≤ bn ∧ w.heap.size ≤ br ∧ Below w.heap.size w w' := by
  go_enter Tryd.func64, Tryd.ntmps64
  go_wp2_with (first
    | (refine Held.wpList_box_cell (w := w) rfl 3 _ rfl (.int .i64 n) rfl rfl ?_; intro u1 q1 g1 z1)
    | (refine Held.wpList_box_cell (w := u1) rfl 3 _ rfl (.int .i64 r) rfl rfl ?_; intro u2 q2 g2 z2))
  go_ret
  exact ⟨_, _, rfl, Held.keep_cells q1 g2 (by simp), q2, Nat.le_refl _, g1.size, ((Below.refl _ w).grown g1 (Nat.le_refl _) (by simp)).grown g2 g1.size (by simp)⟩
theorem Found.t1 {S : Nat} {r : Int} {s t : Nat} {ok : Bool} (h : Found S r s t ok) (h16 : S ≤ 16) (ho : ok = true) : 1 ≤ t ∧ t ≤ s ∧ s ≤ 16 := by
  rcases h with ⟨_, h2⟩ | ⟨h1, _⟩
  · exact ⟨h2.t1, h2.ts, Nat.le_trans h2.sS h16⟩
  · rw [ho] at h1; cases h1
set_option maxRecDepth 100000 in
set_option maxHeartbeats 4000000 in
theorem up_any (n r a : Int) (S s t : Nat) (ok : Bool) (w : World) (h0 : -9223372036854775808 ≤ n) (h1 : n ≤ 9223372036854775807) (ha0 : -9223372036854775808 ≤ a) (ha1 : a ≤ 9223372036854775807) (hT : TzT w) (hS : stg n = S) (hF : Found S r s t ok) :
    Calls Tryd.prog 66 #[.int .i64 n, .int .i64 r, .int .i64 a] w fun e w' => e = .returned (.bool (upV n s t ok a)) ∧ w = w' := by
  have H := find_any n r S s t ok w h0 h1 hT hS hF
  have h16 := stg_le n
  rw [hS] at h16
  have ht := hF.t1 h16
  clear hF hT hS
  cases ok with
  | false =>
    have hv : upV n s t false a = false := by simp [upV]
    rw [hv]
    go_enter Tryd.func66, Tryd.ntmps66
    go_wp2_with fail
    refine H.mono ?_
    rintro e w1 ⟨rfl, rfl⟩
    go_wp2_with fail
    go_ret
    exact ⟨rfl, rfl⟩
  | true =>
    obtain ⟨t1, t2, t3⟩ := ht rfl
    by_cases c0 : a < 0
    · have hv : upV n s t true a = false := by simp [upV]; intro h; omega
      rw [hv]
      go_enter Tryd.func66, Tryd.ntmps66
      go_wp2_with fail
      refine H.mono ?_
      rintro e w1 ⟨rfl, rfl⟩
      go_wp2_with fail
      go_ret
      exact ⟨rfl, rfl⟩
    by_cases c1 : n ≤ a
    · have hv : upV n s t true a = false := by simp [upV]; intro h h'; omega
      rw [hv]
      go_enter Tryd.func66, Tryd.ntmps66
      go_wp2_with fail
      refine H.mono ?_
      rintro e w1 ⟨rfl, rfl⟩
      go_wp2_with fail
      go_ret
      exact ⟨rfl, rfl⟩
    have HL := lower_any a t w (by omega) (by omega) t1 (by omega)
    have hv : upV n s t true a = (decide (a / 2 ^ (t - 1) % 2 = 0) && decide (a / 2 ^ s % 2 = 0)) := by
      have e1 : decide (0 ≤ a) = true := by simp; omega
      have e2 : decide (a < n) = true := by simp; omega
      unfold upV
      rw [e1, e2]
      simp
    have hsh := fun W : World => Held.run_shr (P := Tryd.prog) 3 .i64 .i64 (a := a) (r := a / 2 ^ s) s (by show s ≤ 64; omega) rfl W
    have hq0 : 0 ≤ a / 2 ^ s := Int.ediv_nonneg (by omega) (by have := two_pos s; omega)
    have hq1 : a / 2 ^ s < 9223372036854775808 := by
      have := Int.ediv_le_self (2 ^ s) (show 0 ≤ a by omega)
      omega
    have hb := bit_one hq0 hq1
    rw [hv, ← hb]
    obtain ⟨lw, hlw⟩ : ∃ b : Bool, decide (a / 2 ^ (t - 1) % 2 = 0) = b := ⟨_, rfl⟩
    rw [hlw] at HL ⊢
    generalize a / 2 ^ s = q at *
    clear hlw hb hv
    cases lw with
    | false =>
      go_enter Tryd.func66, Tryd.ntmps66
      go_wp2_with fail
      refine H.mono ?_
      rintro e w1 ⟨rfl, rfl⟩
      go_wp2_with fail
      refine HL.mono ?_
      rintro e w1 ⟨rfl, rfl⟩
      go_wp2_with fail
      go_ret
      exact ⟨rfl, rfl⟩
    | true =>
      go_enter Tryd.func66, Tryd.ntmps66
      go_wp2_with fail
      refine H.mono ?_
      rintro e w1 ⟨rfl, rfl⟩
      go_wp2_with fail
      refine HL.mono ?_
      rintro e w1 ⟨rfl, rfl⟩
      go_wp2_with (first
        | (refine Held.wpList_run (w := w) rfl (v := .int .i64 q) (Held.y_bin (S := fun _ => True) rfl rfl rfl (fun W => by simp [eqGuard]) hsh _ trivial) ?_)
        | (refine Held.wpList_run (w := w) rfl (v := .int .i64 (bits .and .i64 q 1)) (Held.y_int (S := fun _ => True) rfl rfl rfl (Held.run_bitop (by simp) 3 .i64 rfl) _ trivial) ?_))
      go_ret
      exact ⟨Mem.ret_bool rfl, rfl⟩
end Go.Proofs.YtlinmcgmkpkpaaaDoor.Bi
