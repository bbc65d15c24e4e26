/-
  What the document's own Tag adds and multiplies, place by place: no program here. No conditions beyond those stated.
-/
import Derived.Test.YtebkicikpeicmaaDoorPo4
namespace Go.Proofs.YtebkicikpeicmaaDoor.Po
open Go.Proofs.YtebkicikpeicmaaDoor.Sum
set_option linter.unusedVariables false

/-- added place by place -/
def addB (a b : List Int) : List Int := List.zipWith (· + ·) a b
theorem val_addB : ∀ {a b : List Int}, a.length = b.length → val (addB a b) = val a + val b
  | [], [], _ => rfl
  | x :: xs, y :: ys, h => by
    have := val_addB (a := xs) (b := ys) (by simpa using h)
    simp only [addB, List.zipWith_cons_cons, val] at this ⊢
    rw [this]
    omega
theorem addB_length {a b : List Int} (h : a.length = b.length) : (addB a b).length = a.length := by simp [addB, h]
theorem addB_get {a b : List Int} {i : Nat} (ha : i < a.length) (hb : i < b.length) : (addB a b).getD i 0 = a.getD i 0 + b.getD i 0 := by
  simp [addB, List.getD_eq_getElem?_getD, List.getElem?_zipWith, ha, hb]
theorem addB_bound {a b : List Int} (ha : Bs a) (hb : Bs b) : ∀ x ∈ addB a b, 0 ≤ x ∧ x ≤ 510 := by
  intro x hx
  obtain ⟨i, hi, rfl⟩ := List.mem_iff_getElem.1 hx
  simp only [addB, List.length_zipWith] at hi
  simp only [addB, List.getElem_zipWith]
  have h1 := ha _ (List.getElem_mem (show i < a.length by omega))
  have h2 := hb _ (List.getElem_mem (show i < b.length by omega))
  omega
theorem blend_rest {F a : List Int} (h : F.length = a.length) (i : Nat) (he : ∀ j, i ≤ j → j < a.length → F.getD j 0 = a.getD j 0) : blend F a i = F := by
  apply List.ext_getElem
  · rw [blend_length h, h]
  · intro j h1 h2
    by_cases hj : j < i
    · simp only [blend]
      rw [List.getElem_append_left (by simp; omega), List.getElem_take]
    · have hja : j < a.length := by omega
      have := he j (by omega) hja
      rw [List.getD_eq_getElem?_getD, List.getD_eq_getElem?_getD, List.getElem?_eq_getElem h2, List.getElem?_eq_getElem hja, Option.getD_some, Option.getD_some] at this
      rw [this]
      simp only [blend]
      have e : (F.take i).length = i := by simp; omega
      rw [List.getElem_append_right (by omega)]
      simp only [e, List.getElem_drop]
      congr 1
      omega
/-- a piece, in forty places -/
def wideP (m : List Int) (k : Nat) : List Int := pieceAt m k ++ List.replicate 23 0
theorem wideP_length (m : List Int) (k : Nat) : (wideP m k).length = 40 := by simp [wideP, pieceAt_length]
theorem wideP_val (m : List Int) (k : Nat) : val (wideP m k) = val (pieceAt m k) := by rw [wideP, val_append, val_zeros, Int.mul_zero, Int.add_zero]
theorem zeros_bytes (k : Nat) : Bs (List.replicate k 0) := fun z hz => by rw [List.eq_of_mem_replicate hz]; omega
theorem bs_append {a b : List Int} (ha : Bs a) (hb : Bs b) : Bs (a ++ b) := fun z hz => by
  rcases List.mem_append.1 hz with h | h
  · exact ha z h
  · exact hb z h
theorem wideP_bytes {m : List Int} (h : Bs m) (k : Nat) : Bs (wideP m k) := bs_append (pieceAt_bytes h k) (zeros_bytes _)
theorem wideP_get_lo (m : List Int) (k : Nat) {i : Nat} (hi : i < (chunk m k).length) : (wideP m k).getD i 0 = m.getD (16 * k + i) 0 := by
  have hl := chunk_length m k
  simp only [wideP, pieceAt, List.append_assoc, List.getD_eq_getElem?_getD]
  rw [List.getElem?_append_left hi]
  simp only [chunk]
  rw [List.getElem?_take, if_pos (by omega), List.getElem?_drop]
theorem wideP_get_at (m : List Int) (k : Nat) : (wideP m k).getD (chunk m k).length 0 = 1 := by
  simp only [wideP, pieceAt, List.append_assoc, List.getD_eq_getElem?_getD]
  rw [List.getElem?_append_right (Nat.le_refl _), Nat.sub_self]
  rfl
theorem wideP_get_hi (m : List Int) (k : Nat) {i : Nat} (hi : (chunk m k).length < i) : (wideP m k).getD i 0 = 0 := by
  have e : wideP m k = chunk m k ++ 1 :: (List.replicate (16 - (chunk m k).length) 0 ++ List.replicate 23 0) := by simp [wideP, pieceAt]
  rw [e, List.getD_eq_getElem?_getD, List.getElem?_append_right (by omega), show i - (chunk m k).length = (i - (chunk m k).length - 1) + 1 by omega, List.getElem?_cons_succ, List.replicate_append_replicate, List.getElem?_replicate]
  split <;> rfl
theorem digits_take : ∀ (j k : Nat) (n : Int), j ≤ k → (digits n k).take j = digits n j
  | 0, _, _, _ => by simp [digits]
  | j + 1, 0, _, h => by omega
  | j + 1, k + 1, n, h => by rw [digits, List.take_succ_cons, digits_take j k _ (by omega), digits]

/-- the product as it is behind i rows and j places of the next one -/
def prod (s c : List Int) (i j : Nat) : Int := val (s.take i) * val c + s.getD i 0 * val (c.take j) * 256 ^ i
theorem prod_start (s c : List Int) : prod s c 0 0 = 0 := by simp [prod, val]
theorem prod_next {s c : List Int} {i : Nat} (hi : i < s.length) : prod s c i c.length = prod s c (i + 1) 0 := by
  rw [prod, prod, val_take_succ s hi, List.take_length, List.take_zero, val]
  generalize val (s.take i) = A
  generalize s.getD i 0 = x
  generalize (256 : Int) ^ i = N
  generalize val c = C
  grind
theorem prod_step {s c : List Int} (i : Nat) {j : Nat} (hj : j < c.length) : prod s c i (j + 1) = prod s c i j + s.getD i 0 * c.getD j 0 * 256 ^ (i + j) := by
  rw [prod, prod, val_take_succ c hj, Int.pow_add]
  generalize val (s.take i) = A
  generalize s.getD i 0 = x
  generalize (256 : Int) ^ i = N
  generalize (256 : Int) ^ j = M
  grind
theorem prod_end {n : Int} (c : List Int) (h0 : 0 ≤ n) (hn : n < 256 ^ 18) : prod (digits n 40) c 18 0 = n * val c := by
  rw [prod, digits_take 18 40 n (by omega), val_digits, List.take_zero, val, Int.emod_eq_of_lt h0 hn]
  simp
/-- the places of a product, small enough -/
def Small (ps : List Int) (i j : Nat) : Prop := ps.length = 40 ∧ (∀ l, 0 ≤ ps.getD l 0 ∧ ps.getD l 0 ≤ (i + 1 : Nat) * 65025) ∧ ∀ l, i + j ≤ l → ps.getD l 0 ≤ (i : Nat) * 65025
theorem small_start : Small (List.replicate 40 0) 0 0 := by
  have e : ∀ l, (List.replicate 40 (0 : Int)).getD l 0 = 0 := fun l => by
    rw [List.getD_eq_getElem?_getD, List.getElem?_replicate]
    split <;> rfl
  exact ⟨by simp, fun l => by rw [e]; omega, fun l _ => by rw [e]; omega⟩
theorem Small.next {ps : List Int} {i j : Nat} (h : Small ps i j) : Small ps (i + 1) 0 := ⟨h.1, fun l => by have := h.2.1 l; omega, fun l _ => (h.2.1 l).2⟩
theorem getD_set (l : List Int) (i j : Nat) (x : Int) (hi : i < l.length) : (l.set i x).getD j 0 = if i = j then x else l.getD j 0 := by
  simp only [List.getD_eq_getElem?_getD, List.getElem?_set]
  split
  · simp
  · rfl
theorem Small.step {ps : List Int} {i j : Nat} {y : Int} (h : Small ps i j) (hij : i + j < 40) (hy : 0 ≤ y ∧ y ≤ 65025) : Small (ps.set (i + j) (ps.getD (i + j) 0 + y)) i (j + 1) := by
  have hl : i + j < ps.length := by rw [h.1]; exact hij
  have h1 := h.2.1 (i + j)
  have h2 := h.2.2 (i + j) (Nat.le_refl _)
  refine ⟨by rw [List.length_set]; exact h.1, fun l => ?_, fun l hlt => ?_⟩
  · rw [getD_set _ _ _ _ hl]
    split
    · omega
    · exact h.2.1 l
  · rw [getD_set _ _ _ _ hl, if_neg (by omega)]
    exact h.2.2 l (by omega)
theorem Small.bound {ps : List Int} {i j : Nat} (h : Small ps i j) (hi : i ≤ 18) : ∀ x ∈ ps, 0 ≤ x ∧ x < 16777216 := by
  intro x hx
  obtain ⟨l, hl, rfl⟩ := List.mem_iff_getElem.1 hx
  have := h.2.1 l
  rw [List.getD_eq_getElem?_getD, List.getElem?_eq_getElem hl, Option.getD_some] at this
  omega
theorem byte_mul {x y : Int} (hx : 0 ≤ x ∧ x ≤ 255) (hy : 0 ≤ y ∧ y ≤ 255) : 0 ≤ x * y ∧ x * y ≤ 65025 :=
  ⟨Int.mul_nonneg hx.1 hy.1, Int.mul_le_mul hx.2 hy.2 hy.1 (by omega)⟩
theorem val_clamp_lt {key : List Int} (h : Bs key) : 0 ≤ val (clamp key) ∧ val (clamp key) < 2 ^ 128 := by
  have h1 := val_lt (clamp_bytes h)
  have h0 := val_nonneg (xs := clamp key) fun z hz => (clamp_bytes h z hz).1
  rw [clamp_length] at h1
  exact ⟨h0, by omega⟩
theorem mul_small {m r : Int} (h0 : 0 ≤ m) (hm : m < 2 ^ 131) (r0 : 0 ≤ r) (hr : r < 2 ^ 128) : 0 ≤ m * r ∧ m * r < 2 ^ 300 := by
  refine ⟨Int.mul_nonneg h0 r0, ?_⟩
  have : m * r ≤ 2 ^ 131 * 2 ^ 128 := Int.mul_le_mul (by omega) (by omega) r0 (by omega)
  omega
/-- half a key, in forty places -/
def wideH (key : List Int) : List Int := (key.drop 16).take 16 ++ List.replicate 24 0
theorem wideH_length {key : List Int} (h : key.length = 32) : (wideH key).length = 40 := by simp [wideH, h]
theorem wideH_bytes {key : List Int} (h : Bs key) : Bs (wideH key) := bs_append (fun z hz => h z (List.mem_of_mem_drop (List.mem_of_mem_take hz))) (zeros_bytes _)
theorem wideH_val (key : List Int) : val (wideH key) = val ((key.drop 16).take 16) := by rw [wideH, val_append, val_zeros, Int.mul_zero, Int.add_zero]
theorem wideH_get {key : List Int} (h : key.length = 32) {i : Nat} (hi : i < 16) : (wideH key).getD i 0 = key.getD (16 + i) 0 := by
  simp only [wideH, List.getD_eq_getElem?_getD]
  rw [List.getElem?_append_left (by simp [h]; omega), List.getElem?_take, if_pos hi, List.getElem?_drop]
theorem wideH_get_hi {key : List Int} (h : key.length = 32) {i : Nat} (hi : 16 ≤ i) : (wideH key).getD i 0 = 0 := by
  have e : ((key.drop 16).take 16).length = 16 := by simp [h]
  simp only [wideH, List.getD_eq_getElem?_getD]
  rw [List.getElem?_append_right (by omega), List.getElem?_replicate]
  split <;> rfl
end Go.Proofs.YtebkicikpeicmaaDoor.Po

