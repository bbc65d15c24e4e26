/-
  Numbers in limbs of 26 bits, and how they are multiplied modulo 2^130 - 5: no program here. No conditions beyond those stated.
-/
import Derived.Test.YtdfnacnklmmjhaaPo1
namespace Go.Proofs.Ytdfnacnklmmjhaa.Po
open Go.Proofs.Ytdfnacnklmmjhaa.Sum
set_option linter.unusedVariables false

/-- what limbs of 26 bits say, the lowest first -/
def lv : List Int → Int
  | [] => 0
  | x :: xs => x + 67108864 * lv xs
/-- the limbs of the number that seventeen bytes say -/
def limbs (n : Int) : List Int := [n % 67108864, n / 67108864 % 67108864, n / 4503599627370496 % 67108864, n / 302231454903657293676544 % 67108864, n / 20282409603651670423947251286016 % 67108864]
theorem lv_limbs {n : Int} (h : 0 ≤ n) (h' : n < 2 ^ 130) : lv (limbs n) = n := by
  unfold limbs
  simp only [lv]
  omega
theorem limbs_bound (n : Int) : ∀ x ∈ limbs n, 0 ≤ x ∧ x < 67108864 := by
  intro x hx
  simp only [limbs, List.mem_cons, List.not_mem_nil, or_false] at hx
  omega
theorem limbs_length (n : Int) : (limbs n).length = 5 := rfl
/-- limb i, out of the five bytes where it begins -/
theorem limb_of {p : List Int} (h : Bs p) (hl : p.length = 17) {i : Nat} (hi : i < 5) : val ((p.drop (3 * i)).take 5) / 2 ^ (2 * i) % 67108864 = (limbs (val p)).getD i 0 := by
  have e1 : p.take (3 * i) ++ p.drop (3 * i) = p := List.take_append_drop _ _
  have e2 : (p.drop (3 * i)).take 5 ++ (p.drop (3 * i)).drop 5 = p.drop (3 * i) := List.take_append_drop _ _
  have v1 := val_append (p.take (3 * i)) (p.drop (3 * i))
  have v2 := val_append ((p.drop (3 * i)).take 5) ((p.drop (3 * i)).drop 5)
  have l1 : (p.take (3 * i)).length = 3 * i := by simp; omega
  have l2 : ((p.drop (3 * i)).take 5).length = 5 := by simp; omega
  have b1 := val_lt (xs := p.take (3 * i)) fun z hz => h z (List.mem_of_mem_take hz)
  have b0 := val_nonneg (xs := p.take (3 * i)) fun z hz => (h z (List.mem_of_mem_take hz)).1
  rw [e1, l1] at v1
  rw [e2, l2] at v2
  rw [l1] at b1
  generalize val (p.take (3 * i)) = A at *
  generalize val ((p.drop (3 * i)).drop 5) = B at *
  generalize val ((p.drop (3 * i)).take 5) = F at *
  rw [v1, v2]
  clear v1 v2 e1 e2 l1 l2
  rcases (show i = 0 ∨ i = 1 ∨ i = 2 ∨ i = 3 ∨ i = 4 by omega) with rfl | rfl | rfl | rfl | rfl <;>
    simp only [limbs, List.getD_cons_zero, List.getD_cons_succ, Nat.reduceMul] at b1 ⊢ <;> omega
theorem val_take_succ (s : List Int) {j : Nat} (h : j < s.length) : val (s.take (j + 1)) = val (s.take j) + s.getD j 0 * 256 ^ j := by
  have e : s.take (j + 1) = s.take j ++ [s.getD j 0] := by
    rw [List.take_succ_eq_append_getElem h, List.getD_eq_getElem?_getD, List.getElem?_eq_getElem h]
    rfl
  rw [e, val_append]
  simp only [val, List.length_take, Nat.min_eq_left (Nat.le_of_lt h)]
  rw [Int.mul_zero, Int.add_zero, Int.mul_comm]
theorem val_zeros : ∀ k : Nat, val (List.replicate k 0) = 0
  | 0 => rfl
  | k + 1 => by rw [List.replicate_succ, val, val_zeros k]; rfl
theorem digits_mod : ∀ (k : Nat) {n m : Int}, n % 256 ^ k = m % 256 ^ k → digits n k = digits m k
  | 0, _, _, _ => rfl
  | k + 1, n, m, h => by
    have hN : (0 : Int) < 256 ^ k := Int.pow_pos (by omega)
    rw [Int.pow_succ, Int.mul_comm (256 ^ k) 256] at h
    have e : ∀ x : Int, x % (256 * 256 ^ k) = x % 256 + 256 * (x / 256 % 256 ^ k) := fun x => by
      generalize (256 : Int) ^ k = N at hN
      have h1 := Int.emod_nonneg (x / 256) (show N ≠ 0 by omega)
      have h2 := Int.emod_lt_of_pos (x / 256) hN
      have h3 := Int.mul_ediv_add_emod (x / 256) N
      have h4 : x = (x % 256 + 256 * (x / 256 % N)) + 256 * N * (x / 256 / N) := by
        rw [Int.mul_assoc]
        omega
      conv => lhs; rw [h4]
      rw [Int.add_mul_emod_self_left]
      exact Int.emod_eq_of_lt (by omega) (by omega)
    rw [e n, e m] at h
    have h1 : n % 256 = m % 256 := by omega
    have h2 : n / 256 % 256 ^ k = m / 256 % 256 ^ k := by omega
    rw [digits, digits, h1, digits_mod k h2]

/-- added limb by limb -/
def addL (a b : List Int) : List Int := List.zipWith (· + ·) a b
theorem lv_addL : ∀ {a b : List Int}, a.length = b.length → lv (addL a b) = lv a + lv b
  | [], [], _ => rfl
  | x :: xs, y :: ys, h => by
    have := lv_addL (a := xs) (b := ys) (by simpa using h)
    simp only [addL, List.zipWith_cons_cons, lv] at this ⊢
    rw [this]
    omega
/-- five numbers -/
theorem five {a : List Int} (h : a.length = 5) : ∃ a0 a1 a2 a3 a4, a = [a0, a1, a2, a3, a4] := by
  match a, h with
  | [a0, a1, a2, a3, a4], _ => exact ⟨a0, a1, a2, a3, a4, rfl⟩
/-- the limbs of r, as they are multiplied by -/
def factors (r : List Int) : List Int := r.map (5 * ·) ++ r
/-- the first i rows of the product, at limb j -/
def psum (a f : List Int) : Nat → Nat → Int
  | 0, _ => 0
  | i + 1, j => psum a f i j + a.getD i 0 * f.getD (5 - i + j) 0
def mulL (a r : List Int) : List Int := (List.range 5).map (psum a (factors r) 5)
theorem mulL_mod {a r : List Int} (ha : a.length = 5) (hr : r.length = 5) : lv (mulL a r) % modulus = lv a * lv r % modulus := by
  obtain ⟨a0, a1, a2, a3, a4, rfl⟩ := five ha
  obtain ⟨r0, r1, r2, r3, r4, rfl⟩ := five hr
  have e : lv [a0, a1, a2, a3, a4] * lv [r0, r1, r2, r3, r4] = lv (mulL [a0, a1, a2, a3, a4] [r0, r1, r2, r3, r4]) + modulus * ((a1*r4+a2*r3+a3*r2+a4*r1) + 67108864*((a2*r4+a3*r3+a4*r2) + 67108864*((a3*r4+a4*r3) + 67108864*(a4*r4)))) := by
    simp [lv, mulL, factors, psum, modulus, List.range, List.range.loop]
    grind
  rw [e, Int.add_mul_emod_self_left]
/-- the first rows stay small -/
theorem psum_bound {a f : List Int} (ha : ∀ x ∈ a, 0 ≤ x ∧ x < 268435456) (hf : ∀ x ∈ f, 0 ≤ x ∧ x < 536870912) : ∀ (i j : Nat), 0 ≤ psum a f i j ∧ psum a f i j ≤ i * 144115188075855872
  | 0, j => by simp [psum]
  | i + 1, j => by
    have ih := psum_bound ha hf i j
    have g : ∀ {l : List Int} {B : Int} (k : Nat), 0 < B → (∀ x ∈ l, 0 ≤ x ∧ x < B) → 0 ≤ l.getD k 0 ∧ l.getD k 0 < B := fun {l B} k hB hl => by
      rw [List.getD_eq_getElem?_getD]
      by_cases hk : k < l.length
      · rw [List.getElem?_eq_getElem hk]; exact hl _ (List.getElem_mem hk)
      · rw [List.getElem?_eq_none (by omega)]; simpa using hB
    have h1 := g i (by omega) ha
    have h2 := g (5 - i + j) (by omega) hf
    rw [psum]
    generalize a.getD i 0 = x at h1
    generalize f.getD (5 - i + j) 0 = y at h2
    have m1 : 0 ≤ x * y := Int.mul_nonneg h1.1 h2.1
    have m2 : x * y ≤ 268435456 * 536870912 := Int.mul_le_mul (by omega) (by omega) h2.1 (by omega)
    omega
theorem factors_length {r : List Int} (h : r.length = 5) : (factors r).length = 10 := by simp [factors, h]
theorem factors_bound {r : List Int} (h : ∀ x ∈ r, 0 ≤ x ∧ x < 67108864) : ∀ x ∈ factors r, 0 ≤ x ∧ x < 536870912 := by
  intro x hx
  rcases List.mem_append.1 hx with hx | hx
  · obtain ⟨y, hy, rfl⟩ := List.mem_map.1 hx
    have := h y hy
    omega
  · have := h x hx
    omega

/-- carried along, in limbs: what is kept -/
def carL (c : Int) : List Int → List Int
  | [] => []
  | x :: xs => (x + c) % 67108864 :: carL ((x + c) / 67108864) xs
/-- and what is over behind k limbs -/
def over (c : Int) (xs : List Int) : Nat → Int
  | 0 => c
  | k + 1 => (xs.getD k 0 + over c xs k) / 67108864
theorem over_cons (c x : Int) (xs : List Int) : ∀ k, over c (x :: xs) (k + 1) = over ((x + c) / 67108864) xs k
  | 0 => rfl
  | k + 1 => by rw [over, over_cons c x xs k, List.getD_cons_succ, over]
theorem carL_length : ∀ (c : Int) (xs : List Int), (carL c xs).length = xs.length
  | _, [] => rfl
  | c, x :: xs => by rw [carL, List.length_cons, List.length_cons, carL_length]
theorem carL_get : ∀ (c : Int) (xs : List Int) (k : Nat), k < xs.length → (carL c xs).getD k 0 = (xs.getD k 0 + over c xs k) % 67108864
  | _, [], _, h => by simp at h
  | c, x :: xs, 0, _ => rfl
  | c, x :: xs, k + 1, h => by rw [carL, List.getD_cons_succ, List.getD_cons_succ, over_cons, carL_get _ xs k (by simpa using h)]
theorem lv_carL : ∀ (c : Int) (xs : List Int), lv (carL c xs) + 67108864 ^ xs.length * over c xs xs.length = lv xs + c
  | c, [] => by simp [lv, carL, over]
  | c, x :: xs => by
    have := lv_carL ((x + c) / 67108864) xs
    rw [carL, lv, lv, List.length_cons, over_cons, Int.pow_succ, Int.mul_comm (67108864 ^ xs.length) 67108864, Int.mul_assoc]
    omega
/-- with no bits above a limb's own -/
def settle (n : List Int) : List Int :=
  let m := carL 0 n
  let t := m.getD 0 0 + 5 * over 0 n 5
  ((m.set 0 t).set 1 (m.getD 1 0 + t / 67108864)).set 0 (t % 67108864)
/-- settled limbs -/
def Settled (a : List Int) : Prop := ∃ a0 a1 a2 a3 a4, a = [a0, a1, a2, a3, a4] ∧ (0 ≤ a0 ∧ a0 < 67108864) ∧ (0 ≤ a1 ∧ a1 < 67121152) ∧ (0 ≤ a2 ∧ a2 < 67108864) ∧ (0 ≤ a3 ∧ a3 < 67108864) ∧ (0 ≤ a4 ∧ a4 < 67108864)
theorem over_bound {n : List Int} (h : ∀ x ∈ n, 0 ≤ x ∧ x < 1152921504606846976) : ∀ k, 0 ≤ over 0 n k ∧ over 0 n k < 68719476736
  | 0 => by simp [over]
  | k + 1 => by
    have ih := over_bound h k
    have : 0 ≤ n.getD k 0 ∧ n.getD k 0 < 1152921504606846976 := by
      rw [List.getD_eq_getElem?_getD]
      by_cases hk : k < n.length
      · rw [List.getElem?_eq_getElem hk]; exact h _ (List.getElem_mem hk)
      · rw [List.getElem?_eq_none (by omega)]; simp
    rw [over]
    omega
theorem settle_settled {n : List Int} (hl : n.length = 5) (h : ∀ x ∈ n, 0 ≤ x ∧ x < 1152921504606846976) : Settled (settle n) := by
  have ho := over_bound h 5
  obtain ⟨a0, a1, a2, a3, a4, rfl⟩ := five hl
  generalize hO : over 0 [a0, a1, a2, a3, a4] 5 = O at ho
  simp only [settle, carL, hO, List.getD_cons_zero, List.getD_cons_succ, List.set_cons_zero, List.set_cons_succ]
  refine ⟨_, _, _, _, _, rfl, ?_, ?_, ?_, ?_, ?_⟩ <;> omega
theorem settle_mod {n : List Int} (hl : n.length = 5) : lv (settle n) % modulus = lv n % modulus := by
  have hc := lv_carL 0 n
  have hm := carL_length 0 n
  rw [hl] at hc hm
  obtain ⟨m0, m1, m2, m3, m4, hm⟩ := five hm
  rw [settle]
  simp only [hm] at hc ⊢
  generalize over 0 n 5 = O at hc ⊢
  have e : lv n = lv ((([m0, m1, m2, m3, m4].set 0 ([m0, m1, m2, m3, m4].getD 0 0 + 5 * O)).set 1 ([m0, m1, m2, m3, m4].getD 1 0 + ([m0, m1, m2, m3, m4].getD 0 0 + 5 * O) / 67108864)).set 0 (([m0, m1, m2, m3, m4].getD 0 0 + 5 * O) % 67108864)) + modulus * O := by
    simp only [lv, List.getD_cons_zero, List.getD_cons_succ, List.set_cons_zero, List.set_cons_succ, modulus] at hc ⊢
    omega
  rw [e, Int.add_mul_emod_self_left]
theorem Settled.length {a : List Int} (h : Settled a) : a.length = 5 := by
  obtain ⟨_, _, _, _, _, rfl, _⟩ := h
  rfl
theorem Settled.bound {a : List Int} (h : Settled a) : ∀ x ∈ a, 0 ≤ x ∧ x < 134217728 := by
  obtain ⟨a0, a1, a2, a3, a4, rfl, h⟩ := h
  intro x hx
  simp only [List.mem_cons, List.not_mem_nil, or_false] at hx
  omega
theorem over_eq {a : List Int} (h : Settled a) : over 5 a 5 = (lv a + 5) / 2 ^ 130 := by
  obtain ⟨a0, a1, a2, a3, a4, rfl, h⟩ := h
  simp only [over, lv, List.getD_cons_zero, List.getD_cons_succ]
  omega
/-- below the modulus, but for bits above 2^128 -/
def reduce (a : List Int) : List Int := a.set 0 (a.getD 0 0 + 5 * over 5 a 5)
theorem reduce_mod {a : List Int} (h : Settled a) : lv (reduce a) % 2 ^ 128 = (lv a % modulus) % 2 ^ 128 := by
  have ho := over_eq h
  obtain ⟨a0, a1, a2, a3, a4, rfl, h⟩ := h
  rw [reduce]
  generalize over 5 [a0, a1, a2, a3, a4] 5 = O at ho ⊢
  simp only [lv, modulus, List.getD_cons_zero, List.set_cons_zero] at ho ⊢
  have hO : O = 0 ∨ O = 1 := by omega
  generalize hV : a0 + 67108864 * (a1 + 67108864 * (a2 + 67108864 * (a3 + 67108864 * (a4 + 67108864 * 0)))) = V at ho ⊢
  rw [show a0 + 5 * O + 67108864 * (a1 + 67108864 * (a2 + 67108864 * (a3 + 67108864 * (a4 + 67108864 * 0)))) = V + 5 * O by omega]
  have hV2 : 0 ≤ V ∧ V < 2 * (2 ^ 130 - 5) := by omega
  rcases hO with rfl | rfl
  · rw [show V % (2 ^ 130 - 5) = V by omega]
    omega
  · rw [show V % (2 ^ 130 - 5) = V - (2 ^ 130 - 5) by omega]
    omega
end Go.Proofs.Ytdfnacnklmmjhaa.Po

