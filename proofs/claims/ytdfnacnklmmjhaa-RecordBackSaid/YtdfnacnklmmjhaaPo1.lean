/-
  Numbers as bytes, and Poly1305, as plain functions: no program here. No conditions beyond those stated.
-/
import Derived.Test.YtdfnacnklmmjhaaSum
namespace Go.Proofs.Ytdfnacnklmmjhaa.Po
open Go.Proofs.Ytdfnacnklmmjhaa.Sum
set_option linter.unusedVariables false

/-- the number that places of a byte each say, the lowest first -/
def val : List Int → Int
  | [] => 0
  | x :: xs => x + 256 * val xs
/-- a number's k lowest bytes -/
def digits (n : Int) : Nat → List Int
  | 0 => []
  | k + 1 => n % 256 :: digits (n / 256) k
/-- carried along -/
def carried (c : Int) : List Int → List Int
  | [] => []
  | x :: xs => (c + x) % 256 :: carried ((c + x) / 256) xs

theorem carried_eq : ∀ (xs : List Int) (c : Int), carried c xs = digits (c + val xs) xs.length
  | [], c => rfl
  | x :: xs, c => by
    rw [carried, val, List.length_cons, digits, carried_eq xs, show (c + (x + 256 * val xs)) % 256 = (c + x) % 256 by omega, show (c + (x + 256 * val xs)) / 256 = (c + x) / 256 + val xs by omega]
theorem digits_length : ∀ (k : Nat) (n : Int), (digits n k).length = k
  | 0, _ => rfl
  | k + 1, n => by rw [digits, List.length_cons, digits_length k]
theorem digits_bytes : ∀ (k : Nat) (n : Int), Bs (digits n k)
  | 0, _ => fun z hz => by cases hz
  | k + 1, n => fun z hz => by
    rcases List.mem_cons.1 hz with rfl | h
    · omega
    · exact digits_bytes k _ z h
theorem val_digits : ∀ (k : Nat) (n : Int), val (digits n k) = n % 256 ^ k
  | 0, n => by simp [digits, val]
  | k + 1, n => by
    rw [digits, val, val_digits k, Int.pow_succ, Int.mul_comm (256 ^ k) 256]
    have hN : (0 : Int) < 256 ^ k := Int.pow_pos (by omega)
    generalize (256 : Int) ^ k = N at hN ⊢
    have h1 := Int.emod_nonneg (n / 256) (show N ≠ 0 by omega)
    have h2 := Int.emod_lt_of_pos (n / 256) hN
    have h3 := Int.mul_ediv_add_emod (n / 256) N
    have h4 : n = (n % 256 + 256 * (n / 256 % N)) + 256 * N * (n / 256 / N) := by
      rw [Int.mul_assoc]
      omega
    have h5 : n % (256 * N) = (n % 256 + 256 * (n / 256 % N)) % (256 * N) := by
      conv => lhs; rw [h4]
      rw [Int.add_mul_emod_self_left]
    rw [h5]
    exact (Int.emod_eq_of_lt (by omega) (by omega)).symm
theorem val_nonneg : ∀ {xs : List Int}, (∀ x ∈ xs, 0 ≤ x) → 0 ≤ val xs
  | [], _ => Int.le_refl _
  | x :: xs, h => by
    have h1 := h x List.mem_cons_self
    have h2 := val_nonneg (xs := xs) fun y hy => h y (List.mem_cons_of_mem _ hy)
    rw [val]
    omega
theorem val_lt : ∀ {xs : List Int}, Bs xs → val xs < 256 ^ xs.length
  | [], _ => by simp [val]
  | x :: xs, h => by
    have h1 := h x List.mem_cons_self
    have h2 := val_lt (xs := xs) fun y hy => h y (List.mem_cons_of_mem _ hy)
    rw [val, List.length_cons, Int.pow_succ]
    omega
/-- bytes are the digits of what they say -/
theorem digits_val : ∀ {xs : List Int}, Bs xs → digits (val xs) xs.length = xs
  | [], _ => rfl
  | x :: xs, h => by
    have h1 := h x List.mem_cons_self
    rw [val, List.length_cons, digits, show (x + 256 * val xs) % 256 = x by omega, show (x + 256 * val xs) / 256 = val xs by omega, digits_val fun y hy => h y (List.mem_cons_of_mem _ hy)]
theorem digits_get : ∀ (k : Nat) (n : Int) (i : Nat), i < k → (digits n k).getD i 0 = n / 256 ^ i % 256
  | 0, _, _, h => absurd h (by omega)
  | k + 1, n, 0, _ => by simp [digits]
  | k + 1, n, i + 1, h => by
    rw [digits, List.getD_cons_succ, digits_get k _ i (by omega), Int.pow_succ, Int.mul_comm (256 ^ i) 256, Int.ediv_ediv_of_nonneg (by omega : (0 : Int) ≤ 256)]

def modulus : Int := 2 ^ 130 - 5
/-- one round of the reduction -/
def red (n : Int) : Int := n % 2 ^ 130 + 5 * (n / 2 ^ 130)
theorem red_mod (n : Int) : red n % modulus = n % modulus := by
  have h : n = red n + modulus * (n / 2 ^ 130) := by unfold red modulus; omega
  conv => rhs; rw [h]
  rw [Int.add_mul_emod_self_left]
theorem red_nonneg {n : Int} (h : 0 ≤ n) : 0 ≤ red n := by unfold red; omega
theorem red_four {n : Int} (h : 0 ≤ n) (hn : n < 2 ^ 300) : 0 ≤ red (red (red (red n))) ∧ red (red (red (red n))) < 2 ^ 130 := by unfold red; omega
theorem least_eq {n : Int} (h : 0 ≤ n) (hn : n < 2 ^ 130) : n % modulus = if n + 5 < 2 ^ 130 then n else n + 5 - 2 ^ 130 := by
  unfold modulus
  split <;> omega
/-- a byte of the upper part, out of two bytes -/
theorem high_byte (m : Int) : m % 256 / 4 + (m / 256 % 256 * 64) % 256 = m / 4 % 256 := by omega

/-- the key's first half, clamped -/
def clampAt (key : List Int) (i : Nat) : Int := if i % 4 = 3 then key.getD i 0 % 16 else if i = 4 ∨ i = 8 ∨ i = 12 then key.getD i 0 / 4 * 4 else key.getD i 0
def clamp (key : List Int) : List Int := (List.range 16).map (clampAt key)
/-- one piece -/
def step (r a : Int) (piece : List Int) : Int := (a + val (piece ++ [1])) * r % modulus
/-- the first k pieces, one behind the other -/
def acc (r : Int) (m : List Int) : Nat → Int
  | 0 => 0
  | k + 1 => step r (acc r m k) ((m.drop (16 * k)).take 16)
/-- how many pieces there are -/
def count (m : List Int) : Nat := (m.length + 15) / 16
/-- Poly1305 -/
def poly (key msg : List Int) : List Int := digits (acc (val (clamp key)) msg (count msg) + val ((key.drop 16).take 16)) 16
theorem acc_bound (r : Int) (m : List Int) : ∀ k, 0 ≤ acc r m k ∧ acc r m k < modulus
  | 0 => by simp [acc, modulus]
  | k + 1 => ⟨Int.emod_nonneg _ (by unfold modulus; omega), Int.emod_lt_of_pos _ (by unfold modulus; omega)⟩
theorem val_append : ∀ (xs ys : List Int), val (xs ++ ys) = val xs + 256 ^ xs.length * val ys
  | [], ys => by simp [val]
  | x :: xs, ys => by
    rw [List.cons_append, val, val, val_append xs ys, List.length_cons, Int.pow_succ, Int.mul_comm (256 ^ xs.length) 256, Int.mul_assoc]
    omega
theorem clampAt_bound {key : List Int} (h : Bs key) (i : Nat) : 0 ≤ clampAt key i ∧ clampAt key i ≤ 255 := by
  have := h.at_ i
  unfold clampAt
  split
  · omega
  · split <;> omega
theorem clamp_bytes {key : List Int} (h : Bs key) : Bs (clamp key) := fun z hz => by
  obtain ⟨i, _, rfl⟩ := List.mem_map.1 hz
  exact clampAt_bound h i
theorem poly_length (key msg : List Int) : (poly key msg).length = 16 := digits_length _ _
theorem poly_bytes (key msg : List Int) : Bs (poly key msg) := digits_bytes _ _
theorem clamp_length (key : List Int) : (clamp key).length = 16 := by simp [clamp]
end Go.Proofs.Ytdfnacnklmmjhaa.Po

