/-
  Numbers in limbs of 26 bits, and how they are multiplied modulo 2^130 - 5: no program here. No conditions beyond those stated.
  Pieces, the tag's bytes, and what loops leave behind them: no program here. No conditions beyond those stated.
  A table of numbers of any kind at a package-level variable's block; an array out of a slice, and out of the middle of a block: no program here. No conditions beyond those stated.
  Numbers as texts: strconv's FormatUint at base 10 and Itoa by their contracts. Conditions: the table of package internal/strconv lies where the program's text lays it.
  Within a fence: a store of one number into a block that is known whole, a built array, a copy, a whole array's address out of a slice, the new world a letter: no program here. No conditions beyond those stated.
  A range over a function whose iterator makes what it hands out (new blocks), keeps no cells of its own and whose body never leaves early: what the iterator is told of the rounds, and what the loop owes: no program here. No conditions beyond those stated.
  Names, and numbers as bytes, of package keys, as plain functions: no program here. No conditions beyond those stated.
-/
import Derived.Test.YtoelgcdjhekafaaDoorB11
import Derived.Test.YtoelgcdjhekafaaDoorB5
import Derived.Lib.EndianBits
import Derived.Test.YtoelgcdjhekafaaDoorB10
import Derived.Lib.AppendIntMem
import Derived.Test.YtoelgcdjhekafaaDoorB3
namespace Go.Proofs.YtoelgcdjhekafaaDoor.Po
open Go.Proofs.YtoelgcdjhekafaaDoor.Sum
set_option linter.unusedVariables false

/-- what limbs of 26 bits say, the lowest first -/
def lv : List Int → Int
  | [] => 0
  | x :: xs => x + 67108864 * lv xs
/-- the limbs of the number that seventeen bytes say -/
def limbs (n : Int) : List Int := [n % 67108864, n / 67108864 % 67108864, n / 4503599627370496 % 67108864, n / 302231454903657293676544 % 67108864, n / 20282409603651670423947251286016 % 67108864]
theorem lv_limbs {n : Int} (h : 0 ≤ n) (h' : n < 2 ^ 130) : lv (limbs n) = n := by
  unfold limbs
  simp only [lv]
  omega
theorem limbs_bound (n : Int) : ∀ x ∈ limbs n, 0 ≤ x ∧ x < 67108864 := by
  intro x hx
  simp only [limbs, List.mem_cons, List.not_mem_nil, or_false] at hx
  omega
theorem limbs_length (n : Int) : (limbs n).length = 5 := rfl
/-- limb i, out of the five bytes where it begins -/
theorem limb_of {p : List Int} (h : Bs p) (hl : p.length = 17) {i : Nat} (hi : i < 5) : val ((p.drop (3 * i)).take 5) / 2 ^ (2 * i) % 67108864 = (limbs (val p)).getD i 0 := by
  have e1 : p.take (3 * i) ++ p.drop (3 * i) = p := List.take_append_drop _ _
  have e2 : (p.drop (3 * i)).take 5 ++ (p.drop (3 * i)).drop 5 = p.drop (3 * i) := List.take_append_drop _ _
  have v1 := val_append (p.take (3 * i)) (p.drop (3 * i))
  have v2 := val_append ((p.drop (3 * i)).take 5) ((p.drop (3 * i)).drop 5)
  have l1 : (p.take (3 * i)).length = 3 * i := by simp; omega
  have l2 : ((p.drop (3 * i)).take 5).length = 5 := by simp; omega
  have b1 := val_lt (xs := p.take (3 * i)) fun z hz => h z (List.mem_of_mem_take hz)
  have b0 := val_nonneg (xs := p.take (3 * i)) fun z hz => (h z (List.mem_of_mem_take hz)).1
  rw [e1, l1] at v1
  rw [e2, l2] at v2
  rw [l1] at b1
  generalize val (p.take (3 * i)) = A at *
  generalize val ((p.drop (3 * i)).drop 5) = B at *
  generalize val ((p.drop (3 * i)).take 5) = F at *
  rw [v1, v2]
  clear v1 v2 e1 e2 l1 l2
  rcases (show i = 0 ∨ i = 1 ∨ i = 2 ∨ i = 3 ∨ i = 4 by omega) with rfl | rfl | rfl | rfl | rfl <;>
    simp only [limbs, List.getD_cons_zero, List.getD_cons_succ, Nat.reduceMul] at b1 ⊢ <;> omega
theorem val_take_succ (s : List Int) {j : Nat} (h : j < s.length) : val (s.take (j + 1)) = val (s.take j) + s.getD j 0 * 256 ^ j := by
  have e : s.take (j + 1) = s.take j ++ [s.getD j 0] := by
    rw [List.take_succ_eq_append_getElem h, List.getD_eq_getElem?_getD, List.getElem?_eq_getElem h]
    rfl
  rw [e, val_append]
  simp only [val, List.length_take, Nat.min_eq_left (Nat.le_of_lt h)]
  rw [Int.mul_zero, Int.add_zero, Int.mul_comm]
theorem val_zeros : ∀ k : Nat, val (List.replicate k 0) = 0
  | 0 => rfl
  | k + 1 => by rw [List.replicate_succ, val, val_zeros k]; rfl
theorem digits_mod : ∀ (k : Nat) {n m : Int}, n % 256 ^ k = m % 256 ^ k → digits n k = digits m k
  | 0, _, _, _ => rfl
  | k + 1, n, m, h => by
    have hN : (0 : Int) < 256 ^ k := Int.pow_pos (by omega)
    rw [Int.pow_succ, Int.mul_comm (256 ^ k) 256] at h
    have e : ∀ x : Int, x % (256 * 256 ^ k) = x % 256 + 256 * (x / 256 % 256 ^ k) := fun x => by
      generalize (256 : Int) ^ k = N at hN
      have h1 := Int.emod_nonneg (x / 256) (show N ≠ 0 by omega)
      have h2 := Int.emod_lt_of_pos (x / 256) hN
      have h3 := Int.mul_ediv_add_emod (x / 256) N
      have h4 : x = (x % 256 + 256 * (x / 256 % N)) + 256 * N * (x / 256 / N) := by
        rw [Int.mul_assoc]
        omega
      conv => lhs; rw [h4]
      rw [Int.add_mul_emod_self_left]
      exact Int.emod_eq_of_lt (by omega) (by omega)
    rw [e n, e m] at h
    have h1 : n % 256 = m % 256 := by omega
    have h2 : n / 256 % 256 ^ k = m / 256 % 256 ^ k := by omega
    rw [digits, digits, h1, digits_mod k h2]

/-- added limb by limb -/
def addL (a b : List Int) : List Int := List.zipWith (· + ·) a b
theorem lv_addL : ∀ {a b : List Int}, a.length = b.length → lv (addL a b) = lv a + lv b
  | [], [], _ => rfl
  | x :: xs, y :: ys, h => by
    have := lv_addL (a := xs) (b := ys) (by simpa using h)
    simp only [addL, List.zipWith_cons_cons, lv] at this ⊢
    rw [this]
    omega
/-- five numbers -/
theorem five {a : List Int} (h : a.length = 5) : ∃ a0 a1 a2 a3 a4, a = [a0, a1, a2, a3, a4] := by
  match a, h with
  | [a0, a1, a2, a3, a4], _ => exact ⟨a0, a1, a2, a3, a4, rfl⟩
/-- the limbs of r, as they are multiplied by -/
def factors (r : List Int) : List Int := r.map (5 * ·) ++ r
/-- the first i rows of the product, at limb j -/
def psum (a f : List Int) : Nat → Nat → Int
  | 0, _ => 0
  | i + 1, j => psum a f i j + a.getD i 0 * f.getD (5 - i + j) 0
def mulL (a r : List Int) : List Int := (List.range 5).map (psum a (factors r) 5)
theorem mulL_mod {a r : List Int} (ha : a.length = 5) (hr : r.length = 5) : lv (mulL a r) % modulus = lv a * lv r % modulus := by
  obtain ⟨a0, a1, a2, a3, a4, rfl⟩ := five ha
  obtain ⟨r0, r1, r2, r3, r4, rfl⟩ := five hr
  have e : lv [a0, a1, a2, a3, a4] * lv [r0, r1, r2, r3, r4] = lv (mulL [a0, a1, a2, a3, a4] [r0, r1, r2, r3, r4]) + modulus * ((a1*r4+a2*r3+a3*r2+a4*r1) + 67108864*((a2*r4+a3*r3+a4*r2) + 67108864*((a3*r4+a4*r3) + 67108864*(a4*r4)))) := by
    simp [lv, mulL, factors, psum, modulus, List.range, List.range.loop]
    grind
  rw [e, Int.add_mul_emod_self_left]
/-- the first rows stay small -/
theorem psum_bound {a f : List Int} (ha : ∀ x ∈ a, 0 ≤ x ∧ x < 268435456) (hf : ∀ x ∈ f, 0 ≤ x ∧ x < 536870912) : ∀ (i j : Nat), 0 ≤ psum a f i j ∧ psum a f i j ≤ i * 144115188075855872
  | 0, j => by simp [psum]
  | i + 1, j => by
    have ih := psum_bound ha hf i j
    have g : ∀ {l : List Int} {B : Int} (k : Nat), 0 < B → (∀ x ∈ l, 0 ≤ x ∧ x < B) → 0 ≤ l.getD k 0 ∧ l.getD k 0 < B := fun {l B} k hB hl => by
      rw [List.getD_eq_getElem?_getD]
      by_cases hk : k < l.length
      · rw [List.getElem?_eq_getElem hk]; exact hl _ (List.getElem_mem hk)
      · rw [List.getElem?_eq_none (by omega)]; simpa using hB
    have h1 := g i (by omega) ha
    have h2 := g (5 - i + j) (by omega) hf
    rw [psum]
    generalize a.getD i 0 = x at h1
    generalize f.getD (5 - i + j) 0 = y at h2
    have m1 : 0 ≤ x * y := Int.mul_nonneg h1.1 h2.1
    have m2 : x * y ≤ 268435456 * 536870912 := Int.mul_le_mul (by omega) (by omega) h2.1 (by omega)
    omega
theorem factors_length {r : List Int} (h : r.length = 5) : (factors r).length = 10 := by simp [factors, h]
theorem factors_bound {r : List Int} (h : ∀ x ∈ r, 0 ≤ x ∧ x < 67108864) : ∀ x ∈ factors r, 0 ≤ x ∧ x < 536870912 := by
  intro x hx
  rcases List.mem_append.1 hx with hx | hx
  · obtain ⟨y, hy, rfl⟩ := List.mem_map.1 hx
    have := h y hy
    omega
  · have := h x hx
    omega

/-- carried along, in limbs: what is kept -/
def carL (c : Int) : List Int → List Int
  | [] => []
  | x :: xs => (x + c) % 67108864 :: carL ((x + c) / 67108864) xs
/-- and what is over behind k limbs -/
def over (c : Int) (xs : List Int) : Nat → Int
  | 0 => c
  | k + 1 => (xs.getD k 0 + over c xs k) / 67108864
theorem over_cons (c x : Int) (xs : List Int) : ∀ k, over c (x :: xs) (k + 1) = over ((x + c) / 67108864) xs k
  | 0 => rfl
  | k + 1 => by rw [over, over_cons c x xs k, List.getD_cons_succ, over]
theorem carL_length : ∀ (c : Int) (xs : List Int), (carL c xs).length = xs.length
  | _, [] => rfl
  | c, x :: xs => by rw [carL, List.length_cons, List.length_cons, carL_length]
theorem carL_get : ∀ (c : Int) (xs : List Int) (k : Nat), k < xs.length → (carL c xs).getD k 0 = (xs.getD k 0 + over c xs k) % 67108864
  | _, [], _, h => by simp at h
  | c, x :: xs, 0, _ => rfl
  | c, x :: xs, k + 1, h => by rw [carL, List.getD_cons_succ, List.getD_cons_succ, over_cons, carL_get _ xs k (by simpa using h)]
theorem lv_carL : ∀ (c : Int) (xs : List Int), lv (carL c xs) + 67108864 ^ xs.length * over c xs xs.length = lv xs + c
  | c, [] => by simp [lv, carL, over]
  | c, x :: xs => by
    have := lv_carL ((x + c) / 67108864) xs
    rw [carL, lv, lv, List.length_cons, over_cons, Int.pow_succ, Int.mul_comm (67108864 ^ xs.length) 67108864, Int.mul_assoc]
    omega
/-- with no bits above a limb's own -/
def settle (n : List Int) : List Int :=
  let m := carL 0 n
  let t := m.getD 0 0 + 5 * over 0 n 5
  ((m.set 0 t).set 1 (m.getD 1 0 + t / 67108864)).set 0 (t % 67108864)
/-- settled limbs -/
def Settled (a : List Int) : Prop := ∃ a0 a1 a2 a3 a4, a = [a0, a1, a2, a3, a4] ∧ (0 ≤ a0 ∧ a0 < 67108864) ∧ (0 ≤ a1 ∧ a1 < 67121152) ∧ (0 ≤ a2 ∧ a2 < 67108864) ∧ (0 ≤ a3 ∧ a3 < 67108864) ∧ (0 ≤ a4 ∧ a4 < 67108864)
theorem over_bound {n : List Int} (h : ∀ x ∈ n, 0 ≤ x ∧ x < 1152921504606846976) : ∀ k, 0 ≤ over 0 n k ∧ over 0 n k < 68719476736
  | 0 => by simp [over]
  | k + 1 => by
    have ih := over_bound h k
    have : 0 ≤ n.getD k 0 ∧ n.getD k 0 < 1152921504606846976 := by
      rw [List.getD_eq_getElem?_getD]
      by_cases hk : k < n.length
      · rw [List.getElem?_eq_getElem hk]; exact h _ (List.getElem_mem hk)
      · rw [List.getElem?_eq_none (by omega)]; simp
    rw [over]
    omega
theorem settle_settled {n : List Int} (hl : n.length = 5) (h : ∀ x ∈ n, 0 ≤ x ∧ x < 1152921504606846976) : Settled (settle n) := by
  have ho := over_bound h 5
  obtain ⟨a0, a1, a2, a3, a4, rfl⟩ := five hl
  generalize hO : over 0 [a0, a1, a2, a3, a4] 5 = O at ho
  simp only [settle, carL, hO, List.getD_cons_zero, List.getD_cons_succ, List.set_cons_zero, List.set_cons_succ]
  refine ⟨_, _, _, _, _, rfl, ?_, ?_, ?_, ?_, ?_⟩ <;> omega
theorem settle_mod {n : List Int} (hl : n.length = 5) : lv (settle n) % modulus = lv n % modulus := by
  have hc := lv_carL 0 n
  have hm := carL_length 0 n
  rw [hl] at hc hm
  obtain ⟨m0, m1, m2, m3, m4, hm⟩ := five hm
  rw [settle]
  simp only [hm] at hc ⊢
  generalize over 0 n 5 = O at hc ⊢
  have e : lv n = lv ((([m0, m1, m2, m3, m4].set 0 ([m0, m1, m2, m3, m4].getD 0 0 + 5 * O)).set 1 ([m0, m1, m2, m3, m4].getD 1 0 + ([m0, m1, m2, m3, m4].getD 0 0 + 5 * O) / 67108864)).set 0 (([m0, m1, m2, m3, m4].getD 0 0 + 5 * O) % 67108864)) + modulus * O := by
    simp only [lv, List.getD_cons_zero, List.getD_cons_succ, List.set_cons_zero, List.set_cons_succ, modulus] at hc ⊢
    omega
  rw [e, Int.add_mul_emod_self_left]
theorem Settled.length {a : List Int} (h : Settled a) : a.length = 5 := by
  obtain ⟨_, _, _, _, _, rfl, _⟩ := h
  rfl
theorem Settled.bound {a : List Int} (h : Settled a) : ∀ x ∈ a, 0 ≤ x ∧ x < 134217728 := by
  obtain ⟨a0, a1, a2, a3, a4, rfl, h⟩ := h
  intro x hx
  simp only [List.mem_cons, List.not_mem_nil, or_false] at hx
  omega
theorem over_eq {a : List Int} (h : Settled a) : over 5 a 5 = (lv a + 5) / 2 ^ 130 := by
  obtain ⟨a0, a1, a2, a3, a4, rfl, h⟩ := h
  simp only [over, lv, List.getD_cons_zero, List.getD_cons_succ]
  omega
/-- below the modulus, but for bits above 2^128 -/
def reduce (a : List Int) : List Int := a.set 0 (a.getD 0 0 + 5 * over 5 a 5)
theorem reduce_mod {a : List Int} (h : Settled a) : lv (reduce a) % 2 ^ 128 = (lv a % modulus) % 2 ^ 128 := by
  have ho := over_eq h
  obtain ⟨a0, a1, a2, a3, a4, rfl, h⟩ := h
  rw [reduce]
  generalize over 5 [a0, a1, a2, a3, a4] 5 = O at ho ⊢
  simp only [lv, modulus, List.getD_cons_zero, List.set_cons_zero] at ho ⊢
  have hO : O = 0 ∨ O = 1 := by omega
  generalize hV : a0 + 67108864 * (a1 + 67108864 * (a2 + 67108864 * (a3 + 67108864 * (a4 + 67108864 * 0)))) = V at ho ⊢
  rw [show a0 + 5 * O + 67108864 * (a1 + 67108864 * (a2 + 67108864 * (a3 + 67108864 * (a4 + 67108864 * 0)))) = V + 5 * O by omega]
  have hV2 : 0 ≤ V ∧ V < 2 * (2 ^ 130 - 5) := by omega
  rcases hO with rfl | rfl
  · rw [show V % (2 ^ 130 - 5) = V by omega]
    omega
  · rw [show V % (2 ^ 130 - 5) = V - (2 ^ 130 - 5) by omega]
    omega
end Go.Proofs.YtoelgcdjhekafaaDoor.Po
namespace Go.Proofs.YtoelgcdjhekafaaDoor.Po
open Go.Proofs.YtoelgcdjhekafaaDoor.Sum
set_option linter.unusedVariables false

/-- F, up to place i; behind it, what was there -/
def blend (F a : List Int) (i : Nat) : List Int := F.take i ++ a.drop i
theorem blend_zero (F a : List Int) : blend F a 0 = a := by simp [blend]
theorem blend_all {F a : List Int} (h : F.length = a.length) : blend F a a.length = F := by rw [blend, ← h, List.take_length, h, List.drop_length, List.append_nil]
theorem blend_length {F a : List Int} (h : F.length = a.length) (i : Nat) : (blend F a i).length = a.length := by simp [blend]; omega
theorem blend_get {F a : List Int} (h : F.length = a.length) {i : Nat} (hi : i < a.length) : (blend F a i).getD i 0 = a.getD i 0 := by
  have e : (F.take i).length = i := by simp; omega
  rw [blend, List.getD_eq_getElem?_getD, List.getElem?_append_right (by omega), e, List.getElem?_drop, List.getD_eq_getElem?_getD]
  congr 2
  omega
theorem blend_set {F a : List Int} (h : F.length = a.length) {i : Nat} (hi : i < a.length) : (blend F a i).set i (F.getD i 0) = blend F a (i + 1) := by
  have e : (F.take i).length = i := by simp; omega
  rw [blend, blend, List.set_append_right _ _ (by omega), e, Nat.sub_self, List.take_succ_eq_append_getElem (by omega), List.append_assoc]
  congr 1
  rw [List.drop_eq_getElem_cons hi, List.set_cons_zero]
  simp [List.getD_eq_getElem?_getD, show i < F.length by omega]
theorem blend_mem {F a : List Int} {i : Nat} {z : Int} (hz : z ∈ blend F a i) : z ∈ F ∨ z ∈ a := by
  rcases List.mem_append.1 hz with h | h
  · exact .inl (List.mem_of_mem_take h)
  · exact .inr (List.mem_of_mem_drop h)
theorem getD_range {l : List Int} {P : Int → Prop} (h : ∀ x ∈ l, P x) (h0 : P 0) (i : Nat) : P (l.getD i 0) := by
  rw [List.getD_eq_getElem?_getD]
  by_cases hi : i < l.length
  · rw [List.getElem?_eq_getElem hi]; exact h _ (List.getElem_mem hi)
  · rw [List.getElem?_eq_none (by omega)]; exact h0

/-- the product as it is behind i rows and j limbs of the next one -/
def mix (a f : List Int) (i j : Nat) : List Int := (List.range 5).map fun k => if k < j then psum a f (i + 1) k else psum a f i k
theorem mix_start (a f : List Int) : mix a f 0 0 = [0, 0, 0, 0, 0] := by simp [mix, psum, List.range, List.range.loop]
theorem mix_length (a f : List Int) (i j : Nat) : (mix a f i j).length = 5 := by simp [mix]
theorem mix_next (a f : List Int) (i : Nat) : mix a f i 5 = mix a f (i + 1) 0 := by simp [mix, List.range, List.range.loop]
theorem mix_end (a r : List Int) : mix a (factors r) 5 0 = mulL a r := by simp [mix, mulL]
theorem mix_get (a f : List Int) (i : Nat) {j : Nat} (h : j < 5) : (mix a f i j).getD j 0 = psum a f i j := by simp [mix, List.getD_eq_getElem?_getD, h]
theorem mix_set (a f : List Int) (i : Nat) {j : Nat} (h : j < 5) : (mix a f i j).set j (psum a f i j + a.getD i 0 * f.getD (5 - i + j) 0) = mix a f i (j + 1) := by
  rcases (show j = 0 ∨ j = 1 ∨ j = 2 ∨ j = 3 ∨ j = 4 by omega) with rfl | rfl | rfl | rfl | rfl <;> simp [mix, psum, List.range, List.range.loop]
theorem mulL_length (a r : List Int) : (mulL a r).length = 5 := by simp [mulL]
theorem mulL_bound {a r : List Int} (ha : ∀ x ∈ a, 0 ≤ x ∧ x < 268435456) (hr : ∀ x ∈ r, 0 ≤ x ∧ x < 67108864) : ∀ x ∈ mulL a r, 0 ≤ x ∧ x < 1152921504606846976 := by
  intro x hx
  obtain ⟨j, _, rfl⟩ := List.mem_map.1 hx
  have := psum_bound ha (factors_bound hr) 5 j
  omega

/-- where the bytes of n are told: behind i limbs, and b bytes, h bits of them are left -/
def Low (n : List Int) (i b h : Nat) (rest : Int) : Prop := 26 * i = 8 * b + h ∧ lv n / 256 ^ b = rest + 2 ^ h * lv (n.drop i) ∧ 0 ≤ rest ∧ rest < 2 ^ (h + 3)
theorem Low.start (n : List Int) : Low n 0 0 0 0 := ⟨rfl, by simp, by omega, by decide⟩
theorem lv_drop (n : List Int) {i : Nat} (h : i < n.length) : lv (n.drop i) = n.getD i 0 + 67108864 * lv (n.drop (i + 1)) := by
  rw [List.drop_eq_getElem_cons h, lv, List.getD_eq_getElem?_getD, List.getElem?_eq_getElem h]
  rfl
theorem Low.limb {n : List Int} {i b h : Nat} {rest : Int} (k : Low n i b h rest) (hi : i < n.length) (hb : 0 ≤ n.getD i 0 ∧ n.getD i 0 < 268435456) : Low n (i + 1) b (h + 26) (rest + n.getD i 0 * 2 ^ h) := by
  obtain ⟨h1, h2, h3, h4⟩ := k
  rw [lv_drop n hi] at h2
  generalize n.getD i 0 = x at *
  have hp : (0 : Int) < 2 ^ h := Int.pow_pos (by omega)
  have e1 : (2 : Int) ^ (h + 26) = 2 ^ h * 67108864 := by rw [Int.pow_add]; rfl
  have e2 : (2 : Int) ^ (h + 26 + 3) = 2 ^ h * 536870912 := by rw [Nat.add_assoc, Int.pow_add]; rfl
  have e3 : (2 : Int) ^ (h + 3) = 2 ^ h * 8 := by rw [Int.pow_add]; rfl
  refine ⟨by omega, ?_, ?_, ?_⟩
  · rw [h2, e1, Int.mul_add, ← Int.mul_assoc, Int.mul_comm x, Int.add_assoc]
  · exact Int.add_nonneg h3 (Int.mul_nonneg hb.1 (by omega))
  · have : x * 2 ^ h ≤ 268435455 * 2 ^ h := Int.mul_le_mul_of_nonneg_right (by omega) (by omega)
    rw [e2]
    rw [e3] at h4
    generalize (2 : Int) ^ h = p at *
    omega
theorem Low.byte {n : List Int} {i b h : Nat} {rest : Int} (k : Low n i b h rest) (hh : 8 ≤ h) : Low n i (b + 1) (h - 8) (rest / 256) ∧ rest % 256 = lv n / 256 ^ b % 256 := by
  obtain ⟨h1, h2, h3, h4⟩ := k
  obtain ⟨h, rfl⟩ : ∃ q, h = q + 8 := ⟨h - 8, by omega⟩
  have e1 : (2 : Int) ^ (h + 8) = 256 * 2 ^ h := by rw [Int.pow_add, Int.mul_comm]; rfl
  have e2 : (2 : Int) ^ (h + 8 + 3) = 256 * 2 ^ (h + 3) := by rw [show h + 8 + 3 = h + 3 + 8 by omega, Int.pow_add, Int.mul_comm]; rfl
  rw [e1, Int.mul_assoc] at h2
  rw [e2] at h4
  rw [Nat.add_sub_cancel]
  refine ⟨⟨by omega, ?_, by omega, by omega⟩, by omega⟩
  rw [Int.pow_succ, ← Int.ediv_ediv_of_nonneg (Int.le_of_lt (Int.pow_pos (by omega) : (0 : Int) < 256 ^ b)), h2]
  omega

/-- a piece as it is ranged over: its bytes, the 1, and zeros -/
def chunk (m : List Int) (k : Nat) : List Int := (m.drop (16 * k)).take 16
def pieceAt (m : List Int) (k : Nat) : List Int := chunk m k ++ 1 :: List.replicate (16 - (chunk m k).length) 0
def pieces (m : List Int) : List (List Int) := (List.range (count m)).map (pieceAt m)
theorem chunk_length (m : List Int) (k : Nat) : (chunk m k).length = min 16 (m.length - 16 * k) := by simp [chunk]
theorem pieceAt_length (m : List Int) (k : Nat) : (pieceAt m k).length = 17 := by
  have := chunk_length m k
  simp [pieceAt]
  omega
theorem pieces_length (m : List Int) : (pieces m).length = count m := by simp [pieces]
theorem pieces_take (m : List Int) {k : Nat} (h : k < count m) : (pieces m).take k ++ [pieceAt m k] = (pieces m).take (k + 1) := by
  rw [List.take_succ_eq_append_getElem (by rw [pieces_length]; exact h)]
  simp [pieces]
theorem val_pieceAt (m : List Int) (k : Nat) : val (pieceAt m k) = val (chunk m k ++ [1]) := by
  have e : pieceAt m k = (chunk m k ++ [1]) ++ List.replicate (16 - (chunk m k).length) 0 := by simp [pieceAt]
  rw [e, val_append, val_zeros, Int.mul_zero, Int.add_zero]
theorem chunk_bytes {m : List Int} (h : Bs m) (k : Nat) : Bs (chunk m k) := fun z hz => h z (List.mem_of_mem_drop (List.mem_of_mem_take hz))
theorem pieceAt_bytes {m : List Int} (h : Bs m) (k : Nat) : Bs (pieceAt m k) := fun z hz => by
  rcases List.mem_append.1 hz with h1 | h1
  · exact chunk_bytes h k z h1
  · rcases List.mem_cons.1 h1 with rfl | h1
    · omega
    · rw [List.eq_of_mem_replicate h1]; omega
theorem val_chunk_lt {m : List Int} (h : Bs m) (k : Nat) : 0 ≤ val (chunk m k ++ [1]) ∧ val (chunk m k ++ [1]) < 2 ^ 129 := by
  have h1 := val_lt (chunk_bytes h k)
  have h0 := val_nonneg (xs := chunk m k) fun z hz => (chunk_bytes h k z hz).1
  have hl : (chunk m k).length ≤ 16 := by rw [chunk_length]; omega
  rw [val_append]
  have e : (256 : Int) ^ (chunk m k).length ≤ 256 ^ 16 := by
    obtain ⟨d, hd⟩ : ∃ d, 16 = (chunk m k).length + d := ⟨16 - (chunk m k).length, by omega⟩
    rw [hd, Int.pow_add]
    have h1 : (0 : Int) < 256 ^ (chunk m k).length := Int.pow_pos (by omega)
    have h2 : (0 : Int) < 256 ^ d := Int.pow_pos (by omega)
    have := Int.mul_le_mul_of_nonneg_left (show (1 : Int) ≤ 256 ^ d by omega) (Int.le_of_lt h1)
    rwa [Int.mul_one] at this
  simp only [val]
  generalize (256 : Int) ^ (chunk m k).length = N at *
  omega
/-- the piece as it is when p bytes have come -/
def cur (m : List Int) (p : Nat) : List Int := (m.drop (16 * (p / 16))).take (p % 16) ++ List.replicate (17 - p % 16) 0
theorem cur_length {m : List Int} {p : Nat} (h : p ≤ m.length) : (cur m p).length = 17 := by simp [cur]; omega
theorem cur_start (m : List Int) {p : Nat} (h : p % 16 = 0) : cur m p = List.replicate 17 0 := by simp [cur, h]
theorem cur_last {m : List Int} (h : m.length % 16 ≠ 0) : (cur m m.length).set (m.length % 16) 1 = pieceAt m (m.length / 16) := by
  have hd := Nat.div_add_mod m.length 16
  have hlt : m.length % 16 < 16 := Nat.mod_lt _ (by omega)
  have e1 : (m.drop (16 * (m.length / 16))).take (m.length % 16) = m.drop (16 * (m.length / 16)) := List.take_of_length_le (by simp; omega)
  have e2 : chunk m (m.length / 16) = m.drop (16 * (m.length / 16)) := List.take_of_length_le (by simp; omega)
  have e3 : (m.drop (16 * (m.length / 16))).length = m.length % 16 := by simp; omega
  rw [cur, pieceAt, e1, e2, List.set_append_right _ _ (by omega), e3, Nat.sub_self, show 17 - m.length % 16 = (16 - m.length % 16) + 1 by omega, List.replicate_succ, List.set_cons_zero]
theorem cur_step {m : List Int} {p n k : Nat} (hk : k = min n (16 - p % 16)) (hn : p + n ≤ m.length) :
    (cur m p).take (p % 16) ++ (((m.drop p).take n).take k ++ (cur m p).drop (p % 16 + k)) = if p % 16 + k = 16 then chunk m (p / 16) ++ [0] else cur m (p + k) := by
  have hlt : p % 16 < 16 := Nat.mod_lt _ (by omega)
  have e1 : (cur m p).take (p % 16) = (m.drop (16 * (p / 16))).take (p % 16) := by
    rw [cur, List.take_append_of_le_length (by simp; omega), List.take_of_length_le (by simp; omega)]
  have e2 : (cur m p).drop (p % 16 + k) = List.replicate (17 - (p % 16 + k)) 0 := by
    rw [cur, List.drop_append, List.drop_of_length_le (by simp; omega), List.nil_append, List.drop_replicate]
    congr 1
    simp
    omega
  have e3 : ((m.drop (16 * (p / 16))).take (p % 16)) ++ ((m.drop p).take n).take k = (m.drop (16 * (p / 16))).take (p % 16 + k) := by
    rw [List.take_take, Nat.min_eq_left (by omega), List.take_add, List.drop_drop]
    congr 3
    omega
  rw [e1, e2, ← List.append_assoc, e3]
  split
  · rename_i h
    rw [h, chunk]
    rfl
  · rw [cur, show (p + k) / 16 = p / 16 by omega, show (p + k) % 16 = p % 16 + k by omega]
theorem pieceAt_full {m : List Int} {k : Nat} (h : 16 * (k + 1) ≤ m.length) : (chunk m k ++ [0]).set 16 1 = pieceAt m k := by
  have hl : (chunk m k).length = 16 := by rw [chunk_length]; omega
  rw [pieceAt, List.set_append_right _ _ (by omega), hl]
  rfl
theorem step_eq (r : Int) (m : List Int) (k : Nat) : acc r m (k + 1) = (acc r m k + val (pieceAt m k)) * r % modulus := by rw [val_pieceAt]; rfl
end Go.Proofs.YtoelgcdjhekafaaDoor.Po
namespace Go.Proofs.YtoelgcdjhekafaaDoor.Po
open Go.RowKit Go.Proofs.YtoelgcdjhekafaaDoor.Mem Go.Proofs.YtoelgcdjhekafaaDoor.Sum
set_option linter.unusedVariables false

/-- a table of numbers of kind k, at a variable's block -/
def TabK (w : World) (g : Nat) (k : IntKind) (zs : List Int) : Prop := ∃ t fr, w.heap[g]? = some (.cells (arr k zs) t fr)
section
variable {w w' : World} {g : Nat} {k : IntKind} {zs : List Int}
theorem TabK.lt (h : TabK w g k zs) : g < w.heap.size := by obtain ⟨t, fr, h⟩ := h; exact (Array.getElem?_eq_some_iff.1 h).1
theorem TabK.below {B : Nat} (h : TabK w g k zs) (hb : Below B w w') (hg : g < B) : TabK w' g k zs := by obtain ⟨t, fr, h⟩ := h; exact ⟨t, fr, (hb.block g hg).trans h⟩
theorem TabK.cell (h : TabK w g k zs) {i : Nat} (hi : i < zs.length) : w.cell? ⟨g, i, none⟩ = some (.int k (zs.getD i 0)) := by
  obtain ⟨t, fr, h⟩ := h
  rw [cell_of_row w g i _ t fr h, arr_get _ _ hi]
theorem TabK.only {S : Nat → Prop} (h : TabK w g k zs) (ho : Only S w w') (hg : ¬ S g) : TabK w' g k zs := by
  obtain ⟨t, fr, h⟩ := h
  exact ⟨t, fr, ho.block g _ hg h rfl⟩
end
theorem tabK_of_var {P : Program} {w : World} {name : String} {g : Nat} {k : IntKind} {zs : List Int} (hg : P.globalNamed name = some g) (h : Lib.TabIs P w name k zs) : TabK w g k zs := by
  unfold Lib.TabIs World.var? at h
  rw [hg, Option.bind_some] at h
  cases hb : w.heap[g]? with
  | none => rw [hb] at h; cases h
  | some o =>
    rw [hb] at h
    cases o with
    | cells cs t fr => simp only [Option.some.injEq] at h; exact ⟨t, fr, by rw [hb, h]; rfl⟩
    | _ => cases h

section
variable {P : Program} {ops : Array Oper} {rest : List Oper} {o : Oper} {a : Act} {w : World} {Q : Exit → Act → World → Prop}
/-- an array out of a slice: its address -/
theorem wpList_arrayAt (hgd : o.guard = none) (ty : TypeId) (x : Operand) (ho : o.op = .sliceToArrayPointer ty x) (A : Option Addr) (len cap n : Nat) (e : TypeId) (hx : a.eval x = .slice A len cap) (hu : P.underlying ty = some (.array n e)) (hn : n ≤ len)
    (h : wpList P ops Q rest (a.put o.dst (.pointer A)) w) : wpList P ops Q (o :: rest) a w := by
  refine wpList_plain hgd fun K hK => ?_
  have hl : ¬ len < n := by omega
  unfold Oper.wp execOp
  simp only [ho, hx, Instr.arrayAt, Sem.run_bind, run_underlying hu, Result.andThen_ok, hl, if_false, Sem.run_pure]
  exact hK _ _ h
theorem rangeAt_row {g : Nat} {t : TypeId} {k : IntKind} {zs : List Int} (hr : Row w g t k zs) (off n : Nat) : w.rangeAt g off (((zs.drop off).take n).map (Value.int k)) := fun j v hv => by
  have hj := (List.getElem?_eq_some_iff.1 hv).1
  simp only [List.length_map, List.length_take, List.length_drop] at hj
  rw [hr.cell (by omega), ← hv]
  simp [List.getD_eq_getElem?_getD, show j < n by omega, show off + j < zs.length by omega]
/-- some numbers of a block that is known whole, as an array -/
theorem wpList_load_midRow (hgd : o.guard = none) (ty : TypeId) (x : Operand) (ho : o.op = .load ty x) (g off : Nat) (hx : a.eval x = .pointer (some ⟨g, off, none⟩)) (t : TypeId) (k : IntKind) (zs : List Int) (hr : Row w g t k zs) (n : Nat) (e : TypeId)
    (hu : P.underlying ty = some (.array n e)) (hi : (P.info? ty).map (·.size) = some n) (hn : off + n ≤ zs.length) (h : wpList P ops Q rest (a.put o.dst (.agg (arr k ((zs.drop off).take n)))) w) : wpList P ops Q (o :: rest) a w := by
  refine wpList_load_mid hgd ty x ho g off hx (((zs.drop off).take n).map (Value.int k)) _ (rangeAt_row hr off n) hu rfl (by rw [hi]; simp; omega) ?_
  exact h
end

/-! ### Masks -/
theorem mask_u64 (x : Int) (n : Nat) (hx : 0 ≤ x) (hx' : x < 18446744073709551616) (hn : n ≤ 63) : bits .and .u64 x (2 ^ n - 1) = x % 2 ^ n := by
  obtain ⟨a, rfl⟩ := Int.eq_ofNat_of_zero_le hx
  have hp : (2 : Nat) ^ n ≤ 2 ^ 63 := Nat.pow_le_pow_right (by omega) hn
  have h1 : 0 < 2 ^ n := Nat.pow_pos (by omega)
  have e : ((2 : Int) ^ n - 1) = ((2 ^ n - 1 : Nat) : Int) := by
    rw [Int.natCast_sub h1, Int.natCast_pow]
    rfl
  rw [e, u64_and _ _ hx hx' (by omega) (by omega), Int.toNat_natCast, Int.toNat_natCast, Nat.and_two_pow_sub_one_eq_mod, Int.natCast_emod, Int.natCast_pow]
  rfl
theorem mask_limb (x : Int) (hx : 0 ≤ x) (hx' : x < 18446744073709551616) : bits .and .u64 x 67108863 = x % 67108864 := mask_u64 x 26 hx hx' (by omega)
theorem mask_u32 (x : Int) (n : Nat) (hx : 0 ≤ x) (hx' : x < 4294967296) (hn : n ≤ 31) : bits .and .u32 x (2 ^ n - 1) = x % 2 ^ n := by
  obtain ⟨a, rfl⟩ := Int.eq_ofNat_of_zero_le hx
  have hp : (2 : Nat) ^ n ≤ 2 ^ 31 := Nat.pow_le_pow_right (by omega) hn
  have h1 : 0 < 2 ^ n := Nat.pow_pos (by omega)
  have e : ((2 : Int) ^ n - 1) = ((2 ^ n - 1 : Nat) : Int) := by
    rw [Int.natCast_sub h1, Int.natCast_pow]
    rfl
  rw [e, u32_and _ _ hx hx' (by omega) (by omega), Int.toNat_natCast, Int.toNat_natCast, Nat.and_two_pow_sub_one_eq_mod, Int.natCast_emod, Int.natCast_pow]
  rfl
theorem mask_byte (x : Int) (hx : 0 ≤ x) (hx' : x < 4294967296) : bits .and .u32 x 255 = x % 256 := mask_u32 x 8 hx hx' (by omega)
theorem mask_two (x : Int) (hx : 0 ≤ x) (hx' : x < 4294967296) : bits .and .u32 x 3 = x % 4 := mask_u32 x 2 hx hx' (by omega)
theorem and8 : ∀ x : Fin 256, bits .and .u8 (x.val : Int) 15 = x.val % 16 ∧ bits .and .u8 (x.val : Int) 252 = x.val / 4 * 4 ∧ bits .and .u8 (x.val : Int) 255 = x.val ∧ bits .and .u8 (x.val : Int) 127 = x.val % 128 := by decide +kernel
theorem and_byte {x : Int} (h : 0 ≤ x ∧ x ≤ 255) : bits .and .u8 x 15 = x % 16 ∧ bits .and .u8 x 252 = x / 4 * 4 ∧ bits .and .u8 x 255 = x ∧ bits .and .u8 x 127 = x % 128 := by
  have := and8 ⟨x.toNat, by omega⟩
  rwa [show ((x.toNat : Nat) : Int) = x by omega] at this
def keptI : List Int := [255, 255, 255, 15, 252, 255, 255, 15, 252, 255, 255, 15, 252, 255, 255, 15]
theorem kept_get : ∀ i : Fin 16, keptI.getD i.val 0 = if i.val % 4 = 3 then 15 else if i.val = 4 ∨ i.val = 8 ∨ i.val = 12 then 252 else 255 := by decide
theorem clamp_kept {key : List Int} (h : Bs key) {i : Nat} (hi : i < 16) : bits .and .u8 (key.getD i 0) (keptI.getD i 0) = (clamp key).getD i 0 := by
  have e : (clamp key).getD i 0 = clampAt key i := by simp [clamp, List.getD_eq_getElem?_getD, hi]
  have k := kept_get ⟨i, hi⟩
  simp only at k
  have a := and_byte (h.at_ i)
  rw [e, k, clampAt]
  split
  · exact a.1
  · split
    · exact a.2.1
    · exact a.2.2.1
theorem wf_byte {z : Int} (h : 0 ≤ z ∧ z ≤ 255) : (Lit.int .u8 z).wf = true := by simp [Lit.wf, IntKind.min, IntKind.max, IntKind.signed, IntKind.bits]; omega
theorem bs_wf {zs : List Int} (h : Bs zs) : ∀ z ∈ zs, (Lit.int .u8 z).wf = true := fun z hz => wf_byte (h z hz)
theorem wf_64 {z : Int} (h : 0 ≤ z ∧ z < 18446744073709551616) : (Lit.int .u64 z).wf = true := by simp [Lit.wf, IntKind.min, IntKind.max, IntKind.signed, IntKind.bits]; omega
theorem wf_32 {z : Int} (h : 0 ≤ z ∧ z < 4294967296) : (Lit.int .u32 z).wf = true := by simp [Lit.wf, IntKind.min, IntKind.max, IntKind.signed, IntKind.bits]; omega
end Go.Proofs.YtoelgcdjhekafaaDoor.Po
namespace Go.Proofs.YtoelgcdjhekafaaDoor.Ky
open Go.RowKit Go.Shelf Go.Sort Go.Proofs.YtoelgcdjhekafaaDoor.Mem Go.Proofs.YtoelgcdjhekafaaDoor.Help Go.Proofs.YtoelgcdjhekafaaDoor.Po Go.Proofs.YtoelgcdjhekafaaDoor
set_option linter.unusedVariables false
attribute [local irreducible] wpList wpListIn Calls

theorem tabIs_of {P : Program} {w : World} {name : String} {g : Nat} {k : IntKind} {zs : List Int} (hg : P.globalNamed name = some g) (h : TabK w g k zs) : Lib.TabIs P w name k zs := by
  obtain ⟨t, fr, h⟩ := h
  unfold Lib.TabIs World.var?
  rw [hg, Option.bind_some, h]
  rfl
abbrev Pow (w : World) : Prop := TabK w 0 .u64 Lib.pow10Tab
theorem pow_is {w : World} (h : Pow w) : Lib.TabIs Tryd.prog w "internal/strconv.uint64pow10" .u64 Lib.pow10Tab := tabIs_of (by kernel_rfl) h

theorem holds_zero0 (w : World) (T : TypeId) (nd : Nat) (hs : nd ≤ 24) : Holds (fun (b : UInt8) => Value.int .u8 (b.toNat : Int)) (w.alloc (.cells Lib.zeros24 T)) w.heap.size 0 (Array.replicate nd (0 : UInt8)) := fun j hj => by
  have hj' : j < nd := by simpa using hj
  refine ⟨?_, World.frozen?_alloc_new _ _ _ _⟩
  rw [World.cell?_alloc_new, Lib.zeros24_at _ (by omega), getElem!_pos _ j hj]
  simp
theorem fin_below (w : World) (o : Obj) (dk : Array UInt8) (k : Nat) : Below w.heap.size w ((putRow (fun (b : UInt8) => Value.int .u8 (b.toNat : Int)) (w.alloc o) w.heap.size 0 dk).drewN k) := by
  rw [alloc_eq_grow]
  obtain ⟨os', _, e⟩ := putRow_grow_new (fun (b : UInt8) => Value.int .u8 (b.toNat : Int)) w #[o] w.heap.size 0 dk (Nat.le_refl _)
  rw [e]
  exact Lib.below_grow w.heap.size w (Nat.le_refl _) k os'

set_option maxHeartbeats 6400000 in
set_option maxRecDepth 100000 in
theorem uint_any (u : Nat) (hu : u < 18446744073709551616) (w : World) (hP : Pow w) :
    Calls Tryd.prog 39 #[.int .u64 (u : Int), .int .i64 10] w fun e w' => e = .returned (.string ⟨(Lib.decDigits u).toArray⟩) ∧ Below w.heap.size w w' := by
  by_cases hs : u < 100
  · have h1 : (u : Int) < 100 := by omega
    have W1 : IntKind.i64.wrap (u : Int) = (u : Int) := by rw [IntKind.wrap_i64]; omega
    go_enter Tryd.func39, Tryd.ntmps39
    go_wp2_with (go_at_call 44; refine (Tryd.internal_strconv_small u hs _).mono ?_; rintro e w' ⟨rfl, rfl⟩)
    go_ret
    exact ⟨rfl, Below.refl _ _⟩
  · have h1 : ¬ (u : Int) < 100 := by omega
    have hnd20 : Lib.nDigits u ≤ 20 := by have := Lib.numDigits_eq u (by omega) hu; split at this <;> omega
    have hsl1 : ∀ W, (Instr.sliceAt 63 (.pointer (some ⟨w.heap.size, 0, none⟩)) none (some (.int .i64 (Lib.nDigits u : Int))) none).run Tryd.prog W = .ok (.slice (some ⟨w.heap.size, 0, none⟩) (Lib.nDigits u) 24) W := fun W =>
      Held.run_slice_arr_h (P := Tryd.prog) 63 5 24 w.heap.size (Lib.nDigits u) W Tryd.underlying63 (by kernel_rfl) (by omega) (by omega)
    have hH0 := holds_zero0 w 63 (Lib.nDigits u) (by omega)
    have hfmt := Tryd.internal_strconv_formatBase10 w.heap.size 0 24 u (Array.replicate (Lib.nDigits u) 0) (w.alloc (.cells Lib.zeros24 63)) hH0 (by rw [Array.size_replicate]; exact Lib.lt_pow_nDigits u) hu (by rw [Array.size_replicate]; omega)
    rw [Array.size_replicate] at hfmt
    have HH0 := Lib.hid hH0
    clear hH0
    go_enter Tryd.func39, Tryd.ntmps39
    go_wp2_with (go_at_call 45; refine (Tryd.internal_strconv_numDigits u (by omega) hu _ (Lib.tabIs_alloc (pow_is hP) _)).mono ?_; rintro e w' ⟨rfl, rfl⟩)
    refine hfmt.mono ?_
    rintro e w' ⟨rfl, k, v', dk, rfl, hF⟩
    have hcv : (convert 34 9 (.slice (some ⟨w.heap.size, 0, none⟩) (Lib.nDigits u) 24)).run Tryd.prog ((putRow (fun (b : UInt8) => Value.int .u8 (b.toNat : Int)) (w.alloc (.cells Lib.zeros24 63)) w.heap.size 0 dk).drewN k) = .ok (.string ⟨(Lib.decDigits u).toArray⟩) ((putRow (fun (b : UInt8) => Value.int .u8 (b.toNat : Int)) (w.alloc (.cells Lib.zeros24 63)) w.heap.size 0 dk).drewN k) := by
      have h := run_convert_bytes_back (P := Tryd.prog) ((putRow (fun (b : UInt8) => Value.int .u8 (b.toNat : Int)) (w.alloc (.cells Lib.zeros24 63)) w.heap.size 0 dk).drewN k) 34 9 5 ⟨w.heap.size, 0, none⟩ 24 (Lib.decDigits u) Tryd.underlying34 Tryd.underlying5 Tryd.underlying9 (fun j hj => by
        rw [Lib.row_is_numeral hF j hj, Lib.add_plain, World.cell?_drewN]
        exact cell?_putRow (fun (b : UInt8) => Value.int .u8 (b.toNat : Int)) _ w.heap.size 0 _ dk HH0.out (by rw [hF.size, Array.size_replicate]) j (by rw [hF.size]; rw [Lib.decDigits_length] at hj; exact hj))
      rw [Lib.decDigits_length] at h
      exact h
    go_wp2
    go_ret
    exact ⟨rfl, fin_below w _ dk k⟩

theorem fuint_any (u : Nat) (hu : u < 18446744073709551616) (w : World) (hP : Pow w) :
    Calls Tryd.prog 31 #[.int .u64 (u : Int), .int .i64 10] w fun e w' => e = .returned (.string ⟨(Lib.decDigits u).toArray⟩) ∧ Below w.heap.size w w' := by
  go_enter Tryd.func31, Tryd.ntmps31
  go_wp2_with (go_at_call 39; refine (uint_any u hu _ hP).mono ?_; rintro e w' ⟨rfl, b1⟩)
  go_ret
  exact ⟨rfl, b1⟩
theorem itoa_any (v : Int) (h : -9223372036854775808 ≤ v ∧ v ≤ 9223372036854775807) (w : World) (hP : Pow w) :
    Calls Tryd.prog 30 #[.int .i64 v] w fun e w' => e = .returned (.string ⟨(Lib.itoa v).toArray⟩) ∧ Below w.heap.size w w' :=
  (Tryd.strconv_Itoa v h.1 h.2 w (pow_is hP)).mono fun e w' ⟨he, k, os, hw⟩ => ⟨he, by rw [hw]; exact Lib.below_grow w.heap.size w (Nat.le_refl _) k os⟩
end Go.Proofs.YtoelgcdjhekafaaDoor.Ky
namespace Go.Proofs.YtoelgcdjhekafaaDoor.Mem
open Go.RowKit Go.Shelf Go.Proofs.YtoelgcdjhekafaaDoor.Range
set_option linter.unusedVariables false

section
variable {F : Fence} {n : Nat} {P : Program} {ops : Array Oper} {rest : List Oper} {o : Oper} {a : Act} {w : World} {Q : Exit → Act → World → Prop}
theorem wpListIn_store_elem (hw : Region.wanted o (yielded ops a.tmps) = true) (ty : TypeId) (x y : Operand) (ho : o.op = .store ty x y) (g i : Nat) (hx : a.eval x = .pointer (some ⟨g, i, none⟩)) (t : TypeId) (k : IntKind) (zs : List Int) (z : Int) (hy : a.eval y = .int k z)
    (hr : Row w g t k zs) (hi : i < zs.length) (hsz : (P.info? ty).map (·.size) = some 1) (hz : (Lit.int k z).wf = true)
    (h : ∀ w', Row w' g t k (zs.set i z) → w.grownBy w' (some g) → Hid (w'.heap.size = w.heap.size) → wpListIn F n P ops Q rest (a.put o.dst undef) w') : wpListIn F n P ops Q (o :: rest) a w := by
  refine wpListIn_step fun K hK => ?_
  rw [if_pos hw]
  unfold Oper.wpIn
  refine ⟨fun f hf => by simp [Oper.about, ho] at hf, ?_⟩
  rw [Oper.semAt_plain F _ _ (by rw [ho]; intro c hc'; cases hc')]
  unfold execOp
  simp only [ho, hx, hy, Instr.storeAt, Instr.sureAddr, Sem.run_bind, Sem.run_pure, Result.andThen_ok, run_store_elem ty g i _ (.int k z) (hr.cell hi) (hr.frozen i) hsz rfl rfl]
  exact hK _ _ (h _ (hr.set i hz) (grown_setCell _ _ _ _) (Lib.hid (by simp [World.setCell])))
theorem wpListIn_build_Row (hw : Region.wanted o (yielded ops a.tmps) = true) (t : TypeId) (parts : Array (Nat × Operand)) (ho : o.op = .build t parts) (k : IntKind) (zs : List Int)
    (hf : P.built t (parts.map fun (i, x) => (i, a.eval x)).toList = some (arr k zs)) (h : wpListIn F n P ops Q rest (a.put o.dst (.agg (arr k zs))) w) : wpListIn F n P ops Q (o :: rest) a w := by
  refine wpListIn_step fun K hK => ?_
  rw [if_pos hw]
  unfold Oper.wpIn
  refine ⟨fun f hf => by simp [Oper.about, ho] at hf, ?_⟩
  rw [Oper.semAt_plain F _ _ (by rw [ho]; intro c hc'; cases hc')]
  unfold execOp
  simp only [ho, Sem.run_bind, run_build w t _ _ hf, Result.andThen_ok]
  exact hK _ _ h
theorem wpListIn_copy_RowTo (hw : Region.wanted o (yielded ops a.tmps) = true) (d s : Operand) (dT sT : TypeId) (ho : o.op = .call { callee := .builtin .copy, args := #[d, s], argTypes := #[dT, sT] }) (e : TypeId) (hu : P.underlying dT = some (.slice e)) (hsz : (P.info? e).map (·.size) = some 1)
    (g off dLen dCap : Nat) (A : Option Addr) (sLen sCap : Nat) (hd : a.eval d = .slice (some ⟨g, off, none⟩) dLen dCap) (hs : a.eval s = .slice A sLen sCap)
    (t : TypeId) (k : IntKind) (cur xs : List Int) (hr : Row w g t k cur) (hx : 0 < sLen → ∃ b o2, A = some ⟨b, o2, none⟩ ∧ ∀ i, i < sLen → w.cell? ⟨b, o2 + i, none⟩ = some (.int k (xs.getD i 0))) (hxl : xs.length = sLen)
    (hxw : ∀ z ∈ xs, (Lit.int k z).wf = true) (m : Nat) (hm : m = min sLen dLen) (h0 : 0 < m) (hfit : off + m ≤ cur.length)
    (h : ∀ w', Row w' g t k (cur.take off ++ (xs.take m ++ cur.drop (off + m))) → w.grownBy w' (some g) → Hid (w'.heap.size = w.heap.size) → wpListIn F n P ops Q rest (a.put o.dst (.int .i64 (m : Int))) w') : wpListIn F n P ops Q (o :: rest) a w :=
  wpListIn_copy_Row hw d s dT sT ho e hu hsz g off dLen dCap A sLen sCap hd hs t k cur xs hr hx hxl m hm h0 hfit
    (h _ (hr.setRow fun z hz => by
      rcases List.mem_append.1 hz with h1 | h1
      · exact hr.1 z (List.mem_of_mem_take h1)
      · rcases List.mem_append.1 h1 with h1 | h1
        · exact hxw z (List.mem_of_mem_take h1)
        · exact hr.1 z (List.mem_of_mem_drop h1)) (grown_setRow _ _ _) (Lib.hid (by simp)))
/-- an array out of a slice: its address -/
theorem wpListIn_arrayAt (hw : Region.wanted o (yielded ops a.tmps) = true) (ty : TypeId) (x : Operand) (ho : o.op = .sliceToArrayPointer ty x) (A : Option Addr) (len cap m : Nat) (e : TypeId) (hx : a.eval x = .slice A len cap) (hu : P.underlying ty = some (.array m e)) (hm : m ≤ len)
    (h : wpListIn F n P ops Q rest (a.put o.dst (.pointer A)) w) : wpListIn F n P ops Q (o :: rest) a w := by
  have hl : ¬ len < m := by omega
  refine wpListIn_step fun K hK => ?_
  rw [if_pos hw]
  unfold Oper.wpIn
  refine ⟨fun f hf => by simp [Oper.about, ho] at hf, ?_⟩
  rw [Oper.semAt_plain F _ _ (by rw [ho]; intro c hc'; cases hc')]
  unfold execOp
  simp only [ho, hx, Instr.arrayAt, Sem.run_bind, run_underlying hu, Result.andThen_ok, hl, if_false, Sem.run_pure]
  exact hK _ _ h
/-- some numbers of a block that is known whole, as an array -/
theorem wpListIn_load_midRow (hw : Region.wanted o (yielded ops a.tmps) = true) (ty : TypeId) (x : Operand) (ho : o.op = .load ty x) (g off : Nat) (hx : a.eval x = .pointer (some ⟨g, off, none⟩)) (t : TypeId) (k : IntKind) (zs : List Int) (hr : Row w g t k zs) (m : Nat) (e : TypeId)
    (hu : P.underlying ty = some (.array m e)) (hi : (P.info? ty).map (·.size) = some m) (hn : off + m ≤ zs.length) (h : wpListIn F n P ops Q rest (a.put o.dst (.agg (arr k ((zs.drop off).take m)))) w) : wpListIn F n P ops Q (o :: rest) a w := by
  refine wpListIn_step fun K hK => ?_
  rw [if_pos hw]
  unfold Oper.wpIn
  refine ⟨fun f hf => by simp [Oper.about, ho] at hf, ?_⟩
  rw [Oper.semAt_plain F _ _ (by rw [ho]; intro c hc'; cases hc')]
  unfold execOp
  simp only [ho, hx, Instr.loadAt, Instr.sureAddr, Sem.run_bind, Sem.run_pure, Result.andThen_ok, run_loadVar_mid w g off ty (((zs.drop off).take m).map (Value.int k)) _ (Po.rangeAt_row hr off m) hu rfl (by rw [hi]; simp; omega)]
  exact hK _ _ h
end
end Go.Proofs.YtoelgcdjhekafaaDoor.Mem
namespace Go.Proofs.YtoelgcdjhekafaaDoor.Range
open Go.RowKit
set_option linter.unusedVariables false

/-- the iterator hands out what reads as xs, one by one, out of blocks that it lays; Kp: what a round keeps -/
def SeqGive {α : Type} (F : Fence) (n : Nat) (P : Program) (g : Nat) (lb : Array Value) (Enc : α → Nat → World → Array Value → Prop) (Kp : World → World → Prop) (xs : List α) (w : World) : Prop :=
  ∀ (l : Nat) (J : List α → World → Prop) (W : World), Below w.heap.size w W → (∀ s W1 W2, J s W1 → W1.grownBy W2 none → J s W2) →
    (∀ pre x args W0 W1, J pre W0 → W0.grownBy W1 none → Enc x W0.heap.size W1 args → (pre ++ [x]) <+: xs → YieldAt F (n - 1) P l args W1 fun e W' => e = .returned (.bool true) ∧ J (pre ++ [x]) W' ∧ Kp W1 W') →
    J [] W → CallsIn F n P g (#[.func (.yield l) #[] #[]] ++ lb) W fun e W' => (∃ v, e = .returned v) ∧ J xs W'

variable {F : Fence} {n : Nat} {P : Program}

theorem wpIn_rangeFunc_give {α : Type} {g : Operand} {ps : Array Tmp} {assign body : Code} {Q : Exit → Act → World → Prop} {a : Act} {w : World}
    (hro : F.round = none) (h1 : 1 ≤ n) {gf : Nat} {lb : Array Value} (hg : a.eval g = .func (.func gf) #[] lb) (hFg : F.fn gf) (eg : ∀ args w, (callFunc gf args).run P w = .ok (.enter gf args) w)
    {Enc : α → Nat → World → Array Value → Prop} {Kp : World → World → Prop} {xs : List α} {w0 : World} (hseq : SeqGive F (n - 1) P gf lb Enc Kp xs w0)
    (hKt : ∀ {A B C : World}, Kp A B → Kp B C → Kp A C) (hKb : ∀ (W : World) (l : Nat) (o o' : Obj), w.heap.size ≤ l → W.heap[l]? = some o → o.isCells = false → o.isWalk = false → Kp W (W.putObj l o'))
    (hb0 : Below w0.heap.size w0 w) (hps : ∀ x B W args, Enc x B W args → args.size = ps.size)
    (I : List α → World → Prop) (hI : OwnFrom w.heap.size I) (h0 : I [] w)
    (Ib : α → Act → List α → World → Prop) (hIb : ∀ x a', OwnFrom w.heap.size (Ib x a'))
    (hassign : ∀ (l : Nat) (pre : List α) (x : α) (args : Array Value) (W0 W : World) (K : Act → World → Prop), I pre W0 → W0.grownBy W none → Enc x W0.heap.size W args → (pre ++ [x]) <+: xs → w.heap.size ≤ W0.heap.size → (∀ a' W', KeepsOthers W W' → Kp W W' → Ib x a' pre W' → K a' W') →
      assign.wpIn (F.inRound l) (n - 1 - 1) P (Exit.then K (fun _ _ _ => False)) { tmps := (ps.zip args).foldl (fun t (p, v) => t.setIfInBounds p v) a.tmps, defers := [] } W)
    (hbody : ∀ (l : Nat) (pre : List α) (x : α) (a' : Act) (W : World), Ib x a' pre W → (pre ++ [x]) <+: xs → w.heap.size ≤ W.heap.size →
      body.wpIn (F.inRound l) (n - 1 - 1) P (goesOn fun W' => KeepsOthers W W' ∧ Kp W W' ∧ I (pre ++ [x]) W') a' W)
    (hdone : ∀ (D : Nat) (W : World), w.heap.size ≤ D → I xs W → W.heap[D]? = some (.deferred (some [])) → Q .normal { a with defers := { target := .collected D, args := #[] } :: a.defers } W) :
    (Code.rangeFunc g ps assign body).wpIn F n P Q a w := by
  refine wpIn_rangeFunc fun fn hfn => ?_
  rw [hro]
  -- the record of the loop, and the block of the rounds' deferred calls, behind all that lay
  let rec0 : LoopState → Loop := fun st => { state := st, pending := none, fn := fn, tmps := a.tmps, params := ps, assign := assign, body := body, defers := w.heap.size }
  let W1 : World := (w.alloc (.deferred (some []))).alloc (.loop (rec0 .ready))
  have hz1 : W1.heap.size = w.heap.size + 2 := by simp [W1]
  have hl1 : W1.heap[w.heap.size + 1]? = some (.loop (rec0 .ready)) := by
    have e := World.alloc_heap_new (w.alloc (.deferred (some []))) (.loop (rec0 .ready))
    rwa [World.size_alloc] at e
  have hd1 : W1.heap[w.heap.size]? = some (.deferred (some [])) := (Below.heap_alloc _ _ _ (by simp)).trans (World.alloc_heap_new w _)
  have hi1 : I [] W1 := hI.alloc _ (hI.alloc _ h0)
  have hb1 : Below w0.heap.size w0 W1 := hb0.trans ((((Below.refl _ w).alloc (Nat.le_refl _) _).alloc (by simp) _).mono hb0.size)
  refine ⟨w.heap.size + 1, [{ target := .collected w.heap.size, args := #[] }], W1, { target := .fn (.func gf) lb, args := #[.func (.yield (w.heap.size + 1)) #[] #[]] }, W1, gf,
    #[.func (.yield (w.heap.size + 1)) #[] #[]] ++ lb, W1, run_enterLoop_outer _ _ _ _ _, by simp only [resolve, hg]; simp [go_sem],
    fun f' hf' => by simp [Target.leads] at hf'; subst hf'; exact hFg, by simp [invoke, go_sem, eg], fun _ => h1, ?_⟩
  refine (hseq (w.heap.size + 1) (fun pre W => I pre W ∧ W.heap[w.heap.size + 1]? = some (.loop (rec0 .ready)) ∧ W.heap[w.heap.size]? = some (.deferred (some []))) W1 hb1
    (fun s A B hs hg' => ⟨hI s A B none hs.1 hg' (fun r e => by cases e), (hg'.block _ (Array.getElem?_eq_some_iff.1 hs.2.1).1 (by simp)).trans hs.2.1, (hg'.block _ (Array.getElem?_eq_some_iff.1 hs.2.2).1 (by simp)).trans hs.2.2⟩) ?_ ⟨hi1, hl1, hd1⟩).mono ?_
  · -- a round
    rintro pre x args W0 W ⟨hi, hl0, hd0⟩ hgW henc hpre
    have hlt0 : w.heap.size + 1 < W0.heap.size := (Array.getElem?_eq_some_iff.1 hl0).1
    have hl := (hgW.block _ hlt0 (by simp)).trans hl0
    have hd := (hgW.block _ (by omega) (by simp)).trans hd0
    have hlt : w.heap.size + 1 < W.heap.size := (Array.getElem?_eq_some_iff.1 hl).1
    have hy := run_yield (P := P) (args := args) hl (hps x _ _ _ henc)
    refine ⟨fn, _, assign, body, hy, roundIn_of_wpIn hfn (hassign _ pre x args W0 W _ hi hgW henc hpre (by omega) ?_)⟩
    intro a' W2 hk2 hp2 hib
    have hl2 := hk2.same _ _ hl rfl
    have hd2 := hk2.same _ _ hd rfl
    have hlt2 : w.heap.size + 1 < W2.heap.size := (Array.getElem?_eq_some_iff.1 hl2).1
    refine ⟨_, run_beginRound hl2 rfl, ?_⟩
    have hl3 : (W2.putObj (w.heap.size + 1) (.loop { rec0 .ready with state := .busy })).heap[w.heap.size + 1]? = some (.loop { rec0 .ready with state := .busy }) := World.putObj_heap_same hlt2
    have hd3 : (W2.putObj (w.heap.size + 1) (.loop { rec0 .ready with state := .busy })).heap[w.heap.size]? = some (.deferred (some [])) := (World.putObj_heap_other (by omega)).trans hd2
    have hp3 : Kp W (W2.putObj (w.heap.size + 1) (.loop { rec0 .ready with state := .busy })) := hKt hp2 (hKb _ _ _ _ (by omega) hl2 rfl rfl)
    refine wpIn_mono (hbody _ pre x a' _ ((hIb x a').putObj _ hib (by omega) hl2 rfl) hpre (by rw [World.putObj_size]; omega)) ?_
    intro e a3 W4 hp
    cases e with
    | normal =>
      obtain ⟨hk4, hp4, hi4⟩ := hp
      have hl4 := hk4.same _ _ hl3 rfl
      have hlt4 : w.heap.size + 1 < W4.heap.size := (Array.getElem?_eq_some_iff.1 hl4).1
      refine ⟨_, _, run_endRound (P := P) none hl4, rfl, ⟨hI.putObj _ hi4 (by omega) hl4 rfl, World.putObj_heap_same hlt4, (World.putObj_heap_other (by omega)).trans (hk4.same _ _ hd3 rfl)⟩, ?_⟩
      exact hKt (hKt hp3 hp4) (hKb _ _ _ _ (by omega) hl4 rfl rfl)
    | ret => exact hp.elim
    | exit id => exact hp.elim
    | goto t => exact hp.elim
    | panic ch => exact hp.elim
    | outgrown => exact hp.elim
  · -- behind the iterator
    rintro e W2 ⟨⟨v, rfl⟩, hi, hl, hd⟩
    refine ⟨none, _, run_endLoop (P := P) hl (by simp [rec0]), ?_⟩
    exact hdone _ _ (Nat.le_refl _) (hI.putObj _ hi (by omega) hl rfl) ((World.putObj_heap_other (by omega)).trans hd)
end Go.Proofs.YtoelgcdjhekafaaDoor.Range
namespace Go.Proofs.YtoelgcdjhekafaaDoor.Ky
open Go.Proofs.YtoelgcdjhekafaaDoor.Sum Go.Proofs.YtoelgcdjhekafaaDoor.Po
set_option linter.unusedVariables false

/-- a number's decimal digits -/
def decN (n : Nat) : List Int := if n < 10 then [48 + (n : Int)] else decN (n / 10) ++ [48 + ((n % 10 : Nat) : Int)]
termination_by n
decreasing_by omega
/-- with a sign ahead of one below 0 -/
def decI (v : Int) : List Int := if v < 0 then 45 :: decN (-v).toNat else decN v.toNat
/-- what digits say -/
def undec : List Int → Nat → Nat
  | [], a => a
  | d :: ds, a => undec ds (10 * a + (d - 48).toNat)
theorem undec_append : ∀ (xs ys : List Int) (a : Nat), undec (xs ++ ys) a = undec ys (undec xs a)
  | [], _, _ => rfl
  | x :: xs, ys, a => undec_append xs ys _
theorem decN_mem (n : Nat) : ∀ z ∈ decN n, 48 ≤ z ∧ z ≤ 57 := by
  induction n using decN.induct with
  | case1 n h =>
    intro z hz
    rw [decN, if_pos h, List.mem_singleton] at hz
    omega
  | case2 n h ih =>
    intro z hz
    rw [decN, if_neg h] at hz
    rcases List.mem_append.1 hz with hz | hz
    · exact ih z hz
    · rw [List.mem_singleton] at hz
      omega
theorem undec_dec (n : Nat) : undec (decN n) 0 = n := by
  induction n using decN.induct with
  | case1 n h =>
    rw [decN, if_pos h]
    simp only [undec]
    omega
  | case2 n h ih =>
    rw [decN, if_neg h, undec_append, ih]
    simp only [undec]
    omega
theorem decN_inj {a b : Nat} (h : decN a = decN b) : a = b := by rw [← undec_dec a, h, undec_dec]
theorem decN_length (n : Nat) : ∀ k, n < 10 ^ (k + 1) → (decN n).length ≤ k + 1 := by
  induction n using decN.induct with
  | case1 n h =>
    intro k _
    rw [decN, if_pos h]
    simp
  | case2 n h ih =>
    intro k hk
    rw [decN, if_neg h, List.length_append, List.length_singleton]
    cases k with
    | zero => simp at hk; omega
    | succ k =>
      have := ih k (by rw [Nat.pow_succ] at hk; omega)
      omega
theorem decN_pos (n : Nat) : decN n ≠ [] := by
  rw [decN]
  split <;> simp
theorem decI_mem (v : Int) : ∀ z ∈ decI v, z = 45 ∨ (48 ≤ z ∧ z ≤ 57) := fun z hz => by
  unfold decI at hz
  split at hz
  · rcases List.mem_cons.1 hz with h | h
    · exact .inl h
    · exact .inr (decN_mem _ z h)
  · exact .inr (decN_mem _ z hz)
theorem decI_inj {a b : Int} (h : decI a = decI b) : a = b := by
  have hn : ∀ n, ∀ xs : List Int, decN n ≠ 45 :: xs := fun n xs e => by
    have := decN_mem n 45 (by rw [e]; simp)
    omega
  unfold decI at h
  split at h <;> split at h
  · injection h with _ h
    have := decN_inj h
    omega
  · exact absurd h.symm (hn _ _)
  · exact absurd h (hn _ _)
  · have := decN_inj h
    omega
/-- what stands ahead of a sign that is in neither is alike -/
theorem cut_inj {s : Int} : ∀ {xs ys : List Int} {us vs : List Int}, s ∉ xs → s ∉ ys → xs ++ s :: us = ys ++ s :: vs → xs = ys ∧ us = vs
  | [], [], us, vs, _, _, h => by simpa using h
  | [], y :: ys, us, vs, _, h2, h => by
    injection h with h _
    exact absurd (by rw [h]; simp) h2
  | x :: xs, [], us, vs, h1, _, h => by
    injection h with h _
    exact absurd (by rw [h]; simp) h1
  | x :: xs, y :: ys, us, vs, h1, h2, h => by
    injection h with h3 h4
    have := cut_inj (fun e => h1 (List.mem_cons_of_mem _ e)) (fun e => h2 (List.mem_cons_of_mem _ e)) h4
    exact ⟨by rw [h3, this.1], this.2⟩
/-- a place's name -/
def name (ph r a : Int) (t : Nat) (i : Int) : List Int := [112] ++ decI ph ++ [46, 114] ++ decI r ++ [46, 97] ++ decI a ++ [46, 116] ++ decN t ++ [46, 105] ++ decI i
theorem no_dot (v : Int) : (46 : Int) ∉ decI v := fun h => by have := decI_mem v 46 h; omega
theorem no_dotN (n : Nat) : (46 : Int) ∉ decN n := fun h => by have := decN_mem n 46 h; omega
theorem name_inj {ph r a i ph' r' a' i' : Int} {t t' : Nat} (h : name ph r a t i = name ph' r' a' t' i') : ph = ph' ∧ r = r' ∧ a = a' ∧ t = t' ∧ i = i' := by
  simp only [name, List.append_assoc, List.cons_append, List.nil_append] at h
  injection h with _ h
  obtain ⟨h1, h⟩ := cut_inj (no_dot ph) (no_dot ph') h
  injection h with _ h
  obtain ⟨h2, h⟩ := cut_inj (no_dot r) (no_dot r') h
  injection h with _ h
  obtain ⟨h3, h⟩ := cut_inj (no_dot a) (no_dot a') h
  injection h with _ h
  obtain ⟨h4, h⟩ := cut_inj (no_dotN t) (no_dotN t') h
  injection h with _ h5
  exact ⟨decI_inj h1, decI_inj h2, decI_inj h3, decN_inj h4, decI_inj h5⟩
theorem name_mem (ph r a : Int) (t : Nat) (i : Int) : Bs (name ph r a t i) := fun z hz => by
  have hI := fun v (h : z ∈ decI v) => decI_mem v z h
  have hN := fun n (h : z ∈ decN n) => decN_mem n z h
  simp only [name, List.mem_append, List.mem_cons, List.not_mem_nil, or_false] at hz
  rcases hz with (((((((((h | h) | (h | h)) | h) | (h | h)) | h) | (h | h)) | h) | (h | h)) | h) <;> first | omega | (have := hI _ h; omega) | (have := hN _ h; omega)
/-- numbers, eight bytes each -/
def eights (vs : List Int) : List Int := vs.flatMap fun v => digits v 8
theorem eights_length : ∀ vs : List Int, (eights vs).length = 8 * vs.length
  | [] => rfl
  | v :: vs => by
    have := eights_length vs
    simp only [eights, List.flatMap_cons, List.length_append, digits_length, List.length_cons] at this ⊢
    omega
theorem eights_bytes (vs : List Int) : Bs (eights vs) := fun z hz => by
  obtain ⟨v, _, h⟩ := List.mem_flatMap.1 hz
  exact digits_bytes 8 v z h
theorem digits_inj {a b : Int} {k : Nat} (h : digits a k = digits b k) : a % 256 ^ k = b % 256 ^ k := by rw [← val_digits, h, val_digits]
theorem eights_inj : ∀ {us vs : List Int}, us.length = vs.length → eights us = eights vs → us.map (· % 2 ^ 64) = vs.map (· % 2 ^ 64)
  | [], [], _, _ => rfl
  | [], _ :: _, h, _ => by cases h
  | _ :: _, [], h, _ => by cases h
  | u :: us, v :: vs, hl, h => by
    simp only [eights, List.flatMap_cons] at h
    obtain ⟨h1, h2⟩ := List.append_inj h (by rw [digits_length, digits_length])
    have h3 := digits_inj h1
    rw [show (256 : Int) ^ 8 = 2 ^ 64 by decide] at h3
    rw [List.map_cons, List.map_cons, h3, eights_inj (by simpa using hl) h2]
/-- a nonce -/
def nonce (a i : Int) : List Int := digits a 8 ++ digits i 4
theorem nonce_length (a i : Int) : (nonce a i).length = 12 := by simp [nonce, digits_length]
theorem nonce_bytes (a i : Int) : Bs (nonce a i) := fun z hz => by
  rcases List.mem_append.1 hz with h | h
  · exact digits_bytes _ _ z h
  · exact digits_bytes _ _ z h
theorem nonce_inj {a b i k : Int} (h : nonce a i = nonce b k) : a % 2 ^ 64 = b % 2 ^ 64 ∧ i % 2 ^ 32 = k % 2 ^ 32 := by
  obtain ⟨h1, h2⟩ := List.append_inj h (by rw [digits_length, digits_length])
  have h3 := digits_inj h1
  have h4 := digits_inj h2
  rw [show (256 : Int) ^ 8 = 2 ^ 64 by decide] at h3
  rw [show (256 : Int) ^ 4 = 2 ^ 32 by decide] at h4
  exact ⟨h3, h4⟩
end Go.Proofs.YtoelgcdjhekafaaDoor.Ky
