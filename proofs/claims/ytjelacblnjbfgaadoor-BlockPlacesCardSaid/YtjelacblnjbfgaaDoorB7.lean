/-
  Numbers in limbs of 26 bits, and how they are multiplied modulo 2^130 - 5: no program here.
  Pieces, the tag's bytes, and what loops leave behind them: no program here.
  A table of numbers of any kind at a package-level variable's block; an array out of a slice, and out of the middle of a block: no program here.
  Within a fence: a store of one number into a block that is known whole, a built array, a copy, a whole array's address out of a slice, the new world a letter: no program here.
  Structs and arrays as wholes, within a region that draws its order and outside it: the address of a field, a whole value read, built, boxed, stored: no program here.
  Plain facts about the bits of unsigned numbers: no program here.
  The functions of package ct, each by its contract: what it returns for any numbers.
  Texts within a drawn region, and small lists of numbers as rows of their own: no program here.
  More operations of a drawn region, one by one: make, append with new room, texts that are not alike; dominohelp.Bytes of like texts.
  Names, and numbers as bytes, of package keys, as plain functions: no program here.
-/
import Derived.Test.YtjelacblnjbfgaaDoorB6
import Derived.Test.YtjelacblnjbfgaaDoorB5
import Derived.Lib.EndianBits
import Derived.Laws.StructEq
import Derived.Laws.ResultCell
import Derived.WalkKit
import Derived.Test.YtjelacblnjbfgaaDoorRows
import Derived.ProofKit
import Derived.OpenShut
import Derived.Lib.Hide
import Derived.Test.YtjelacblnjbfgaaDoorB2
import Derived.Deep.OwnRows
set_option linter.unusedVariables false
namespace Go.Proofs.YtjelacblnjbfgaaDoor.Po
open Go.Proofs.YtjelacblnjbfgaaDoor.Sum
def lv : List Int → Int
  | [] => 0
  | x :: xs => x + 67108864 * lv xs
def limbs (n : Int) : List Int := [n % 67108864, n / 67108864 % 67108864, n / 4503599627370496 % 67108864, n / 302231454903657293676544 % 67108864, n / 20282409603651670423947251286016 % 67108864]
theorem lv_limbs {n : Int} (h : 0 ≤ n) (h' : n < 2 ^ 130) : lv (limbs n) = n := by
  unfold limbs
  simp only [lv]
  omega
theorem limbs_bound (n : Int) : ∀ x ∈ limbs n, 0 ≤ x ∧ x < 67108864 := by
  intro x hx
  simp only [limbs, List.mem_cons, List.not_mem_nil, or_false] at hx
  omega
theorem limbs_length (n : Int) : (limbs n).length = 5 := rfl
theorem limb_of {p : List Int} (h : Bs p) (hl : p.length = 17) {i : Nat} (hi : i < 5) : val ((p.drop (3 * i)).take 5) / 2 ^ (2 * i) % 67108864 = (limbs (val p)).getD i 0 := by
  have e1 : p.take (3 * i) ++ p.drop (3 * i) = p := List.take_append_drop _ _
  have e2 : (p.drop (3 * i)).take 5 ++ (p.drop (3 * i)).drop 5 = p.drop (3 * i) := List.take_append_drop _ _
  have v1 := val_append (p.take (3 * i)) (p.drop (3 * i))
  have v2 := val_append ((p.drop (3 * i)).take 5) ((p.drop (3 * i)).drop 5)
  have l1 : (p.take (3 * i)).length = 3 * i := by simp; omega
  have l2 : ((p.drop (3 * i)).take 5).length = 5 := by simp; omega
  have b1 := val_lt (xs := p.take (3 * i)) fun z hz => h z (List.mem_of_mem_take hz)
  have b0 := val_nonneg (xs := p.take (3 * i)) fun z hz => (h z (List.mem_of_mem_take hz)).1
  rw [e1, l1] at v1
  rw [e2, l2] at v2
  rw [l1] at b1
  generalize val (p.take (3 * i)) = A at *
  generalize val ((p.drop (3 * i)).drop 5) = B at *
  generalize val ((p.drop (3 * i)).take 5) = F at *
  rw [v1, v2]
  clear v1 v2 e1 e2 l1 l2
  rcases (show i = 0 ∨ i = 1 ∨ i = 2 ∨ i = 3 ∨ i = 4 by omega) with rfl | rfl | rfl | rfl | rfl <;>
    simp only [limbs, List.getD_cons_zero, List.getD_cons_succ, Nat.reduceMul] at b1 ⊢ <;> omega
theorem val_take_succ (s : List Int) {j : Nat} (h : j < s.length) : val (s.take (j + 1)) = val (s.take j) + s.getD j 0 * 256 ^ j := by
  have e : s.take (j + 1) = s.take j ++ [s.getD j 0] := by
    rw [List.take_succ_eq_append_getElem h, List.getD_eq_getElem?_getD, List.getElem?_eq_getElem h]
    rfl
  rw [e, val_append]
  simp only [val, List.length_take, Nat.min_eq_left (Nat.le_of_lt h)]
  rw [Int.mul_zero, Int.add_zero, Int.mul_comm]
theorem val_zeros : ∀ k : Nat, val (List.replicate k 0) = 0
  | 0 => rfl
  | k + 1 => by rw [List.replicate_succ, val, val_zeros k]; rfl
theorem digits_mod : ∀ (k : Nat) {n m : Int}, n % 256 ^ k = m % 256 ^ k → digits n k = digits m k
  | 0, _, _, _ => rfl
  | k + 1, n, m, h => by
    have hN : (0 : Int) < 256 ^ k := Int.pow_pos (by omega)
    rw [Int.pow_succ, Int.mul_comm (256 ^ k) 256] at h
    have e : ∀ x : Int, x % (256 * 256 ^ k) = x % 256 + 256 * (x / 256 % 256 ^ k) := fun x => by
      generalize (256 : Int) ^ k = N at hN
      have h1 := Int.emod_nonneg (x / 256) (show N ≠ 0 by omega)
      have h2 := Int.emod_lt_of_pos (x / 256) hN
      have h3 := Int.mul_ediv_add_emod (x / 256) N
      have h4 : x = (x % 256 + 256 * (x / 256 % N)) + 256 * N * (x / 256 / N) := by
        rw [Int.mul_assoc]
        omega
      conv => lhs; rw [h4]
      rw [Int.add_mul_emod_self_left]
      exact Int.emod_eq_of_lt (by omega) (by omega)
    rw [e n, e m] at h
    have h1 : n % 256 = m % 256 := by omega
    have h2 : n / 256 % 256 ^ k = m / 256 % 256 ^ k := by omega
    rw [digits, digits, h1, digits_mod k h2]
def addL (a b : List Int) : List Int := List.zipWith (· + ·) a b
theorem lv_addL : ∀ {a b : List Int}, a.length = b.length → lv (addL a b) = lv a + lv b
  | [], [], _ => rfl
  | x :: xs, y :: ys, h => by
    have := lv_addL (a := xs) (b := ys) (by simpa using h)
    simp only [addL, List.zipWith_cons_cons, lv] at this ⊢
    rw [this]
    omega
theorem five {a : List Int} (h : a.length = 5) : ∃ a0 a1 a2 a3 a4, a = [a0, a1, a2, a3, a4] := by
  match a, h with
  | [a0, a1, a2, a3, a4], _ => exact ⟨a0, a1, a2, a3, a4, rfl⟩
def factors (r : List Int) : List Int := r.map (5 * ·) ++ r
def psum (a f : List Int) : Nat → Nat → Int
  | 0, _ => 0
  | i + 1, j => psum a f i j + a.getD i 0 * f.getD (5 - i + j) 0
def mulL (a r : List Int) : List Int := (List.range 5).map (psum a (factors r) 5)
theorem mulL_mod {a r : List Int} (ha : a.length = 5) (hr : r.length = 5) : lv (mulL a r) % modulus = lv a * lv r % modulus := by
  obtain ⟨a0, a1, a2, a3, a4, rfl⟩ := five ha
  obtain ⟨r0, r1, r2, r3, r4, rfl⟩ := five hr
  have e : lv [a0, a1, a2, a3, a4] * lv [r0, r1, r2, r3, r4] = lv (mulL [a0, a1, a2, a3, a4] [r0, r1, r2, r3, r4]) + modulus * ((a1*r4+a2*r3+a3*r2+a4*r1) + 67108864*((a2*r4+a3*r3+a4*r2) + 67108864*((a3*r4+a4*r3) + 67108864*(a4*r4)))) := by
    simp [lv, mulL, factors, psum, modulus, List.range, List.range.loop]
    grind
  rw [e, Int.add_mul_emod_self_left]
theorem psum_bound {a f : List Int} (ha : ∀ x ∈ a, 0 ≤ x ∧ x < 268435456) (hf : ∀ x ∈ f, 0 ≤ x ∧ x < 536870912) : ∀ (i j : Nat), 0 ≤ psum a f i j ∧ psum a f i j ≤ i * 144115188075855872
  | 0, j => by simp [psum]
  | i + 1, j => by
    have ih := psum_bound ha hf i j
    have g : ∀ {l : List Int} {B : Int} (k : Nat), 0 < B → (∀ x ∈ l, 0 ≤ x ∧ x < B) → 0 ≤ l.getD k 0 ∧ l.getD k 0 < B := fun {l B} k hB hl => by
      rw [List.getD_eq_getElem?_getD]
      by_cases hk : k < l.length
      · rw [List.getElem?_eq_getElem hk]; exact hl _ (List.getElem_mem hk)
      · rw [List.getElem?_eq_none (by omega)]; simpa using hB
    have h1 := g i (by omega) ha
    have h2 := g (5 - i + j) (by omega) hf
    rw [psum]
    generalize a.getD i 0 = x at h1
    generalize f.getD (5 - i + j) 0 = y at h2
    have m1 : 0 ≤ x * y := Int.mul_nonneg h1.1 h2.1
    have m2 : x * y ≤ 268435456 * 536870912 := Int.mul_le_mul (by omega) (by omega) h2.1 (by omega)
    omega
theorem factors_length {r : List Int} (h : r.length = 5) : (factors r).length = 10 := by simp [factors, h]
theorem factors_bound {r : List Int} (h : ∀ x ∈ r, 0 ≤ x ∧ x < 67108864) : ∀ x ∈ factors r, 0 ≤ x ∧ x < 536870912 := by
  intro x hx
  rcases List.mem_append.1 hx with hx | hx
  · obtain ⟨y, hy, rfl⟩ := List.mem_map.1 hx
    have := h y hy
    omega
  · have := h x hx
    omega
def carL (c : Int) : List Int → List Int
  | [] => []
  | x :: xs => (x + c) % 67108864 :: carL ((x + c) / 67108864) xs
def over (c : Int) (xs : List Int) : Nat → Int
  | 0 => c
  | k + 1 => (xs.getD k 0 + over c xs k) / 67108864
theorem over_cons (c x : Int) (xs : List Int) : ∀ k, over c (x :: xs) (k + 1) = over ((x + c) / 67108864) xs k
  | 0 => rfl
  | k + 1 => by rw [over, over_cons c x xs k, List.getD_cons_succ, over]
theorem carL_length : ∀ (c : Int) (xs : List Int), (carL c xs).length = xs.length
  | _, [] => rfl
  | c, x :: xs => by rw [carL, List.length_cons, List.length_cons, carL_length]
theorem carL_get : ∀ (c : Int) (xs : List Int) (k : Nat), k < xs.length → (carL c xs).getD k 0 = (xs.getD k 0 + over c xs k) % 67108864
  | _, [], _, h => by simp at h
  | c, x :: xs, 0, _ => rfl
  | c, x :: xs, k + 1, h => by rw [carL, List.getD_cons_succ, List.getD_cons_succ, over_cons, carL_get _ xs k (by simpa using h)]
theorem lv_carL : ∀ (c : Int) (xs : List Int), lv (carL c xs) + 67108864 ^ xs.length * over c xs xs.length = lv xs + c
  | c, [] => by simp [lv, carL, over]
  | c, x :: xs => by
    have := lv_carL ((x + c) / 67108864) xs
    rw [carL, lv, lv, List.length_cons, over_cons, Int.pow_succ, Int.mul_comm (67108864 ^ xs.length) 67108864, Int.mul_assoc]
    omega
def settle (n : List Int) : List Int :=
  let m := carL 0 n
  let t := m.getD 0 0 + 5 * over 0 n 5
  ((m.set 0 t).set 1 (m.getD 1 0 + t / 67108864)).set 0 (t % 67108864)
def Settled (a : List Int) : Prop := ∃ a0 a1 a2 a3 a4, a = [a0, a1, a2, a3, a4] ∧ (0 ≤ a0 ∧ a0 < 67108864) ∧ (0 ≤ a1 ∧ a1 < 67121152) ∧ (0 ≤ a2 ∧ a2 < 67108864) ∧ (0 ≤ a3 ∧ a3 < 67108864) ∧ (0 ≤ a4 ∧ a4 < 67108864)
theorem over_bound {n : List Int} (h : ∀ x ∈ n, 0 ≤ x ∧ x < 1152921504606846976) : ∀ k, 0 ≤ over 0 n k ∧ over 0 n k < 68719476736
  | 0 => by simp [over]
  | k + 1 => by
    have ih := over_bound h k
    have : 0 ≤ n.getD k 0 ∧ n.getD k 0 < 1152921504606846976 := by
      rw [List.getD_eq_getElem?_getD]
      by_cases hk : k < n.length
      · rw [List.getElem?_eq_getElem hk]; exact h _ (List.getElem_mem hk)
      · rw [List.getElem?_eq_none (by omega)]; simp
    rw [over]
    omega
theorem settle_settled {n : List Int} (hl : n.length = 5) (h : ∀ x ∈ n, 0 ≤ x ∧ x < 1152921504606846976) : Settled (settle n) := by
  have ho := over_bound h 5
  obtain ⟨a0, a1, a2, a3, a4, rfl⟩ := five hl
  generalize hO : over 0 [a0, a1, a2, a3, a4] 5 = O at ho
  simp only [settle, carL, hO, List.getD_cons_zero, List.getD_cons_succ, List.set_cons_zero, List.set_cons_succ]
  refine ⟨_, _, _, _, _, rfl, ?_, ?_, ?_, ?_, ?_⟩ <;> omega
theorem settle_mod {n : List Int} (hl : n.length = 5) : lv (settle n) % modulus = lv n % modulus := by
  have hc := lv_carL 0 n
  have hm := carL_length 0 n
  rw [hl] at hc hm
  obtain ⟨m0, m1, m2, m3, m4, hm⟩ := five hm
  rw [settle]
  simp only [hm] at hc ⊢
  generalize over 0 n 5 = O at hc ⊢
  have e : lv n = lv ((([m0, m1, m2, m3, m4].set 0 ([m0, m1, m2, m3, m4].getD 0 0 + 5 * O)).set 1 ([m0, m1, m2, m3, m4].getD 1 0 + ([m0, m1, m2, m3, m4].getD 0 0 + 5 * O) / 67108864)).set 0 (([m0, m1, m2, m3, m4].getD 0 0 + 5 * O) % 67108864)) + modulus * O := by
    simp only [lv, List.getD_cons_zero, List.getD_cons_succ, List.set_cons_zero, List.set_cons_succ, modulus] at hc ⊢
    omega
  rw [e, Int.add_mul_emod_self_left]
theorem Settled.length {a : List Int} (h : Settled a) : a.length = 5 := by
  obtain ⟨_, _, _, _, _, rfl, _⟩ := h
  rfl
theorem Settled.bound {a : List Int} (h : Settled a) : ∀ x ∈ a, 0 ≤ x ∧ x < 134217728 := by
  obtain ⟨a0, a1, a2, a3, a4, rfl, h⟩ := h
  intro x hx
  simp only [List.mem_cons, List.not_mem_nil, or_false] at hx
  omega
theorem over_eq {a : List Int} (h : Settled a) : over 5 a 5 = (lv a + 5) / 2 ^ 130 := by
  obtain ⟨a0, a1, a2, a3, a4, rfl, h⟩ := h
  simp only [over, lv, List.getD_cons_zero, List.getD_cons_succ]
  omega
def reduce (a : List Int) : List Int := a.set 0 (a.getD 0 0 + 5 * over 5 a 5)
theorem reduce_mod {a : List Int} (h : Settled a) : lv (reduce a) % 2 ^ 128 = (lv a % modulus) % 2 ^ 128 := by
  have ho := over_eq h
  obtain ⟨a0, a1, a2, a3, a4, rfl, h⟩ := h
  rw [reduce]
  generalize over 5 [a0, a1, a2, a3, a4] 5 = O at ho ⊢
  simp only [lv, modulus, List.getD_cons_zero, List.set_cons_zero] at ho ⊢
  have hO : O = 0 ∨ O = 1 := by omega
  generalize hV : a0 + 67108864 * (a1 + 67108864 * (a2 + 67108864 * (a3 + 67108864 * (a4 + 67108864 * 0)))) = V at ho ⊢
  rw [show a0 + 5 * O + 67108864 * (a1 + 67108864 * (a2 + 67108864 * (a3 + 67108864 * (a4 + 67108864 * 0)))) = V + 5 * O by omega]
  have hV2 : 0 ≤ V ∧ V < 2 * (2 ^ 130 - 5) := by omega
  rcases hO with rfl | rfl
  · rw [show V % (2 ^ 130 - 5) = V by omega]
    omega
  · rw [show V % (2 ^ 130 - 5) = V - (2 ^ 130 - 5) by omega]
    omega
end Go.Proofs.YtjelacblnjbfgaaDoor.Po
namespace Go.Proofs.YtjelacblnjbfgaaDoor.Po
open Go.Proofs.YtjelacblnjbfgaaDoor.Sum
def blend (F a : List Int) (i : Nat) : List Int := F.take i ++ a.drop i
theorem blend_zero (F a : List Int) : blend F a 0 = a := by simp [blend]
theorem blend_all {F a : List Int} (h : F.length = a.length) : blend F a a.length = F := by rw [blend, ← h, List.take_length, h, List.drop_length, List.append_nil]
theorem blend_length {F a : List Int} (h : F.length = a.length) (i : Nat) : (blend F a i).length = a.length := by simp [blend]; omega
theorem blend_get {F a : List Int} (h : F.length = a.length) {i : Nat} (hi : i < a.length) : (blend F a i).getD i 0 = a.getD i 0 := by
  have e : (F.take i).length = i := by simp; omega
  rw [blend, List.getD_eq_getElem?_getD, List.getElem?_append_right (by omega), e, List.getElem?_drop, List.getD_eq_getElem?_getD]
  congr 2
  omega
theorem blend_set {F a : List Int} (h : F.length = a.length) {i : Nat} (hi : i < a.length) : (blend F a i).set i (F.getD i 0) = blend F a (i + 1) := by
  have e : (F.take i).length = i := by simp; omega
  rw [blend, blend, List.set_append_right _ _ (by omega), e, Nat.sub_self, List.take_succ_eq_append_getElem (by omega), List.append_assoc]
  congr 1
  rw [List.drop_eq_getElem_cons hi, List.set_cons_zero]
  simp [List.getD_eq_getElem?_getD, show i < F.length by omega]
theorem getD_range {l : List Int} {P : Int → Prop} (h : ∀ x ∈ l, P x) (h0 : P 0) (i : Nat) : P (l.getD i 0) := by
  rw [List.getD_eq_getElem?_getD]
  by_cases hi : i < l.length
  · rw [List.getElem?_eq_getElem hi]; exact h _ (List.getElem_mem hi)
  · rw [List.getElem?_eq_none (by omega)]; exact h0
def mix (a f : List Int) (i j : Nat) : List Int := (List.range 5).map fun k => if k < j then psum a f (i + 1) k else psum a f i k
theorem mix_start (a f : List Int) : mix a f 0 0 = [0, 0, 0, 0, 0] := by simp [mix, psum, List.range, List.range.loop]
theorem mix_length (a f : List Int) (i j : Nat) : (mix a f i j).length = 5 := by simp [mix]
theorem mix_next (a f : List Int) (i : Nat) : mix a f i 5 = mix a f (i + 1) 0 := by simp [mix, List.range, List.range.loop]
theorem mix_end (a r : List Int) : mix a (factors r) 5 0 = mulL a r := by simp [mix, mulL]
theorem mix_get (a f : List Int) (i : Nat) {j : Nat} (h : j < 5) : (mix a f i j).getD j 0 = psum a f i j := by simp [mix, List.getD_eq_getElem?_getD, h]
theorem mix_set (a f : List Int) (i : Nat) {j : Nat} (h : j < 5) : (mix a f i j).set j (psum a f i j + a.getD i 0 * f.getD (5 - i + j) 0) = mix a f i (j + 1) := by
  rcases (show j = 0 ∨ j = 1 ∨ j = 2 ∨ j = 3 ∨ j = 4 by omega) with rfl | rfl | rfl | rfl | rfl <;> simp [mix, psum, List.range, List.range.loop]
theorem mulL_length (a r : List Int) : (mulL a r).length = 5 := by simp [mulL]
theorem mulL_bound {a r : List Int} (ha : ∀ x ∈ a, 0 ≤ x ∧ x < 268435456) (hr : ∀ x ∈ r, 0 ≤ x ∧ x < 67108864) : ∀ x ∈ mulL a r, 0 ≤ x ∧ x < 1152921504606846976 := by
  intro x hx
  obtain ⟨j, _, rfl⟩ := List.mem_map.1 hx
  have := psum_bound ha (factors_bound hr) 5 j
  omega
def Low (n : List Int) (i b h : Nat) (rest : Int) : Prop := 26 * i = 8 * b + h ∧ lv n / 256 ^ b = rest + 2 ^ h * lv (n.drop i) ∧ 0 ≤ rest ∧ rest < 2 ^ (h + 3)
theorem Low.start (n : List Int) : Low n 0 0 0 0 := ⟨rfl, by simp, by omega, by decide⟩
theorem lv_drop (n : List Int) {i : Nat} (h : i < n.length) : lv (n.drop i) = n.getD i 0 + 67108864 * lv (n.drop (i + 1)) := by
  rw [List.drop_eq_getElem_cons h, lv, List.getD_eq_getElem?_getD, List.getElem?_eq_getElem h]
  rfl
theorem Low.limb {n : List Int} {i b h : Nat} {rest : Int} (k : Low n i b h rest) (hi : i < n.length) (hb : 0 ≤ n.getD i 0 ∧ n.getD i 0 < 268435456) : Low n (i + 1) b (h + 26) (rest + n.getD i 0 * 2 ^ h) := by
  obtain ⟨h1, h2, h3, h4⟩ := k
  rw [lv_drop n hi] at h2
  generalize n.getD i 0 = x at *
  have hp : (0 : Int) < 2 ^ h := Int.pow_pos (by omega)
  have e1 : (2 : Int) ^ (h + 26) = 2 ^ h * 67108864 := by rw [Int.pow_add]; rfl
  have e2 : (2 : Int) ^ (h + 26 + 3) = 2 ^ h * 536870912 := by rw [Nat.add_assoc, Int.pow_add]; rfl
  have e3 : (2 : Int) ^ (h + 3) = 2 ^ h * 8 := by rw [Int.pow_add]; rfl
  refine ⟨by omega, ?_, ?_, ?_⟩
  · rw [h2, e1, Int.mul_add, ← Int.mul_assoc, Int.mul_comm x, Int.add_assoc]
  · exact Int.add_nonneg h3 (Int.mul_nonneg hb.1 (by omega))
  · have : x * 2 ^ h ≤ 268435455 * 2 ^ h := Int.mul_le_mul_of_nonneg_right (by omega) (by omega)
    rw [e2]
    rw [e3] at h4
    generalize (2 : Int) ^ h = p at *
    omega
theorem Low.byte {n : List Int} {i b h : Nat} {rest : Int} (k : Low n i b h rest) (hh : 8 ≤ h) : Low n i (b + 1) (h - 8) (rest / 256) ∧ rest % 256 = lv n / 256 ^ b % 256 := by
  obtain ⟨h1, h2, h3, h4⟩ := k
  obtain ⟨h, rfl⟩ : ∃ q, h = q + 8 := ⟨h - 8, by omega⟩
  have e1 : (2 : Int) ^ (h + 8) = 256 * 2 ^ h := by rw [Int.pow_add, Int.mul_comm]; rfl
  have e2 : (2 : Int) ^ (h + 8 + 3) = 256 * 2 ^ (h + 3) := by rw [show h + 8 + 3 = h + 3 + 8 by omega, Int.pow_add, Int.mul_comm]; rfl
  rw [e1, Int.mul_assoc] at h2
  rw [e2] at h4
  rw [Nat.add_sub_cancel]
  refine ⟨⟨by omega, ?_, by omega, by omega⟩, by omega⟩
  rw [Int.pow_succ, ← Int.ediv_ediv_of_nonneg (Int.le_of_lt (Int.pow_pos (by omega) : (0 : Int) < 256 ^ b)), h2]
  omega
def chunk (m : List Int) (k : Nat) : List Int := (m.drop (16 * k)).take 16
def pieceAt (m : List Int) (k : Nat) : List Int := chunk m k ++ 1 :: List.replicate (16 - (chunk m k).length) 0
def pieces (m : List Int) : List (List Int) := (List.range (count m)).map (pieceAt m)
theorem chunk_length (m : List Int) (k : Nat) : (chunk m k).length = min 16 (m.length - 16 * k) := by simp [chunk]
theorem pieceAt_length (m : List Int) (k : Nat) : (pieceAt m k).length = 17 := by
  have := chunk_length m k
  simp [pieceAt]
  omega
theorem pieces_length (m : List Int) : (pieces m).length = count m := by simp [pieces]
theorem pieces_take (m : List Int) {k : Nat} (h : k < count m) : (pieces m).take k ++ [pieceAt m k] = (pieces m).take (k + 1) := by
  rw [List.take_succ_eq_append_getElem (by rw [pieces_length]; exact h)]
  simp [pieces]
theorem val_pieceAt (m : List Int) (k : Nat) : val (pieceAt m k) = val (chunk m k ++ [1]) := by
  have e : pieceAt m k = (chunk m k ++ [1]) ++ List.replicate (16 - (chunk m k).length) 0 := by simp [pieceAt]
  rw [e, val_append, val_zeros, Int.mul_zero, Int.add_zero]
theorem chunk_bytes {m : List Int} (h : Bs m) (k : Nat) : Bs (chunk m k) := fun z hz => h z (List.mem_of_mem_drop (List.mem_of_mem_take hz))
theorem pieceAt_bytes {m : List Int} (h : Bs m) (k : Nat) : Bs (pieceAt m k) := fun z hz => by
  rcases List.mem_append.1 hz with h1 | h1
  · exact chunk_bytes h k z h1
  · rcases List.mem_cons.1 h1 with rfl | h1
    · omega
    · rw [List.eq_of_mem_replicate h1]; omega
theorem val_chunk_lt {m : List Int} (h : Bs m) (k : Nat) : 0 ≤ val (chunk m k ++ [1]) ∧ val (chunk m k ++ [1]) < 2 ^ 129 := by
  have h1 := val_lt (chunk_bytes h k)
  have h0 := val_nonneg (xs := chunk m k) fun z hz => (chunk_bytes h k z hz).1
  have hl : (chunk m k).length ≤ 16 := by rw [chunk_length]; omega
  rw [val_append]
  have e : (256 : Int) ^ (chunk m k).length ≤ 256 ^ 16 := by
    obtain ⟨d, hd⟩ : ∃ d, 16 = (chunk m k).length + d := ⟨16 - (chunk m k).length, by omega⟩
    rw [hd, Int.pow_add]
    have h1 : (0 : Int) < 256 ^ (chunk m k).length := Int.pow_pos (by omega)
    have h2 : (0 : Int) < 256 ^ d := Int.pow_pos (by omega)
    have := Int.mul_le_mul_of_nonneg_left (show (1 : Int) ≤ 256 ^ d by omega) (Int.le_of_lt h1)
    rwa [Int.mul_one] at this
  simp only [val]
  generalize (256 : Int) ^ (chunk m k).length = N at *
  omega
def cur (m : List Int) (p : Nat) : List Int := (m.drop (16 * (p / 16))).take (p % 16) ++ List.replicate (17 - p % 16) 0
theorem cur_length {m : List Int} {p : Nat} (h : p ≤ m.length) : (cur m p).length = 17 := by simp [cur]; omega
theorem cur_start (m : List Int) {p : Nat} (h : p % 16 = 0) : cur m p = List.replicate 17 0 := by simp [cur, h]
theorem cur_last {m : List Int} (h : m.length % 16 ≠ 0) : (cur m m.length).set (m.length % 16) 1 = pieceAt m (m.length / 16) := by
  have hd := Nat.div_add_mod m.length 16
  have hlt : m.length % 16 < 16 := Nat.mod_lt _ (by omega)
  have e1 : (m.drop (16 * (m.length / 16))).take (m.length % 16) = m.drop (16 * (m.length / 16)) := List.take_of_length_le (by simp; omega)
  have e2 : chunk m (m.length / 16) = m.drop (16 * (m.length / 16)) := List.take_of_length_le (by simp; omega)
  have e3 : (m.drop (16 * (m.length / 16))).length = m.length % 16 := by simp; omega
  rw [cur, pieceAt, e1, e2, List.set_append_right _ _ (by omega), e3, Nat.sub_self, show 17 - m.length % 16 = (16 - m.length % 16) + 1 by omega, List.replicate_succ, List.set_cons_zero]
theorem cur_step {m : List Int} {p n k : Nat} (hk : k = min n (16 - p % 16)) (hn : p + n ≤ m.length) :
    (cur m p).take (p % 16) ++ (((m.drop p).take n).take k ++ (cur m p).drop (p % 16 + k)) = if p % 16 + k = 16 then chunk m (p / 16) ++ [0] else cur m (p + k) := by
  have hlt : p % 16 < 16 := Nat.mod_lt _ (by omega)
  have e1 : (cur m p).take (p % 16) = (m.drop (16 * (p / 16))).take (p % 16) := by
    rw [cur, List.take_append_of_le_length (by simp; omega), List.take_of_length_le (by simp; omega)]
  have e2 : (cur m p).drop (p % 16 + k) = List.replicate (17 - (p % 16 + k)) 0 := by
    rw [cur, List.drop_append, List.drop_of_length_le (by simp; omega), List.nil_append, List.drop_replicate]
    congr 1
    simp
    omega
  have e3 : ((m.drop (16 * (p / 16))).take (p % 16)) ++ ((m.drop p).take n).take k = (m.drop (16 * (p / 16))).take (p % 16 + k) := by
    rw [List.take_take, Nat.min_eq_left (by omega), List.take_add, List.drop_drop]
    congr 3
    omega
  rw [e1, e2, ← List.append_assoc, e3]
  split
  · rename_i h
    rw [h, chunk]
    rfl
  · rw [cur, show (p + k) / 16 = p / 16 by omega, show (p + k) % 16 = p % 16 + k by omega]
theorem pieceAt_full {m : List Int} {k : Nat} (h : 16 * (k + 1) ≤ m.length) : (chunk m k ++ [0]).set 16 1 = pieceAt m k := by
  have hl : (chunk m k).length = 16 := by rw [chunk_length]; omega
  rw [pieceAt, List.set_append_right _ _ (by omega), hl]
  rfl
theorem step_eq (r : Int) (m : List Int) (k : Nat) : acc r m (k + 1) = (acc r m k + val (pieceAt m k)) * r % modulus := by rw [val_pieceAt]; rfl
end Go.Proofs.YtjelacblnjbfgaaDoor.Po
namespace Go.Proofs.YtjelacblnjbfgaaDoor.Po
open Go.RowKit Mem Go.Proofs.YtjelacblnjbfgaaDoor.Sum
def TabK (w : World) (g : Nat) (k : IntKind) (zs : List Int) : Prop := ∃ t fr, w.heap[g]? = some (.cells (arr k zs) t fr)
section
variable {w w' : World} {g : Nat} {k : IntKind} {zs : List Int}
theorem TabK.lt (h : TabK w g k zs) : g < w.heap.size := by obtain ⟨t, fr, h⟩ := h; exact (Array.getElem?_eq_some_iff.1 h).1
theorem TabK.below {B : Nat} (h : TabK w g k zs) (hb : Below B w w') (hg : g < B) : TabK w' g k zs := by obtain ⟨t, fr, h⟩ := h; exact ⟨t, fr, (hb.block g hg).trans h⟩
theorem TabK.cell (h : TabK w g k zs) {i : Nat} (hi : i < zs.length) : w.cell? ⟨g, i, none⟩ = some (.int k (zs.getD i 0)) := by
  obtain ⟨t, fr, h⟩ := h
  rw [cell_of_row w g i _ t fr h, arr_get _ _ hi]
theorem TabK.only {S : Nat → Prop} (h : TabK w g k zs) (ho : Only S w w') (hg : ¬ S g) : TabK w' g k zs := by
  obtain ⟨t, fr, h⟩ := h
  exact ⟨t, fr, ho.block g _ hg h rfl⟩
end
theorem tabK_of_var {P : Program} {w : World} {name : String} {g : Nat} {k : IntKind} {zs : List Int} (hg : P.globalNamed name = some g) (h : Lib.TabIs P w name k zs) : TabK w g k zs := by
  unfold Lib.TabIs World.var? at h
  rw [hg, Option.bind_some] at h
  cases hb : w.heap[g]? with
  | none => rw [hb] at h; cases h
  | some o =>
    rw [hb] at h
    cases o with
    | cells cs t fr => simp only [Option.some.injEq] at h; exact ⟨t, fr, by rw [hb, h]; rfl⟩
    | _ => cases h
section
variable {P : Program} {ops : Array Oper} {rest : List Oper} {o : Oper} {a : Act} {w : World} {Q : Exit → Act → World → Prop}
theorem wpList_arrayAt (hgd : o.guard = none) (ty : TypeId) (x : Operand) (ho : o.op = .sliceToArrayPointer ty x) (A : Option Addr) (len cap n : Nat) (e : TypeId) (hx : a.eval x = .slice A len cap) (hu : P.underlying ty = some (.array n e)) (hn : n ≤ len)
    (h : wpList P ops Q rest (a.put o.dst (.pointer A)) w) : wpList P ops Q (o :: rest) a w := by
  refine wpList_plain hgd fun K hK => ?_
  have hl : ¬ len < n := by omega
  unfold Oper.wp execOp
  simp only [ho, hx, Instr.arrayAt, Sem.run_bind, run_underlying hu, Result.andThen_ok, hl, if_false, Sem.run_pure]
  exact hK _ _ h
theorem rangeAt_row {g : Nat} {t : TypeId} {k : IntKind} {zs : List Int} (hr : Row w g t k zs) (off n : Nat) : w.rangeAt g off (((zs.drop off).take n).map (Value.int k)) := fun j v hv => by
  have hj := (List.getElem?_eq_some_iff.1 hv).1
  simp only [List.length_map, List.length_take, List.length_drop] at hj
  rw [hr.cell (by omega), ← hv]
  simp [List.getD_eq_getElem?_getD, show j < n by omega, show off + j < zs.length by omega]
theorem wpList_load_midRow (hgd : o.guard = none) (ty : TypeId) (x : Operand) (ho : o.op = .load ty x) (g off : Nat) (hx : a.eval x = .pointer (some ⟨g, off, none⟩)) (t : TypeId) (k : IntKind) (zs : List Int) (hr : Row w g t k zs) (n : Nat) (e : TypeId)
    (hu : P.underlying ty = some (.array n e)) (hi : (P.info? ty).map (·.size) = some n) (hn : off + n ≤ zs.length) (h : wpList P ops Q rest (a.put o.dst (.agg (arr k ((zs.drop off).take n)))) w) : wpList P ops Q (o :: rest) a w := by
  refine wpList_load_mid hgd ty x ho g off hx (((zs.drop off).take n).map (Value.int k)) _ (rangeAt_row hr off n) hu rfl (by rw [hi]; simp; omega) ?_
  exact h
end
theorem mask_u64 (x : Int) (n : Nat) (hx : 0 ≤ x) (hx' : x < 18446744073709551616) (hn : n ≤ 63) : bits .and .u64 x (2 ^ n - 1) = x % 2 ^ n := by
  obtain ⟨a, rfl⟩ := Int.eq_ofNat_of_zero_le hx
  have hp : (2 : Nat) ^ n ≤ 2 ^ 63 := Nat.pow_le_pow_right (by omega) hn
  have h1 : 0 < 2 ^ n := Nat.pow_pos (by omega)
  have e : ((2 : Int) ^ n - 1) = ((2 ^ n - 1 : Nat) : Int) := by
    rw [Int.natCast_sub h1, Int.natCast_pow]
    rfl
  rw [e, u64_and _ _ hx hx' (by omega) (by omega), Int.toNat_natCast, Int.toNat_natCast, Nat.and_two_pow_sub_one_eq_mod, Int.natCast_emod, Int.natCast_pow]
  rfl
theorem mask_limb (x : Int) (hx : 0 ≤ x) (hx' : x < 18446744073709551616) : bits .and .u64 x 67108863 = x % 67108864 := mask_u64 x 26 hx hx' (by omega)
theorem and8 : ∀ x : Fin 256, bits .and .u8 (x.val : Int) 15 = x.val % 16 ∧ bits .and .u8 (x.val : Int) 252 = x.val / 4 * 4 ∧ bits .and .u8 (x.val : Int) 255 = x.val ∧ bits .and .u8 (x.val : Int) 127 = x.val % 128 := by decide +kernel
theorem and_byte {x : Int} (h : 0 ≤ x ∧ x ≤ 255) : bits .and .u8 x 15 = x % 16 ∧ bits .and .u8 x 252 = x / 4 * 4 ∧ bits .and .u8 x 255 = x ∧ bits .and .u8 x 127 = x % 128 := by
  have := and8 ⟨x.toNat, by omega⟩
  rwa [show ((x.toNat : Nat) : Int) = x by omega] at this
def keptI : List Int := [255, 255, 255, 15, 252, 255, 255, 15, 252, 255, 255, 15, 252, 255, 255, 15]
theorem kept_get : ∀ i : Fin 16, keptI.getD i.val 0 = if i.val % 4 = 3 then 15 else if i.val = 4 ∨ i.val = 8 ∨ i.val = 12 then 252 else 255 := by decide
theorem clamp_kept {key : List Int} (h : Bs key) {i : Nat} (hi : i < 16) : bits .and .u8 (key.getD i 0) (keptI.getD i 0) = (clamp key).getD i 0 := by
  have e : (clamp key).getD i 0 = clampAt key i := by simp [clamp, List.getD_eq_getElem?_getD, hi]
  have k := kept_get ⟨i, hi⟩
  simp only at k
  have a := and_byte (h.at_ i)
  rw [e, k, clampAt]
  split
  · exact a.1
  · split
    · exact a.2.1
    · exact a.2.2.1
theorem wf_byte {z : Int} (h : 0 ≤ z ∧ z ≤ 255) : (Lit.int .u8 z).wf = true := by simp [Lit.wf, IntKind.min, IntKind.max, IntKind.signed, IntKind.bits]; omega
theorem bs_wf {zs : List Int} (h : Bs zs) : ∀ z ∈ zs, (Lit.int .u8 z).wf = true := fun z hz => wf_byte (h z hz)
theorem wf_64 {z : Int} (h : 0 ≤ z ∧ z < 18446744073709551616) : (Lit.int .u64 z).wf = true := by simp [Lit.wf, IntKind.min, IntKind.max, IntKind.signed, IntKind.bits]; omega
theorem wf_32 {z : Int} (h : 0 ≤ z ∧ z < 4294967296) : (Lit.int .u32 z).wf = true := by simp [Lit.wf, IntKind.min, IntKind.max, IntKind.signed, IntKind.bits]; omega
end Go.Proofs.YtjelacblnjbfgaaDoor.Po
namespace Go.Proofs.YtjelacblnjbfgaaDoor.Mem
open Go.RowKit Go.Shelf Go.Proofs.YtjelacblnjbfgaaDoor.Range
section
variable {F : Fence} {n : Nat} {P : Program} {ops : Array Oper} {rest : List Oper} {o : Oper} {a : Act} {w : World} {Q : Exit → Act → World → Prop}
theorem wpListIn_store_elem (hw : Region.wanted o (yielded ops a.tmps) = true) (ty : TypeId) (x y : Operand) (ho : o.op = .store ty x y) (g i : Nat) (hx : a.eval x = .pointer (some ⟨g, i, none⟩)) (t : TypeId) (k : IntKind) (zs : List Int) (z : Int) (hy : a.eval y = .int k z)
    (hr : Row w g t k zs) (hi : i < zs.length) (hsz : (P.info? ty).map (·.size) = some 1) (hz : (Lit.int k z).wf = true)
    (h : ∀ w', Row w' g t k (zs.set i z) → w.grownBy w' (some g) → Hid (w'.heap.size = w.heap.size) → wpListIn F n P ops Q rest (a.put o.dst undef) w') : wpListIn F n P ops Q (o :: rest) a w := by
  refine wpListIn_step fun K hK => ?_
  rw [if_pos hw]
  unfold Oper.wpIn
  refine ⟨fun f hf => by simp [Oper.about, ho] at hf, ?_⟩
  rw [Oper.semAt_plain F _ _ (by rw [ho]; intro c hc'; cases hc')]
  unfold execOp
  simp only [ho, hx, hy, Instr.storeAt, Instr.sureAddr, Sem.run_bind, Sem.run_pure, Result.andThen_ok, run_store_elem ty g i _ (.int k z) (hr.cell hi) (hr.frozen i) hsz rfl rfl]
  exact hK _ _ (h _ (hr.set i hz) (grown_setCell _ _ _ _) (Lib.hid (by simp [World.setCell])))
theorem wpListIn_build_Row (hw : Region.wanted o (yielded ops a.tmps) = true) (t : TypeId) (parts : Array (Nat × Operand)) (ho : o.op = .build t parts) (k : IntKind) (zs : List Int)
    (hf : P.built t (parts.map fun (i, x) => (i, a.eval x)).toList = some (arr k zs)) (h : wpListIn F n P ops Q rest (a.put o.dst (.agg (arr k zs))) w) : wpListIn F n P ops Q (o :: rest) a w := by
  refine wpListIn_step fun K hK => ?_
  rw [if_pos hw]
  unfold Oper.wpIn
  refine ⟨fun f hf => by simp [Oper.about, ho] at hf, ?_⟩
  rw [Oper.semAt_plain F _ _ (by rw [ho]; intro c hc'; cases hc')]
  unfold execOp
  simp only [ho, Sem.run_bind, run_build w t _ _ hf, Result.andThen_ok]
  exact hK _ _ h
theorem wpListIn_copy_RowTo (hw : Region.wanted o (yielded ops a.tmps) = true) (d s : Operand) (dT sT : TypeId) (ho : o.op = .call { callee := .builtin .copy, args := #[d, s], argTypes := #[dT, sT] }) (e : TypeId) (hu : P.underlying dT = some (.slice e)) (hsz : (P.info? e).map (·.size) = some 1)
    (g off dLen dCap : Nat) (A : Option Addr) (sLen sCap : Nat) (hd : a.eval d = .slice (some ⟨g, off, none⟩) dLen dCap) (hs : a.eval s = .slice A sLen sCap)
    (t : TypeId) (k : IntKind) (cur xs : List Int) (hr : Row w g t k cur) (hx : 0 < sLen → ∃ b o2, A = some ⟨b, o2, none⟩ ∧ ∀ i, i < sLen → w.cell? ⟨b, o2 + i, none⟩ = some (.int k (xs.getD i 0))) (hxl : xs.length = sLen)
    (hxw : ∀ z ∈ xs, (Lit.int k z).wf = true) (m : Nat) (hm : m = min sLen dLen) (h0 : 0 < m) (hfit : off + m ≤ cur.length)
    (h : ∀ w', Row w' g t k (cur.take off ++ (xs.take m ++ cur.drop (off + m))) → w.grownBy w' (some g) → Hid (w'.heap.size = w.heap.size) → wpListIn F n P ops Q rest (a.put o.dst (.int .i64 (m : Int))) w') : wpListIn F n P ops Q (o :: rest) a w :=
  wpListIn_copy_Row hw d s dT sT ho e hu hsz g off dLen dCap A sLen sCap hd hs t k cur xs hr hx hxl m hm h0 hfit
    (h _ (hr.setRow fun z hz => by
      rcases List.mem_append.1 hz with h1 | h1
      · exact hr.1 z (List.mem_of_mem_take h1)
      · rcases List.mem_append.1 h1 with h1 | h1
        · exact hxw z (List.mem_of_mem_take h1)
        · exact hr.1 z (List.mem_of_mem_drop h1)) (grown_setRow _ _ _) (Lib.hid (by simp)))
theorem wpListIn_arrayAt (hw : Region.wanted o (yielded ops a.tmps) = true) (ty : TypeId) (x : Operand) (ho : o.op = .sliceToArrayPointer ty x) (A : Option Addr) (len cap m : Nat) (e : TypeId) (hx : a.eval x = .slice A len cap) (hu : P.underlying ty = some (.array m e)) (hm : m ≤ len)
    (h : wpListIn F n P ops Q rest (a.put o.dst (.pointer A)) w) : wpListIn F n P ops Q (o :: rest) a w := by
  have hl : ¬ len < m := by omega
  refine wpListIn_step fun K hK => ?_
  rw [if_pos hw]
  unfold Oper.wpIn
  refine ⟨fun f hf => by simp [Oper.about, ho] at hf, ?_⟩
  rw [Oper.semAt_plain F _ _ (by rw [ho]; intro c hc'; cases hc')]
  unfold execOp
  simp only [ho, hx, Instr.arrayAt, Sem.run_bind, run_underlying hu, Result.andThen_ok, hl, if_false, Sem.run_pure]
  exact hK _ _ h
theorem wpListIn_load_midRow (hw : Region.wanted o (yielded ops a.tmps) = true) (ty : TypeId) (x : Operand) (ho : o.op = .load ty x) (g off : Nat) (hx : a.eval x = .pointer (some ⟨g, off, none⟩)) (t : TypeId) (k : IntKind) (zs : List Int) (hr : Row w g t k zs) (m : Nat) (e : TypeId)
    (hu : P.underlying ty = some (.array m e)) (hi : (P.info? ty).map (·.size) = some m) (hn : off + m ≤ zs.length) (h : wpListIn F n P ops Q rest (a.put o.dst (.agg (arr k ((zs.drop off).take m)))) w) : wpListIn F n P ops Q (o :: rest) a w := by
  refine wpListIn_step fun K hK => ?_
  rw [if_pos hw]
  unfold Oper.wpIn
  refine ⟨fun f hf => by simp [Oper.about, ho] at hf, ?_⟩
  rw [Oper.semAt_plain F _ _ (by rw [ho]; intro c hc'; cases hc')]
  unfold execOp
  simp only [ho, hx, Instr.loadAt, Instr.sureAddr, Sem.run_bind, Sem.run_pure, Result.andThen_ok, run_loadVar_mid w g off ty (((zs.drop off).take m).map (Value.int k)) _ (Po.rangeAt_row hr off m) hu rfl (by rw [hi]; simp; omega)]
  exact hK _ _ h
end
end Go.Proofs.YtjelacblnjbfgaaDoor.Mem
namespace Go.Proofs.YtjelacblnjbfgaaDoor.Held
open Go.RowKit Go.Shelf Mem
def Blk (w : World) (g : Nat) (t : TypeId) (cs : Array Value) : Prop := w.heap[g]? = some (.cells cs t (0, 0))
section
variable {w w' : World} {g : Nat} {t : TypeId} {cs : Array Value}
theorem Blk.lt (h : Blk w g t cs) : g < w.heap.size := (Array.getElem?_eq_some_iff.1 h).1
theorem Blk.below {B : Nat} (h : Blk w g t cs) (hb : Below B w w') (hg : g < B) : Blk w' g t cs := (hb.block g hg).trans h
theorem Blk.after (h : Blk w g t cs) (hb : Below w.heap.size w w') : Blk w' g t cs := (hb.block g h.lt).trans h
theorem Blk.grown {row : Option Nat} (h : Blk w g t cs) (hb : w.grownBy w' row) (hg : some g ≠ row) : Blk w' g t cs := keep_cells h hb hg
theorem Blk.cell (h : Blk w g t cs) {i : Nat} {v : Value} (hv : cs[i]? = some v) : w.cell? ⟨g, i, none⟩ = some v := (cell_of_row w g i cs t (0, 0) h).trans hv
theorem Blk.frozen (h : Blk w g t cs) (i : Nat) : w.frozen? ⟨g, i, none⟩ = false := by
  unfold Blk at h
  simp [World.frozen?, h]
theorem Blk.drew (h : Blk w g t cs) : Blk w.drew g t cs := h
theorem Blk.of_row {k : IntKind} {zs : List Int} (h : Row w g t k zs) : Blk w g t (arr k zs) := h.2
theorem Blk.row {k : IntKind} {zs : List Int} (h : Blk w g t (arr k zs)) (hw : ∀ z ∈ zs, (Lit.int k z).wf = true) : Row w g t k zs := ⟨hw, h⟩
theorem Blk.set (h : Blk w g t cs) (i : Nat) (v : Value) : Blk (w.setCell ⟨g, i, none⟩ v) g t (cs.setIfInBounds i v) := by
  unfold Blk at h ⊢
  simp only [World.setCell, Array.getElem?_modify, h, if_true, Option.map_some, Obj.cells.injEq, Option.some.injEq]
  refine ⟨?_, trivial, trivial⟩
  simp
end
section
variable {P : Program} {S : World → Prop} {ρ : Operand → Value} {o : Oper}
theorem y_field {t : TypeId} {x : Operand} {b off j k m s : Nat} {fs : Array Field} (ho : o.op = .fieldAddr t x j) (hx : ρ x = .pointer (some ⟨b, off, none⟩)) (hu : P.underlying t = some (.struct fs)) (hk : (fs[j]?).map (·.offset) = some k) (hz : (fs[j]?).bind (fun f => (P.info? f.type).map (·.size)) = some (s + 1)) (hm : off + k = m) :
    ∀ w, S w → (execOp ρ o).run P w = .ok (.value (.pointer (some ⟨b, m, none⟩))) w := fun w _ => by
  obtain ⟨f, hf, rfl⟩ := Option.map_eq_some_iff.1 hk
  subst hm
  rw [hf] at hz
  obtain ⟨q, hq, h1⟩ := Option.map_eq_some_iff.1 (show (P.info? f.type).map (·.size) = some (s + 1) from hz)
  have ea : (Addr.mk b off none).add f.offset = ⟨b, off + f.offset, none⟩ := by unfold Addr.add; split <;> simp_all
  have es : (sizeOf f.type).run P w = .ok (s + 1) w := by simp [sizeOf, typeInfo, hq, h1]
  simp [execOp, ho, hx, Instr.fieldAt, Instr.sureAddr, run_underlying hu, hf, fieldPlace, ea, es]
theorem y_load_blk {ty : TypeId} {x : Operand} {b n : Nat} {t : TypeId} {cs : Array Value} {d : TypeDesc} (ho : o.op = .load ty x) (hx : ρ x = .pointer (some ⟨b, 0, none⟩)) (hu : P.underlying ty = some d) (hd : (match d with | .struct _ | .array _ _ => true | _ => false) = true) (hi : (P.info? ty).map (·.size) = some n) (hs : cs.size = n)
    (hc : ∀ w, S w → Blk w b t cs) : ∀ w, S w → (execOp ρ o).run P w = .ok (.value (.agg cs)) w := fun w hw => by
  simp only [execOp, ho, hx, Instr.loadAt, Instr.sureAddr, Sem.run_bind, Sem.run_pure, Result.andThen_ok, run_loadVar_row w b t ty cs (0, 0) d (hc w hw) hu hd (by rw [hi, hs])]
theorem y_build {t : TypeId} {parts : Array (Nat × Operand)} {cs : Array Value} (ho : o.op = .build t parts) (hf : P.built t (parts.map fun (i, x) => (i, ρ x)).toList = some cs) : ∀ w, S w → (execOp ρ o).run P w = .ok (.value (.agg cs)) w := fun w _ => by
  simp [execOp, ho, run_build w t _ cs hf]
theorem y_extract {x : Operand} {j : Nat} {vs : Array Value} {v : Value} (ho : o.op = .extract x j) (hx : ρ x = .tuple vs) (hv : vs[j]? = some v) : ∀ w, S w → (execOp ρ o).run P w = .ok (.value v) w := fun w _ => by
  simp [execOp, ho, hx, Instr.extract, hv]
end
section
variable {P : Program} {ops : Array Oper} {rest : List Oper} {o : Oper} {a : Act} {w : World} {Q : Exit → Act → World → Prop}
theorem wpList_box_blk (hw : Region.wanted o (yielded ops a.tmps) = true) (ty : TypeId) (x : Operand) (ho : o.op = .box ty x) (cs : Array Value) (hx : a.eval x = .agg cs)
    (h : ∀ w', Blk w' w.heap.size ty cs → w.grownBy w' none → Hid (w'.heap.size = w.heap.size + 1) → wpList P ops Q rest (a.put o.dst (.pointer (some ⟨w.heap.size, 0, none⟩))) w') : wpList P ops Q (o :: rest) a w :=
  wpList_step fun _ hK => by
    rw [if_pos hw]
    unfold Oper.wp execOp
    simp only [ho, hx, Sem.run_bind, Instr.box, newVar, newRow, run_newObj_alloc, Sem.run_pure, Result.andThen_ok, Value.cells]
    exact hK _ _ (h _ (heap_alloc_new w _) (World.grownBy_alloc w _ none) (Lib.hid (by simp)))
theorem run_alloc_blk (ty : TypeId) (cs : Array Value) (hz : (P.info? ty).bind (·.zero) = some (.agg cs)) (v : Value) :
    (Instr.alloc ty true v).run P w = .ok (.pointer (some ⟨w.heap.size, 0, none⟩)) (w.alloc (.cells cs ty)) := by
  obtain ⟨inf, hi, h0⟩ := Option.bind_eq_some_iff.1 hz
  simp [Instr.alloc, zeroValue, typeInfo, hi, h0, newVar, newRow, Value.cells, Result.andThen]
theorem wpList_alloc_blk (hw : Region.wanted o (yielded ops a.tmps) = true) (ty : TypeId) (ho : o.op = .alloc ty) (cs : Array Value) (hz : (P.info? ty).bind (·.zero) = some (.agg cs))
    (h : ∀ w', Blk w' w.heap.size ty cs → w.grownBy w' none → Hid (w'.heap.size = w.heap.size + 1) → wpList P ops Q rest (a.put o.dst (.pointer (some ⟨w.heap.size, 0, none⟩))) w') : wpList P ops Q (o :: rest) a w :=
  wpList_step fun _ hK => by
    rw [if_pos hw]
    unfold Oper.wp execOp
    simp only [ho, run_alloc_blk ty cs hz, Sem.run_bind, Sem.run_pure, Result.andThen_ok]
    exact hK _ _ (h _ (heap_alloc_new w _) (World.grownBy_alloc w _ none) (Lib.hid (by simp)))
theorem wpList_store_blk (hw : Region.wanted o (yielded ops a.tmps) = true) (ty : TypeId) (x y : Operand) (ho : o.op = .store ty x y) (g n : Nat) (hx : a.eval x = .pointer (some ⟨g, 0, none⟩)) (t : TypeId) (old cs : Array Value) (hy : a.eval y = .agg cs)
    (hb : Blk w g t old) (hsz : (P.info? ty).map (·.size) = some n) (hn : cs.size = n) (ho' : old.size = n) (h1 : cs.all (·.oneCell') = true)
    (h : ∀ w', Blk w' g t cs → w.grownBy w' (some g) → Hid (w'.heap.size = w.heap.size) → wpList P ops Q rest (a.put o.dst undef) w') : wpList P ops Q (o :: rest) a w :=
  wpList_step fun _ hK => by
    rw [if_pos hw]
    unfold Oper.wp execOp
    simp only [ho, hx, hy, Instr.storeAt, Instr.sureAddr, Sem.run_bind, Sem.run_pure, Result.andThen_ok, run_storeVar_row w g t ty _ cs hb (by rw [hsz, hn]) (by rw [ho', hn]) h1]
    exact hK _ _ (h _ (by unfold Blk at hb ⊢; simp [World.setRow, Array.getElem?_modify, hb]) (grown_setRow _ _ _) (Lib.hid (by simp [World.setRow])))
theorem wpList_load_blk (hw : Region.wanted o (yielded ops a.tmps) = true) (ty : TypeId) (x : Operand) (ho : o.op = .load ty x) (g n : Nat) (hx : a.eval x = .pointer (some ⟨g, 0, none⟩)) (t : TypeId) (cs : Array Value) (hb : Blk w g t cs) (d : TypeDesc) (hu : P.underlying ty = some d) (hd : (match d with | .struct _ | .array _ _ => true | _ => false) = true) (hi : (P.info? ty).map (·.size) = some n) (hn : cs.size = n)
    (h : wpList P ops Q rest (a.put o.dst (.agg cs)) w) : wpList P ops Q (o :: rest) a w :=
  wpList_step fun _ hK => by
    rw [if_pos hw]
    exact wp_load_row ty x ho g hx t cs (0, 0) d hb hu hd (by rw [hi, hn]) (hK _ _ h)
theorem wpList_build_blk (hg : o.guard = none) (t : TypeId) (parts : Array (Nat × Operand)) (ho : o.op = .build t parts) (cs : Array Value) (hf : P.built t (parts.map fun (i, x) => (i, a.eval x)).toList = some cs) (h : wpList P ops Q rest (a.put o.dst (.agg cs)) w) : wpList P ops Q (o :: rest) a w :=
  wpList_build hg t parts ho (by rw [hf]; rfl) (by rw [hf]; exact h)
theorem wpList_run (hw : Region.wanted o (yielded ops a.tmps) = true) {v : Value} (hr : (execOp a.eval o).run P w = .ok (.value v) w) (h : wpList P ops Q rest (a.put o.dst v) w) : wpList P ops Q (o :: rest) a w :=
  wpList_step fun _ hK => by
    rw [if_pos hw]
    unfold Oper.wp
    rw [hr]
    exact hK _ _ h
theorem wpList_shr (hgd : o.guard = none) (t u : TypeId) (x y : Operand) (ho : o.op = .binOp .shr t x y u) (k k' : IntKind) (v r : Int) (n : Nat) (hx : a.eval x = .int k v) (hy : a.eval y = .int k' (n : Int)) (hn : n ≤ k.bits) (hr : v / 2 ^ n = r)
    (h : wpList P ops Q rest (a.put o.dst (.int k r)) w) : wpList P ops Q (o :: rest) a w := by
  refine wpList_plain hgd fun K hK => ?_
  unfold Oper.wp execOp
  simp [ho, hx, hy, Held.run_shr t k k' n hn hr]
  exact hK _ _ h
theorem wpList_store_field (hw : Region.wanted o (yielded ops a.tmps) = true) (ty : TypeId) (x y : Operand) (ho : o.op = .store ty x y) (g i : Nat) (hx : a.eval x = .pointer (some ⟨g, i, none⟩)) (t : TypeId) (cs : Array Value) (v : Value) (hy : a.eval y = v)
    (hb : Blk w g t cs) (hi : i < cs.size) (hsz : (P.info? ty).map (·.size) = some 1) (h1 : v.cells = #[v]) (ho1 : v.oneCell' = true)
    (h : ∀ w', Blk w' g t (cs.setIfInBounds i v) → w.grownBy w' (some g) → Hid (w'.heap.size = w.heap.size) → wpList P ops Q rest (a.put o.dst undef) w') : wpList P ops Q (o :: rest) a w :=
  wpList_step fun _ hK => by
    rw [if_pos hw]
    unfold Oper.wp execOp
    simp only [ho, hx, hy, Instr.storeAt, Instr.sureAddr, Sem.run_bind, Sem.run_pure, Result.andThen_ok, run_store_elem ty g i _ v (hb.cell (Array.getElem?_eq_getElem hi)) (hb.frozen i) hsz h1 ho1]
    exact hK _ _ (h _ (hb.set i v) (grown_setCell _ _ _ _) (Lib.hid (by simp [World.setCell])))
end
theorem results_blk {P : Program} {fn : Func} {p : Tmp} {ty : TypeId} (h : fn.results = #[.cell p ty]) (tmps : Array Value) (w : World) (g n : Nat) (t : TypeId) (cs : Array Value) (hp : tmps.getD p undef = .pointer (some ⟨g, 0, none⟩))
    (hr : Blk w g t cs) (d : TypeDesc) (hu : P.underlying ty = some d) (hd : (match d with | .struct _ | .array _ _ => true | _ => false) = true) (hi : (P.info? ty).map (·.size) = some n) (hn : cs.size = n) : (results fn tmps).run P w = .ok (.agg cs) w :=
  results_cell_row h tmps w g t cs (0, 0) d hp hr hu hd (by rw [hi, hn])
theorem results_blk_tmp {P : Program} {fn : Func} {p u : Tmp} {ty : TypeId} (h : fn.results = #[.cell p ty, .tmp u]) (tmps : Array Value) (w : World) (g n : Nat) (t : TypeId) (cs : Array Value) (x : Value) (hp : tmps.getD p undef = .pointer (some ⟨g, 0, none⟩)) (hx : tmps.getD u undef = x)
    (hr : Blk w g t cs) (d : TypeDesc) (hu : P.underlying ty = some d) (hd : (match d with | .struct _ | .array _ _ => true | _ => false) = true) (hi : (P.info? ty).map (·.size) = some n) (hn : cs.size = n) : (results fn tmps).run P w = .ok (.tuple #[.agg cs, x]) w := by
  rw [results_cell_tmp h, hp, hx]
  have ha : (asAddr (.pointer (some ⟨g, 0, none⟩))).run P w = .ok ⟨g, 0, none⟩ w := by simp [asAddr]
  rw [ha]
  simp only [Result.andThen_ok]
  rw [run_loadVar_row (P := P) w g t ty cs (0, 0) d hr hu hd (by rw [hi, hn])]
  rfl
end Go.Proofs.YtjelacblnjbfgaaDoor.Held
namespace Go.Proofs.YtjelacblnjbfgaaDoor.Bit
open Go.RowKit
def low (x y : Int) : Int := if x < y then 1 else 0
def alike (x y : Int) : Int := if x = y then 1 else 0
def pickI (c x y : Int) : Int := if c % 2 = 1 then x else y
theorem xor_u64_range (x y : Int) (hx : 0 ≤ x) (hx' : x < 18446744073709551616) (hy : 0 ≤ y) (hy' : y < 18446744073709551616) :
    0 ≤ bits .xor .u64 x y ∧ bits .xor .u64 x y < 18446744073709551616 := by
  rw [u64_xor x y hx hx' hy hy']
  have h : x.toNat ^^^ y.toNat < 2 ^ 64 := Nat.xor_lt_two_pow (by omega) (by omega)
  omega
theorem or_neg (d : Nat) (h : 0 < d) (h' : d < 18446744073709551616) : (d ||| (18446744073709551616 - d)) / 9223372036854775808 = 1 := by
  have a : d ≤ d ||| (18446744073709551616 - d) := Nat.left_le_or
  have b : 18446744073709551616 - d ≤ d ||| (18446744073709551616 - d) := Nat.right_le_or
  have c : d ||| (18446744073709551616 - d) < 2 ^ 64 := Nat.or_lt_two_pow (by omega) (by omega)
  omega
theorem zero_flag (d : Int) (h : 0 ≤ d) (h' : d < 18446744073709551616) :
    bits .xor .u64 1 (bits .or .u64 d (IntKind.u64.wrap (-d)) / 9223372036854775808) = alike d 0 := by
  rw [IntKind.wrap_u64]
  by_cases z : d = 0
  · subst z; rfl
  · have e : -d % 18446744073709551616 = 18446744073709551616 - d := by omega
    rw [e, u64_or d _ h h' (by omega) (by omega)]
    have f : (18446744073709551616 - d).toNat = 18446744073709551616 - d.toNat := by omega
    have g := or_neg d.toNat (by omega) (by omega)
    rw [f]
    have k : ((d.toNat ||| (18446744073709551616 - d.toNat) : Nat) : Int) / 9223372036854775808 = 1 := by omega
    rw [k]
    unfold alike
    rw [if_neg z]
    rfl
theorem xor_zero (x y : Int) (hx : 0 ≤ x) (hx' : x < 18446744073709551616) (hy : 0 ≤ y) (hy' : y < 18446744073709551616) : alike (bits .xor .u64 x y) 0 = alike x y := by
  rw [u64_xor x y hx hx' hy hy']
  obtain ⟨a, rfl⟩ := Int.eq_ofNat_of_zero_le hx
  obtain ⟨b, rfl⟩ := Int.eq_ofNat_of_zero_le hy
  simp only [Int.toNat_natCast]
  unfold alike
  by_cases e : a = b
  · subst e; simp
  · have n : a ^^^ b ≠ 0 := fun h => e (by rw [← Nat.xor_zero a, ← Nat.xor_self b, ← Nat.xor_assoc, h, Nat.zero_xor])
    rw [if_neg (by omega), if_neg (by omega)]
theorem same_eq (x y : Int) (hx : 0 ≤ x) (hx' : x < 18446744073709551616) (hy : 0 ≤ y) (hy' : y < 18446744073709551616) :
    bits .xor .u64 1 (bits .or .u64 (bits .xor .u64 x y) (IntKind.u64.wrap (-bits .xor .u64 x y)) / 9223372036854775808) = alike x y := by
  have r := xor_u64_range x y hx hx' hy hy'
  rw [zero_flag _ r.1 r.2, xor_zero x y hx hx' hy hy']
theorem and_one (c : Int) (h : 0 ≤ c) (h' : c < 18446744073709551616) : bits .and .u64 c 1 = c % 2 := by
  rw [u64_and c 1 h h' (by omega) (by omega)]
  have : (1 : Int).toNat = 1 := rfl
  rw [this, Nat.and_one_is_mod]
  omega
theorem pick_eq (c x y : Int) (hc : 0 ≤ c) (hc' : c < 18446744073709551616) (hx : 0 ≤ x) (hx' : x < 18446744073709551616) (hy : 0 ≤ y) (hy' : y < 18446744073709551616) :
    bits .xor .u64 y (bits .and .u64 (IntKind.u64.wrap (-bits .and .u64 c 1)) (bits .xor .u64 x y)) = pickI c x y := by
  have r := xor_u64_range x y hx hx' hy hy'
  rw [and_one c hc hc', IntKind.wrap_u64]
  unfold pickI
  by_cases o : c % 2 = 1
  · rw [if_pos o, o]
    have e : (-1 : Int) % 18446744073709551616 = 18446744073709551615 := rfl
    rw [e, u64_and _ _ (by omega) (by omega) r.1 r.2, u64_xor x y hx hx' hy hy']
    have f : (18446744073709551615 : Int).toNat = 18446744073709551615 := rfl
    have g : x.toNat ^^^ y.toNat < 2 ^ 64 := Nat.xor_lt_two_pow (by omega) (by omega)
    rw [f, Int.toNat_natCast, Nat.and_comm, show (18446744073709551615 : Nat) = 2 ^ 64 - 1 from rfl, Nat.and_two_pow_sub_one_eq_mod, Nat.mod_eq_of_lt g, u64_xor y _ hy hy' (by omega) (by omega), Int.toNat_natCast]
    rw [Nat.xor_comm x.toNat, ← Nat.xor_assoc, Nat.xor_self, Nat.zero_xor]
    omega
  · have z : c % 2 = 0 := by omega
    rw [if_neg o, z]
    have e : (-0 : Int) % 18446744073709551616 = 0 := rfl
    have f : (0 : Int).toNat = 0 := rfl
    rw [e, u64_and _ _ (by omega) (by omega) r.1 r.2, f, Nat.zero_and, u64_xor y _ hy hy' (by omega) (by omega)]
    simp
    omega
theorem nat_xor_zero {a b : Nat} : a ^^^ b = 0 ↔ a = b :=
  ⟨fun h => by rw [← Nat.xor_zero a, ← Nat.xor_self b, ← Nat.xor_assoc, h, Nat.zero_xor], fun h => by rw [h]; exact Nat.xor_self b⟩
theorem nat_or_zero {a b : Nat} : a ||| b = 0 ↔ a = 0 ∧ b = 0 := by
  constructor
  · intro h
    have h1 : a ≤ a ||| b := Nat.left_le_or
    have h2 : b ≤ a ||| b := Nat.right_le_or
    omega
  · rintro ⟨rfl, rfl⟩; rfl
theorem gather_u8 (d x y : Int) (hd : 0 ≤ d ∧ d ≤ 255) (hx : 0 ≤ x ∧ x ≤ 255) (hy : 0 ≤ y ∧ y ≤ 255) :
    0 ≤ bits .or .u8 d (bits .xor .u8 x y) ∧ bits .or .u8 d (bits .xor .u8 x y) ≤ 255 ∧ (bits .or .u8 d (bits .xor .u8 x y) = 0 ↔ d = 0 ∧ x = y) := by
  rw [u8_xor x y (by omega) (by omega) (by omega) (by omega)]
  have h1 : x.toNat ^^^ y.toNat < 2 ^ 8 := Nat.xor_lt_two_pow (by omega) (by omega)
  rw [u8_or d _ (by omega) (by omega) (by omega) (by omega), Int.toNat_natCast]
  have h2 : d.toNat ||| (x.toNat ^^^ y.toNat) < 2 ^ 8 := Nat.or_lt_two_pow (by omega) h1
  refine ⟨by omega, by omega, ?_⟩
  have h3 := nat_or_zero (a := d.toNat) (b := x.toNat ^^^ y.toNat)
  have h4 := nat_xor_zero (a := x.toNat) (b := y.toNat)
  constructor
  · intro h
    have h5 := h3.1 (by omega)
    have h6 := h4.1 h5.2
    omega
  · rintro ⟨rfl, rfl⟩
    rw [Nat.xor_self]
    rfl
end Go.Proofs.YtjelacblnjbfgaaDoor.Bit
namespace Go.Proofs.YtjelacblnjbfgaaDoor.Ct
open Go.RowKit Go.Proofs.YtjelacblnjbfgaaDoor.Bit
theorem ret_int {k : IntKind} {a b : Int} (h : a = b) : Ending.returned (.int k a) = .returned (.int k b) := by rw [h]
theorem same_any (x y : Int) (hx : 0 ≤ x) (hx' : x < 18446744073709551616) (hy : 0 ≤ y) (hy' : y < 18446744073709551616) (w : World) :
    Calls Tryd.prog 44 #[.int .u64 x, .int .u64 y] w fun e w' => e = .returned (.int .u64 (alike x y)) ∧ w = w' := by
  go_enter Tryd.func44, Tryd.ntmps44
  go_wp2_with fail
  go_ret
  exact ⟨ret_int (same_eq x y hx hx' hy hy'), rfl⟩
theorem pick_any (c x y : Int) (hc : 0 ≤ c) (hc' : c < 18446744073709551616) (hx : 0 ≤ x) (hx' : x < 18446744073709551616) (hy : 0 ≤ y) (hy' : y < 18446744073709551616) (w : World) :
    Calls Tryd.prog 47 #[.int .u64 c, .int .u64 x, .int .u64 y] w fun e w' => e = .returned (.int .u64 (pickI c x y)) ∧ w = w' := by
  go_enter Tryd.func47, Tryd.ntmps47
  go_wp2_with fail
  go_ret
  exact ⟨ret_int (pick_eq c x y hc hc' hx hx' hy hy'), rfl⟩
def oneI (b : Bool) : Int := if b = true then 1 else 0
theorem oneI_alike (x y : Int) : oneI (x == y) = alike x y := by unfold oneI alike; simp
end Go.Proofs.YtjelacblnjbfgaaDoor.Ct
namespace Go.Proofs.YtjelacblnjbfgaaDoor.Held
open Go.RowKit Mem
section
variable {P : Program} {S : World → Prop} {ρ : Operand → Value} {o : Oper}
theorem y_eqi {t ty : TypeId} {x y : Operand} {k : IntKind} {a : Int} (ho : o.op = .binOp .eql t x y ty) (hx : ρ x = .int k a) (hy : ρ y = .int k a) :
    ∀ w, S w → (execOp ρ o).run P w = .ok (.value (.bool true)) w := y_bin ho hx hy (fun w => by simp [eqGuard]) (fun w => by simp [binOp, Op.intCmp])
theorem y_eqn {t ty : TypeId} {x y : Operand} {k : IntKind} {a b : Int} (ho : o.op = .binOp .eql t x y ty) (hx : ρ x = .int k a) (hy : ρ y = .int k b) (hab : a ≠ b) :
    ∀ w, S w → (execOp ρ o).run P w = .ok (.value (.bool false)) w := y_bin ho hx hy (fun w => by simp [eqGuard]) (fun w => by simp [binOp, Op.intCmp, hab])
end
section
variable {P : Program} {S : World → Prop} {ρ : Operand → Value} {o : Oper}
theorem y_not {x : Operand} {b r : Bool} {t : TypeId} (ho : o.op = .unOp .not t x) (hx : ρ x = .bool b) (hr : (!b) = r) : ∀ w, S w → (execOp ρ o).run P w = .ok (.value (.bool r)) w := fun w _ => by subst hr; simp [execOp, ho, hx, Op.unary]
end
section
variable {P : Program} {ops : Array Oper} {Q : Exit → Act → World → Prop} {md : Region.Mode} {S : World → Prop}
theorem skip (i : Nat) (d : Option Tmp) {oi : Oper} {fuel : Nat} {listed : Array Bool} {a : Act} {w : World} (hi : ops[i]? = some oi) (hd : oi.dst = d)
    (hs : Region.noSelect ops = true) (hf : Region.free md ops listed i = true) (hr : (Region.ready md ops listed).contains i = true)
    (hQ : ∀ c a w, Q (.panic c) (a.put d undef) w → Q (.panic c) a w) (hw : Region.wanted oi (yielded ops a.tmps) = false) (hS : S w)
    (h : wpAnyH P md ops Q S fuel (listed.setIfInBounds i true) (a.put d undef) w) : wpAnyH P md ops Q S (fuel + 1) listed a w := by
  subst hd
  exact wpAnyH_take hi hs hf hr hQ (.inr ⟨hw, rfl⟩) hS h
end
theorem wpList_build_row {P : Program} {ops : Array Oper} {rest : List Oper} {o : Oper} {a : Act} {w : World} {Q : Exit → Act → World → Prop} (hgd : o.guard = none) (t e : TypeId) (len : Nat) (parts : Array (Nat × Operand)) (ho : o.op = .buildSlice t len parts) (k : IntKind) (bytes : Nat) (zs : List Int)
    (hu : P.underlying t = some (.slice e)) (hinfo : (P.info? e).map (fun i => (i.zero, i.size, i.bytes)) = some (some (.int k 0), 1, bytes)) (hp : (parts.map fun (i, x) => (i, a.eval x)).toList = ((zs.map (Value.int k)).zipIdx 0).map fun x => (x.2, x.1))
    (hl : zs.length = len) (h0 : 0 < len) (hlen : len ≤ 1000) (hwf : ∀ z ∈ zs, (Lit.int k z).wf = true)
    (h : ∀ w', Row w' w.heap.size e k zs → w.grownBy w' none → Hid (w'.heap.size = w.heap.size + 1) → wpList P ops Q rest (a.put o.dst (.slice (some ⟨w.heap.size, 0, none⟩) len len)) w') : wpList P ops Q (o :: rest) a w := by
  refine wpList_plain hgd fun K hK => ?_
  obtain ⟨ie, hie, hz, hsz, _⟩ := info_parts hinfo
  have hl' : (zs.map (Value.int k)).length = len := by simpa using hl
  have h' := hK _ _ (h _ (Row.new w e hwf) (World.grownBy_alloc w _ none) (Lib.hid (by simp)))
  unfold arr at h'
  have h1 : ∀ v ∈ zs.map (Value.int k), v.cells = #[v] := by intro v hv; obtain ⟨z, _, rfl⟩ := List.mem_map.1 hv; rfl
  generalize zs.map (Value.int k) = vs at hp hl' h' h1
  subst hl'
  refine Go.wp_buildSlice t e vs.length parts ho vs.toArray ie (.int k 0) hu hie hz (by rw [hsz]; omega) (by rw [hsz]; omega) ?_ h'
  rw [hp]
  simp only [hsz]
  exact Go.Great.fill_flat vs _ h1 (by simp)
end Go.Proofs.YtjelacblnjbfgaaDoor.Held
namespace Go.Proofs.YtjelacblnjbfgaaDoor.Held
open Go.RowKit Mem
section
variable {P : Program} {ops : Array Oper} {Q : Exit → Act → World → Prop}
end
section
variable {P : Program} {S : World → Prop} {ρ : Operand → Value} {o : Oper}
end
section
variable {P : Program} {ops : Array Oper} {Q : Exit → Act → World → Prop}
theorem op_build_Row (i : Nat) (d : Option Tmp) {o : Oper} {a : Act} {w : World} {K : Act → World → Prop} (t e : TypeId) (len : Nat) {parts : Array (Nat × Operand)} (k : IntKind) (bytes : Nat) (zs : List Int) (hi : ops[i]? = some o) (hd : o.dst = d) (hw : Region.wanted o (yielded ops a.tmps) = true)
    (ho : o.op = .buildSlice t len parts) (hu : P.underlying t = some (.slice e)) (hinfo : (P.info? e).map (fun i => (i.zero, i.size, i.bytes)) = some (some (.int k 0), 1, bytes))
    (hp : (parts.map fun (i, x) => (i, a.eval x)).toList = ((zs.map (Value.int k)).zipIdx 0).map fun x => (x.2, x.1)) (hl : zs.length = len) (h0 : 0 < len) (hlen : len ≤ 1000) (hwf : ∀ z ∈ zs, (Lit.int k z).wf = true)
    (h : ∀ p w', Row w' p e k zs → Below w.heap.size w w' → Hid (w.heap.size ≤ p) → K (a.put d (.slice (some ⟨p, 0, none⟩) len len)) w') : wpOp P ops Q i K a w := by
  subst hd
  refine op_wp i hi hw ?_
  obtain ⟨ie, hie, hz, hsz, _⟩ := info_parts hinfo
  have hl' : (zs.map (Value.int k)).length = len := by simpa using hl
  have h' := h w.heap.size _ (Row.new w e hwf) ((Below.refl _ w).alloc (Nat.le_refl _) _) (Lib.hid (Nat.le_refl _))
  unfold arr at h'
  have h1 : ∀ v ∈ zs.map (Value.int k), v.cells = #[v] := by intro v hv; obtain ⟨z, _, rfl⟩ := List.mem_map.1 hv; rfl
  generalize zs.map (Value.int k) = vs at hp hl' h' h1
  subst hl'
  refine Go.wp_buildSlice t e vs.length parts ho vs.toArray ie (.int k 0) hu hie hz (by rw [hsz]; omega) (by rw [hsz]; omega) ?_ h'
  rw [hp]
  simp only [hsz]
  exact Go.Great.fill_flat vs _ h1 (by simp)
end
end Go.Proofs.YtjelacblnjbfgaaDoor.Held
namespace Go.Proofs.YtjelacblnjbfgaaDoor.Ky
open Go.Proofs.YtjelacblnjbfgaaDoor.Sum Po
def decN (n : Nat) : List Int := if n < 10 then [48 + (n : Int)] else decN (n / 10) ++ [48 + ((n % 10 : Nat) : Int)]
termination_by n
decreasing_by omega
def decI (v : Int) : List Int := if v < 0 then 45 :: decN (-v).toNat else decN v.toNat
def name (ph r a : Int) (t : Nat) (i : Int) : List Int := [112] ++ decI ph ++ [46, 114] ++ decI r ++ [46, 97] ++ decI a ++ [46, 116] ++ decN t ++ [46, 105] ++ decI i
def eights (vs : List Int) : List Int := vs.flatMap fun v => digits v 8
theorem eights_length : ∀ vs : List Int, (eights vs).length = 8 * vs.length
  | [] => rfl
  | v :: vs => by
    have := eights_length vs
    simp only [eights, List.flatMap_cons, List.length_append, digits_length, List.length_cons] at this ⊢
    omega
theorem eights_bytes (vs : List Int) : Bs (eights vs) := fun z hz => by
  obtain ⟨v, _, h⟩ := List.mem_flatMap.1 hz
  exact digits_bytes 8 v z h
def nonce (a i : Int) : List Int := digits a 8 ++ digits i 4
theorem nonce_length (a i : Int) : (nonce a i).length = 12 := by simp [nonce, digits_length]
theorem nonce_bytes (a i : Int) : Bs (nonce a i) := fun z hz => by
  rcases List.mem_append.1 hz with h | h
  · exact digits_bytes _ _ z h
  · exact digits_bytes _ _ z h
end Go.Proofs.YtjelacblnjbfgaaDoor.Ky
