/-
  Numbers in forty bytes, carried and reduced modulo 2^130 - 5: no program here. No conditions beyond those stated.
-/
import Derived.Test.YtebkicikpeicmaaDoorPo3
namespace Go.Proofs.YtebkicikpeicmaaDoor.Po
open Go.Proofs.YtebkicikpeicmaaDoor.Sum
set_option linter.unusedVariables false

/-- bytes are just the digits of what they say -/
theorem digits_unique {xs : List Int} {n : Int} (h : Bs xs) (hv : val xs = n) : xs = digits n xs.length := by rw [← hv, digits_val h]
theorem val_set : ∀ (xs : List Int) (i : Nat) (x : Int), i < xs.length → val (xs.set i x) = val xs + (x - xs.getD i 0) * 256 ^ i
  | [], i, x, h => by simp at h
  | y :: ys, 0, x, _ => by simp [val]; omega
  | y :: ys, i + 1, x, h => by
    have ih := val_set ys i x (by simpa using h)
    rw [List.set_cons_succ, val, val, ih, List.getD_cons_succ, Int.pow_succ, Int.mul_comm (256 ^ i) 256, ← Int.mul_assoc, Int.mul_comm _ 256, Int.mul_assoc]
    omega
/-- what is over behind k places, in bytes -/
def cout (c : Int) (xs : List Int) : Nat → Int
  | 0 => c
  | k + 1 => (cout c xs k + xs.getD k 0) / 256
theorem cout_cons (c x : Int) (xs : List Int) : ∀ k, cout c (x :: xs) (k + 1) = cout ((c + x) / 256) xs k
  | 0 => rfl
  | k + 1 => by rw [cout, cout_cons c x xs k, List.getD_cons_succ, cout]
theorem carried_length : ∀ (c : Int) (xs : List Int), (carried c xs).length = xs.length
  | _, [] => rfl
  | c, x :: xs => by rw [carried, List.length_cons, List.length_cons, carried_length]
theorem carried_get : ∀ (c : Int) (xs : List Int) (k : Nat), k < xs.length → (carried c xs).getD k 0 = (cout c xs k + xs.getD k 0) % 256
  | _, [], _, h => by simp at h
  | c, x :: xs, 0, _ => rfl
  | c, x :: xs, k + 1, h => by rw [carried, List.getD_cons_succ, List.getD_cons_succ, cout_cons, carried_get _ xs k (by simpa using h)]
theorem cout_bound {xs : List Int} (h : ∀ x ∈ xs, 0 ≤ x ∧ x < 16777216) : ∀ k, 0 ≤ cout 0 xs k ∧ cout 0 xs k < 131072
  | 0 => by simp [cout]
  | k + 1 => by
    have ih := cout_bound h k
    have := getD_range (P := fun x => 0 ≤ x ∧ x < 16777216) h (by omega) k
    rw [cout]
    omega
theorem carried_bytes (c : Int) : ∀ (xs : List Int), Bs (carried c xs)
  | [] => fun z hz => by cases hz
  | x :: xs => fun z hz => by
    rcases List.mem_cons.1 hz with rfl | h
    · omega
    · exact carried_bytes _ xs z h
theorem carried_zero (xs : List Int) (n : Int) (h : val xs = n) : carried 0 xs = digits n xs.length := by rw [carried_eq, Int.zero_add, h]

/-- the lower part, below 2^130 -/
def lowL (a : List Int) : List Int := a.take 16 ++ a.getD 16 0 % 4 :: List.replicate 23 0
/-- the upper part, from 2^130 on -/
def highAt (a : List Int) (j : Nat) : Int := a.getD (16 + j) 0 / 4 + a.getD (17 + j) 0 * 64 % 256
def highL (a : List Int) : List Int := (List.range 24).map (highAt a) ++ List.replicate 16 0
theorem digits_get_all (n : Int) (h0 : 0 ≤ n) (hn : n < 256 ^ 40) (i : Nat) : (digits n 40).getD i 0 = n / 256 ^ i % 256 := by
  by_cases hi : i < 40
  · exact digits_get 40 n i hi
  · rw [List.getD_eq_getElem?_getD, List.getElem?_eq_none (by rw [digits_length]; omega)]
    have e : n / 256 ^ i = 0 := by
      obtain ⟨d, rfl⟩ : ∃ d, i = 40 + d := ⟨i - 40, by omega⟩
      rw [Int.pow_add, ← Int.ediv_ediv_of_nonneg (by decide), Int.ediv_eq_zero_of_lt h0 hn]
      simp
    rw [e]
    rfl
theorem low_high {n : Int} (h0 : 0 ≤ n) (hn : n < 256 ^ 40) : val (lowL (digits n 40)) = n % 2 ^ 130 ∧ val (highL (digits n 40)) = n / 2 ^ 130 := by
  constructor
  · have e : lowL (digits n 40) = digits (n % 2 ^ 130) 17 ++ List.replicate 23 0 := by
      simp only [lowL, digits, List.take_succ_cons, List.take_zero, List.getD_cons_succ, List.getD_cons_zero, List.cons_append, List.nil_append]
      congr 1
      · omega
      congr 1
      · omega
      congr 1
      · omega
      congr 1
      · omega
      congr 1
      · omega
      congr 1
      · omega
      congr 1
      · omega
      congr 1
      · omega
      congr 1
      · omega
      congr 1
      · omega
      congr 1
      · omega
      congr 1
      · omega
      congr 1
      · omega
      congr 1
      · omega
      congr 1
      · omega
      congr 1
      · omega
      congr 1
      omega
    rw [e, val_append, val_zeros, val_digits]
    omega
  · have e : highL (digits n 40) = digits (n / 2 ^ 130) 24 ++ List.replicate 16 0 := by
      unfold highL
      congr 1
      apply List.ext_getElem
      · rw [digits_length]; simp
      · intro j h1 h2
        have hj : j < 24 := by simpa using h1
        have e1 := digits_get 24 (n / 2 ^ 130) j hj
        rw [List.getD_eq_getElem?_getD, List.getElem?_eq_getElem h2, Option.getD_some] at e1
        rw [e1]
        simp only [List.getElem_map, List.getElem_range, highAt]
        rw [digits_get_all n h0 hn, digits_get_all n h0 hn]
        have p1 : (0 : Int) < 256 ^ j := Int.pow_pos (by omega)
        have q1 : n / 256 ^ (16 + j) = n / 256 ^ j / 256 ^ 16 := by rw [Nat.add_comm, Int.pow_add, Int.ediv_ediv_of_nonneg (by omega)]
        have q2 : n / 256 ^ (17 + j) = n / 256 ^ j / 256 ^ 17 := by rw [Nat.add_comm, Int.pow_add, Int.ediv_ediv_of_nonneg (by omega)]
        have q3 : n / 2 ^ 130 / 256 ^ j = n / 256 ^ j / 2 ^ 130 := by rw [Int.ediv_ediv_of_nonneg (by omega), Int.ediv_ediv_of_nonneg (by omega), Int.mul_comm]
        rw [q1, q2, q3]
        omega
    rw [e, val_append, val_zeros, val_digits]
    omega
theorem lowL_length {a : List Int} (h : a.length = 40) : (lowL a).length = 40 := by simp [lowL, h]
theorem highL_length (a : List Int) : (highL a).length = 40 := by simp [highL]
theorem lowL_bytes {a : List Int} (h : Bs a) : Bs (lowL a) := fun z hz => by
  rcases List.mem_append.1 hz with h1 | h1
  · exact h z (List.mem_of_mem_take h1)
  · rcases List.mem_cons.1 h1 with rfl | h1
    · have := h.at_ 16; omega
    · rw [List.eq_of_mem_replicate h1]; omega
theorem highL_bytes {a : List Int} (h : Bs a) : Bs (highL a) := fun z hz => by
  rcases List.mem_append.1 hz with h1 | h1
  · obtain ⟨j, _, rfl⟩ := List.mem_map.1 h1
    have h2 := h.at_ (16 + j)
    have h3 := h.at_ (17 + j)
    unfold highAt
    omega
  · rw [List.eq_of_mem_replicate h1]; omega
/-- both parts, added, the upper one five times -/
def fold (a : List Int) : List Int := List.zipWith (fun x y => x + 5 * y) (lowL a) (highL a)
theorem val_zip : ∀ {xs ys : List Int}, xs.length = ys.length → val (List.zipWith (fun x y => x + 5 * y) xs ys) = val xs + 5 * val ys
  | [], [], _ => rfl
  | x :: xs, y :: ys, h => by
    have := val_zip (xs := xs) (ys := ys) (by simpa using h)
    rw [List.zipWith_cons_cons, val, val, val, this]
    omega
theorem fold_length {a : List Int} (h : a.length = 40) : (fold a).length = 40 := by simp [fold, lowL_length h, highL_length]
theorem fold_get {a : List Int} (h : a.length = 40) {i : Nat} (hi : i < 40) : (fold a).getD i 0 = (lowL a).getD i 0 + 5 * (highL a).getD i 0 := by
  have h1 : i < (lowL a).length := by rw [lowL_length h]; exact hi
  have h2 : i < (highL a).length := by rw [highL_length]; exact hi
  simp [fold, List.getD_eq_getElem?_getD, List.getElem?_zipWith, h1, h2]
theorem fold_bound {a : List Int} (h : Bs a) : ∀ x ∈ fold a, 0 ≤ x ∧ x < 16777216 := by
  intro x hx
  obtain ⟨i, hi, rfl⟩ := List.mem_iff_getElem.1 hx
  simp only [fold, List.length_zipWith] at hi
  simp only [fold, List.getElem_zipWith]
  have h1 := lowL_bytes h _ (List.getElem_mem (show i < (lowL a).length by omega))
  have h2 := highL_bytes h _ (List.getElem_mem (show i < (highL a).length by omega))
  omega
theorem fold_val {n : Int} (h0 : 0 ≤ n) (hn : n < 256 ^ 40) : val (fold (digits n 40)) = red n := by
  have h := low_high h0 hn
  rw [fold, val_zip (by rw [lowL_length (digits_length 40 n), highL_length]), h.1, h.2]
  rfl
theorem red_small {n : Int} (h0 : 0 ≤ n) (hn : n < 2 ^ 300) : red n < 2 ^ 300 := by unfold red; omega
/-- k rounds of the reduction -/
def reds (n : Int) : Nat → Int
  | 0 => n
  | k + 1 => red (reds n k)
theorem reds_bound {n : Int} (h0 : 0 ≤ n) (hn : n < 2 ^ 300) : ∀ k, 0 ≤ reds n k ∧ reds n k < 2 ^ 300
  | 0 => ⟨h0, hn⟩
  | k + 1 => by
    have ih := reds_bound h0 hn k
    exact ⟨red_nonneg ih.1, red_small ih.1 ih.2⟩
theorem reds_mod (n : Int) : ∀ k, reds n k % modulus = n % modulus
  | 0 => rfl
  | k + 1 => by rw [reds, red_mod, reds_mod n k]
theorem reds_four {n : Int} (h0 : 0 ≤ n) (hn : n < 2 ^ 300) : 0 ≤ reds n 4 ∧ reds n 4 < 2 ^ 130 := red_four h0 hn
/-- the last step, below the modulus -/
theorem least_big {n : Int} (h0 : 0 ≤ n) (hn : n < 2 ^ 130) (hb : 4 ≤ (digits (n + 5) 40).getD 16 0) : (digits (n + 5) 40).set 16 ((digits (n + 5) 40).getD 16 0 - 4) = digits (n % modulus) 40 := by
  have hg := digits_get 40 (n + 5) 16 (by omega)
  rw [hg] at hb ⊢
  have hl : ((digits (n + 5) 40).set 16 ((n + 5) / 256 ^ 16 % 256 - 4)).length = 40 := by rw [List.length_set, digits_length]
  have hv := val_set (digits (n + 5) 40) 16 ((n + 5) / 256 ^ 16 % 256 - 4) (by rw [digits_length]; omega)
  rw [hg, val_digits] at hv
  have hby : Bs ((digits (n + 5) 40).set 16 ((n + 5) / 256 ^ 16 % 256 - 4)) := fun z hz => by
    rcases List.mem_or_eq_of_mem_set hz with h1 | h1
    · exact digits_bytes 40 _ z h1
    · rw [h1]; omega
  have := digits_unique hby hv
  rw [hl] at this
  rw [this]
  congr 1
  unfold modulus
  omega
theorem least_small {n : Int} (h0 : 0 ≤ n) (hn : n < 2 ^ 130) (hb : (digits (n + 5) 40).getD 16 0 < 4) : digits n 40 = digits (n % modulus) 40 := by
  rw [digits_get 40 (n + 5) 16 (by omega)] at hb
  congr 1
  unfold modulus
  omega
end Go.Proofs.YtebkicikpeicmaaDoor.Po

