/-
  Names, and numbers as bytes, of package keys, as plain functions: no program here. No conditions beyond those stated.
-/
import Derived.Test.YtdfnacnklmmjhaaPo1
namespace Go.Proofs.Ytdfnacnklmmjhaa.Ky
open Go.Proofs.Ytdfnacnklmmjhaa.Sum Go.Proofs.Ytdfnacnklmmjhaa.Po
set_option linter.unusedVariables false

/-- a number's decimal digits -/
def decN (n : Nat) : List Int := if n < 10 then [48 + (n : Int)] else decN (n / 10) ++ [48 + ((n % 10 : Nat) : Int)]
termination_by n
decreasing_by omega
/-- with a sign ahead of one below 0 -/
def decI (v : Int) : List Int := if v < 0 then 45 :: decN (-v).toNat else decN v.toNat
/-- what digits say -/
def undec : List Int → Nat → Nat
  | [], a => a
  | d :: ds, a => undec ds (10 * a + (d - 48).toNat)
theorem undec_append : ∀ (xs ys : List Int) (a : Nat), undec (xs ++ ys) a = undec ys (undec xs a)
  | [], _, _ => rfl
  | x :: xs, ys, a => undec_append xs ys _
theorem decN_mem (n : Nat) : ∀ z ∈ decN n, 48 ≤ z ∧ z ≤ 57 := by
  induction n using decN.induct with
  | case1 n h =>
    intro z hz
    rw [decN, if_pos h, List.mem_singleton] at hz
    omega
  | case2 n h ih =>
    intro z hz
    rw [decN, if_neg h] at hz
    rcases List.mem_append.1 hz with hz | hz
    · exact ih z hz
    · rw [List.mem_singleton] at hz
      omega
theorem undec_dec (n : Nat) : undec (decN n) 0 = n := by
  induction n using decN.induct with
  | case1 n h =>
    rw [decN, if_pos h]
    simp only [undec]
    omega
  | case2 n h ih =>
    rw [decN, if_neg h, undec_append, ih]
    simp only [undec]
    omega
theorem decN_inj {a b : Nat} (h : decN a = decN b) : a = b := by rw [← undec_dec a, h, undec_dec]
theorem decN_length (n : Nat) : ∀ k, n < 10 ^ (k + 1) → (decN n).length ≤ k + 1 := by
  induction n using decN.induct with
  | case1 n h =>
    intro k _
    rw [decN, if_pos h]
    simp
  | case2 n h ih =>
    intro k hk
    rw [decN, if_neg h, List.length_append, List.length_singleton]
    cases k with
    | zero => simp at hk; omega
    | succ k =>
      have := ih k (by rw [Nat.pow_succ] at hk; omega)
      omega
theorem decN_pos (n : Nat) : decN n ≠ [] := by
  rw [decN]
  split <;> simp
theorem decI_mem (v : Int) : ∀ z ∈ decI v, z = 45 ∨ (48 ≤ z ∧ z ≤ 57) := fun z hz => by
  unfold decI at hz
  split at hz
  · rcases List.mem_cons.1 hz with h | h
    · exact .inl h
    · exact .inr (decN_mem _ z h)
  · exact .inr (decN_mem _ z hz)
theorem decI_inj {a b : Int} (h : decI a = decI b) : a = b := by
  have hn : ∀ n, ∀ xs : List Int, decN n ≠ 45 :: xs := fun n xs e => by
    have := decN_mem n 45 (by rw [e]; simp)
    omega
  unfold decI at h
  split at h <;> split at h
  · injection h with _ h
    have := decN_inj h
    omega
  · exact absurd h.symm (hn _ _)
  · exact absurd h (hn _ _)
  · have := decN_inj h
    omega
/-- what stands ahead of a sign that is in neither is alike -/
theorem cut_inj {s : Int} : ∀ {xs ys : List Int} {us vs : List Int}, s ∉ xs → s ∉ ys → xs ++ s :: us = ys ++ s :: vs → xs = ys ∧ us = vs
  | [], [], us, vs, _, _, h => by simpa using h
  | [], y :: ys, us, vs, _, h2, h => by
    injection h with h _
    exact absurd (by rw [h]; simp) h2
  | x :: xs, [], us, vs, h1, _, h => by
    injection h with h _
    exact absurd (by rw [h]; simp) h1
  | x :: xs, y :: ys, us, vs, h1, h2, h => by
    injection h with h3 h4
    have := cut_inj (fun e => h1 (List.mem_cons_of_mem _ e)) (fun e => h2 (List.mem_cons_of_mem _ e)) h4
    exact ⟨by rw [h3, this.1], this.2⟩
/-- a place's name -/
def name (ph r a : Int) (t : Nat) (i : Int) : List Int := [112] ++ decI ph ++ [46, 114] ++ decI r ++ [46, 97] ++ decI a ++ [46, 116] ++ decN t ++ [46, 105] ++ decI i
theorem no_dot (v : Int) : (46 : Int) ∉ decI v := fun h => by have := decI_mem v 46 h; omega
theorem no_dotN (n : Nat) : (46 : Int) ∉ decN n := fun h => by have := decN_mem n 46 h; omega
theorem name_inj {ph r a i ph' r' a' i' : Int} {t t' : Nat} (h : name ph r a t i = name ph' r' a' t' i') : ph = ph' ∧ r = r' ∧ a = a' ∧ t = t' ∧ i = i' := by
  simp only [name, List.append_assoc, List.cons_append, List.nil_append] at h
  injection h with _ h
  obtain ⟨h1, h⟩ := cut_inj (no_dot ph) (no_dot ph') h
  injection h with _ h
  obtain ⟨h2, h⟩ := cut_inj (no_dot r) (no_dot r') h
  injection h with _ h
  obtain ⟨h3, h⟩ := cut_inj (no_dot a) (no_dot a') h
  injection h with _ h
  obtain ⟨h4, h⟩ := cut_inj (no_dotN t) (no_dotN t') h
  injection h with _ h5
  exact ⟨decI_inj h1, decI_inj h2, decI_inj h3, decN_inj h4, decI_inj h5⟩
theorem name_mem (ph r a : Int) (t : Nat) (i : Int) : Bs (name ph r a t i) := fun z hz => by
  have hI := fun v (h : z ∈ decI v) => decI_mem v z h
  have hN := fun n (h : z ∈ decN n) => decN_mem n z h
  simp only [name, List.mem_append, List.mem_cons, List.not_mem_nil, or_false] at hz
  rcases hz with (((((((((h | h) | (h | h)) | h) | (h | h)) | h) | (h | h)) | h) | (h | h)) | h) <;> first | omega | (have := hI _ h; omega) | (have := hN _ h; omega)
/-- numbers, eight bytes each -/
def eights (vs : List Int) : List Int := vs.flatMap fun v => digits v 8
theorem eights_length : ∀ vs : List Int, (eights vs).length = 8 * vs.length
  | [] => rfl
  | v :: vs => by
    have := eights_length vs
    simp only [eights, List.flatMap_cons, List.length_append, digits_length, List.length_cons] at this ⊢
    omega
theorem eights_bytes (vs : List Int) : Bs (eights vs) := fun z hz => by
  obtain ⟨v, _, h⟩ := List.mem_flatMap.1 hz
  exact digits_bytes 8 v z h
theorem digits_inj {a b : Int} {k : Nat} (h : digits a k = digits b k) : a % 256 ^ k = b % 256 ^ k := by rw [← val_digits, h, val_digits]
theorem eights_inj : ∀ {us vs : List Int}, us.length = vs.length → eights us = eights vs → us.map (· % 2 ^ 64) = vs.map (· % 2 ^ 64)
  | [], [], _, _ => rfl
  | [], _ :: _, h, _ => by cases h
  | _ :: _, [], h, _ => by cases h
  | u :: us, v :: vs, hl, h => by
    simp only [eights, List.flatMap_cons] at h
    obtain ⟨h1, h2⟩ := List.append_inj h (by rw [digits_length, digits_length])
    have h3 := digits_inj h1
    rw [show (256 : Int) ^ 8 = 2 ^ 64 by decide] at h3
    rw [List.map_cons, List.map_cons, h3, eights_inj (by simpa using hl) h2]
/-- a nonce -/
def nonce (a i : Int) : List Int := digits a 8 ++ digits i 4
theorem nonce_length (a i : Int) : (nonce a i).length = 12 := by simp [nonce, digits_length]
theorem nonce_bytes (a i : Int) : Bs (nonce a i) := fun z hz => by
  rcases List.mem_append.1 hz with h | h
  · exact digits_bytes _ _ z h
  · exact digits_bytes _ _ z h
theorem nonce_inj {a b i k : Int} (h : nonce a i = nonce b k) : a % 2 ^ 64 = b % 2 ^ 64 ∧ i % 2 ^ 32 = k % 2 ^ 32 := by
  obtain ⟨h1, h2⟩ := List.append_inj h (by rw [digits_length, digits_length])
  have h3 := digits_inj h1
  have h4 := digits_inj h2
  rw [show (256 : Int) ^ 8 = 2 ^ 64 by decide] at h3
  rw [show (256 : Int) ^ 4 = 2 ^ 32 by decide] at h4
  exact ⟨h3, h4⟩
end Go.Proofs.Ytdfnacnklmmjhaa.Ky

