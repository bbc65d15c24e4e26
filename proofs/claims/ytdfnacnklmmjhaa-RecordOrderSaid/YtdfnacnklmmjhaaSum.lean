/-
  SHA-256 as plain functions on lists of numbers, and what is true of them: no program here. Conditions: numbers of 32 bits, bytes of 8.
-/
import Derived.WalkKit
import Derived.OpenShut
import Derived.Laws.BitsAllLaws
namespace Go.Proofs.Ytdfnacnklmmjhaa.Sum
open Go.RowKit
set_option linter.unusedVariables false

/-- a number of 32 bits -/
def R32 (x : Int) : Prop := 0 ≤ x ∧ x < 4294967296
def addI (x y : Int) : Int := (x + y) % 4294967296
def rotI (x : Int) (n : Nat) : Int := bits .or .u32 (x / 2 ^ n) (x * 2 ^ (32 - n) % 4294967296)
def xorI (x y : Int) : Int := bits .xor .u32 x y
def andI (x y : Int) : Int := bits .and .u32 x y
def bigI (x : Int) (p q r : Nat) : Int := xorI (xorI (rotI x p) (rotI x q)) (rotI x r)
def smallI (x : Int) (p q r : Nat) : Int := xorI (xorI (rotI x p) (rotI x q)) (x / 2 ^ r)
def chI (e f g : Int) : Int := xorI g (andI e (xorI f g))
def majI (a b c : Int) : Int := xorI (xorI (andI a b) (andI a c)) (andI b c)

theorem r32_add (x y : Int) : R32 (addI x y) := by unfold R32 addI; omega
theorem r32_bits (o : BinOp) (x y : Int) : R32 (bits o .u32 x y) := by
  have h := wf_bits o .u32 x y
  simp [Lit.wf, IntKind.min, IntKind.max, IntKind.signed, IntKind.bits] at h
  unfold R32
  omega
theorem r32_rot (x : Int) (n : Nat) : R32 (rotI x n) := r32_bits _ _ _
theorem r32_xor (x y : Int) : R32 (xorI x y) := r32_bits _ _ _
theorem r32_and (x y : Int) : R32 (andI x y) := r32_bits _ _ _
theorem r32_shr {x : Int} (h : R32 x) (n : Nat) : R32 (x / 2 ^ n) := by
  unfold R32 at *
  have h1 : (0 : Int) < 2 ^ n := Int.pow_pos (by omega)
  refine ⟨Int.ediv_nonneg h.1 (by omega), ?_⟩
  have := Int.ediv_le_self (2 ^ n) h.1
  omega

theorem or_comm32 {x y : Int} (hx : R32 x) (hy : R32 y) : bits .or .u32 x y = bits .or .u32 y x := by
  rw [u32_or x y hx.1 hx.2 hy.1 hy.2, u32_or y x hy.1 hy.2 hx.1 hx.2, Nat.or_comm]

/-- the choice as the standard spells it -/
theorem ch_eq {x y z : Int} (hx : R32 x) (hy : R32 y) (hz : R32 z) : bits .xor .u32 (bits .and .u32 x y) (bits .and .u32 (4294967295 - x) z) = chI x y z := by
  unfold chI xorI andI
  have n1 : R32 (4294967295 - x) := by unfold R32 at *; omega
  have a1 := r32_bits .and x y
  have a2 := r32_bits .and (4294967295 - x) z
  have a3 := r32_bits .xor y z
  have a4 := r32_bits .and x (bits .xor .u32 y z)
  rw [u32_xor _ _ a1.1 a1.2 a2.1 a2.2, u32_xor _ _ hz.1 hz.2 a4.1 a4.2, u32_and _ _ hx.1 hx.2 hy.1 hy.2, u32_and _ _ n1.1 n1.2 hz.1 hz.2, u32_and _ _ hx.1 hx.2 a3.1 a3.2, u32_xor _ _ hy.1 hy.2 hz.1 hz.2]
  simp only [Int.toNat_natCast]
  congr 1
  obtain ⟨a, rfl⟩ := Int.eq_ofNat_of_zero_le hx.1
  obtain ⟨b, rfl⟩ := Int.eq_ofNat_of_zero_le hy.1
  obtain ⟨c, rfl⟩ := Int.eq_ofNat_of_zero_le hz.1
  unfold R32 at hx hy hz
  have e : (4294967295 - (a : Int)).toNat = 2 ^ 32 - (a + 1) := by omega
  rw [e]
  simp only [Int.toNat_natCast]
  apply Nat.eq_of_testBit_eq
  intro i
  simp only [Nat.testBit_xor, Nat.testBit_and, Nat.testBit_two_pow_sub_succ (show a < 2 ^ 32 by omega)]
  by_cases hi : i < 32
  · simp only [hi, decide_true, Bool.true_and]
    cases a.testBit i <;> cases b.testBit i <;> cases c.testBit i <;> rfl
  · have hc : c.testBit i = false := Nat.testBit_lt_two_pow (Nat.lt_of_lt_of_le (show c < 2 ^ 32 by omega) (Nat.pow_le_pow_right (by omega) (by omega)))
    have ha : a.testBit i = false := Nat.testBit_lt_two_pow (Nat.lt_of_lt_of_le (show a < 2 ^ 32 by omega) (Nat.pow_le_pow_right (by omega) (by omega)))
    simp [hc, ha]

theorem not32 {x : Int} (h : R32 x) : bits .xor .u32 4294967295 x = 4294967295 - x := by
  rw [u32_xor _ _ (by omega) (by omega) h.1 h.2]
  obtain ⟨a, rfl⟩ := Int.eq_ofNat_of_zero_le h.1
  unfold R32 at h
  have e : (4294967295 : Int).toNat = 2 ^ 32 - 1 := rfl
  rw [e, Int.toNat_natCast]
  have e2 : ((2 ^ 32 - 1) ^^^ a) = 2 ^ 32 - (a + 1) := by
    apply Nat.eq_of_testBit_eq
    intro i
    simp only [Nat.testBit_xor, Nat.testBit_two_pow_sub_one, Nat.testBit_two_pow_sub_succ (show a < 2 ^ 32 by omega)]
    by_cases hi : i < 32
    · simp [hi]
    · have ha : a.testBit i = false := Nat.testBit_lt_two_pow (Nat.lt_of_lt_of_le (show a < 2 ^ 32 by omega) (Nat.pow_le_pow_right (by omega) (by omega)))
      simp [hi, ha]
  rw [e2]
  omega
theorem ch_eq' {x y z : Int} (hx : R32 x) (hy : R32 y) (hz : R32 z) : bits .xor .u32 (bits .and .u32 x y) (bits .and .u32 (bits .xor .u32 4294967295 x) z) = chI x y z := by
  rw [not32 hx, ch_eq hx hy hz]

/-- the 64 constants -/
def K : List Int := [0x428a2f98, 0x71374491, 0xb5c0fbcf, 0xe9b5dba5, 0x3956c25b, 0x59f111f1, 0x923f82a4, 0xab1c5ed5,
  0xd807aa98, 0x12835b01, 0x243185be, 0x550c7dc3, 0x72be5d74, 0x80deb1fe, 0x9bdc06a7, 0xc19bf174,
  0xe49b69c1, 0xefbe4786, 0x0fc19dc6, 0x240ca1cc, 0x2de92c6f, 0x4a7484aa, 0x5cb0a9dc, 0x76f988da,
  0x983e5152, 0xa831c66d, 0xb00327c8, 0xbf597fc7, 0xc6e00bf3, 0xd5a79147, 0x06ca6351, 0x14292967,
  0x27b70a85, 0x2e1b2138, 0x4d2c6dfc, 0x53380d13, 0x650a7354, 0x766a0abb, 0x81c2c92e, 0x92722c85,
  0xa2bfe8a1, 0xa81a664b, 0xc24b8b70, 0xc76c51a3, 0xd192e819, 0xd6990624, 0xf40e3585, 0x106aa070,
  0x19a4c116, 0x1e376c08, 0x2748774c, 0x34b0bcb5, 0x391c0cb3, 0x4ed8aa4a, 0x5b9cca4f, 0x682e6ff3,
  0x748f82ee, 0x78a5636f, 0x84c87814, 0x8cc70208, 0x90befffa, 0xa4506ceb, 0xbef9a3f7, 0xc67178f2]
def H0 : List Int := [0x6a09e667, 0xbb67ae85, 0x3c6ef372, 0xa54ff53a, 0x510e527f, 0x9b05688c, 0x1f83d9ab, 0x5be0cd19]

/-- one word more of a schedule -/
def nextW (ws : List Int) : Int := addI (addI (addI (smallI (ws.getD (ws.length - 2) 0) 17 19 10) (ws.getD (ws.length - 7) 0)) (smallI (ws.getD (ws.length - 15) 0) 7 18 3)) (ws.getD (ws.length - 16) 0)
def sched : Nat → List Int → List Int
  | 0, ws => ws
  | n + 1, ws => sched n (ws ++ [nextW ws])

/-- one round -/
def round (k w : Int) : List Int → List Int
  | [a, b, c, d, e, f, g, h] => [addI (addI (addI (addI (addI h (bigI e 6 11 25)) (chI e f g)) k) w) (addI (bigI a 2 13 22) (majI a b c)), a, b, c, addI d (addI (addI (addI (addI h (bigI e 6 11 25)) (chI e f g)) k) w), e, f, g]
  | v => v
def rounds (W : List Int) : Nat → List Int → List Int
  | 0, v => v
  | t + 1, v => round (K.getD t 0) (W.getD t 0) (rounds W t v)

/-- four bytes as a word -/
def word (bs : List Int) (t : Nat) : Int := ((bs.getD (4 * t) 0 * 256 + bs.getD (4 * t + 1) 0) * 256 + bs.getD (4 * t + 2) 0) * 256 + bs.getD (4 * t + 3) 0
def words (bs : List Int) : List Int := (List.range 16).map (word bs)
def W (bs : List Int) : List Int := sched 48 (words bs)
def sumUp (h v : List Int) : List Int := (List.range 8).map fun i => addI (h.getD i 0) (v.getD i 0)
/-- what there is behind a block -/
def block (h bs : List Int) : List Int := sumUp h (rounds (W bs) 64 h)
/-- the first n blocks -/
def blocksI (m : List Int) : Nat → List Int
  | 0 => H0
  | n + 1 => block (blocksI m n) ((m.drop (64 * n)).take 64)
/-- a word as four bytes -/
def outB (h : List Int) : List Int := (List.range 32).map fun i => h.getD (i / 4) 0 / 2 ^ (24 - 8 * (i % 4)) % 256
/-- what stands behind a message of n bytes -/
def padI (n : Nat) : List Int := 128 :: (List.replicate ((119 - n % 64) % 64) 0 ++ (List.range 8).map fun i => ((8 * n : Nat) : Int) / 2 ^ (56 - 8 * i) % 256)
def sha (m : List Int) : List Int := outB (blocksI (m ++ padI m.length) ((m.length + (padI m.length).length) / 64))

theorem sched_length : ∀ (n : Nat) (ws : List Int), (sched n ws).length = ws.length + n
  | 0, ws => rfl
  | n + 1, ws => by rw [sched, sched_length n]; simp; omega
theorem sched_old : ∀ (n : Nat) (ws : List Int) (t : Nat), t < ws.length → (sched n ws).getD t 0 = ws.getD t 0
  | 0, ws, t, _ => rfl
  | n + 1, ws, t, h => by
    rw [sched, sched_old n _ t (by simp; omega)]
    simp only [List.getD_eq_getElem?_getD]
    rw [List.getElem?_append_left h]
theorem sched_new : ∀ (n : Nat) (ws : List Int) (t : Nat), 16 ≤ ws.length → ws.length ≤ t → t < ws.length + n →
    (sched n ws).getD t 0 = addI (addI (addI (smallI ((sched n ws).getD (t - 2) 0) 17 19 10) ((sched n ws).getD (t - 7) 0)) (smallI ((sched n ws).getD (t - 15) 0) 7 18 3)) ((sched n ws).getD (t - 16) 0)
  | 0, ws, t, _, h1, h2 => by omega
  | n + 1, ws, t, h0, h1, h2 => by
    rw [sched]
    by_cases h : t = ws.length
    · subst h
      rw [sched_old n _ _ (by simp), sched_old n _ _ (by simp; omega), sched_old n _ _ (by simp; omega), sched_old n _ _ (by simp; omega), sched_old n _ _ (by simp; omega)]
      have e : ∀ k, k < ws.length → (ws ++ [nextW ws]).getD k 0 = ws.getD k 0 := fun k hk => by
        simp only [List.getD_eq_getElem?_getD]; rw [List.getElem?_append_left hk]
      rw [e (ws.length - 2) (by omega), e (ws.length - 7) (by omega), e (ws.length - 15) (by omega), e (ws.length - 16) (by omega)]
      simp [nextW]
    · exact sched_new n _ t (by simp; omega) (by simp; omega) (by simp; omega)

theorem words_length (bs : List Int) : (words bs).length = 16 := by simp [words]
theorem W_length (bs : List Int) : (W bs).length = 64 := by unfold W; rw [sched_length, words_length]
theorem W_word (bs : List Int) {t : Nat} (h : t < 16) : (W bs).getD t 0 = word bs t := by
  unfold W
  rw [sched_old _ _ _ (by rw [words_length]; exact h)]
  simp [words, List.getD_eq_getElem?_getD, h]
theorem W_next (bs : List Int) {t : Nat} (h : 16 ≤ t) (h' : t < 64) :
    (W bs).getD t 0 = addI (addI (addI (smallI ((W bs).getD (t - 2) 0) 17 19 10) ((W bs).getD (t - 7) 0)) (smallI ((W bs).getD (t - 15) 0) 7 18 3)) ((W bs).getD (t - 16) 0) :=
  sched_new 48 (words bs) t (by rw [words_length]; omega) (by rw [words_length]; omega) (by rw [words_length]; omega)

/-- all numbers of a list are bytes -/
def Bs (bs : List Int) : Prop := ∀ z ∈ bs, 0 ≤ z ∧ z ≤ 255
theorem Bs.at_ {bs : List Int} (h : Bs bs) (i : Nat) : 0 ≤ bs.getD i 0 ∧ bs.getD i 0 ≤ 255 := by
  rw [List.getD_eq_getElem?_getD]
  by_cases hi : i < bs.length
  · rw [List.getElem?_eq_getElem hi]; exact h _ (List.getElem_mem hi)
  · rw [List.getElem?_eq_none (by omega)]; simp
theorem r32_word {bs : List Int} (h : Bs bs) (t : Nat) : R32 (word bs t) := by
  have a := h.at_ (4 * t)
  have b := h.at_ (4 * t + 1)
  have c := h.at_ (4 * t + 2)
  have d := h.at_ (4 * t + 3)
  unfold R32 word
  omega
theorem r32_W {bs : List Int} (h : Bs bs) (t : Nat) : R32 ((W bs).getD t 0) := by
  by_cases h1 : t < 16
  · rw [W_word bs h1]; exact r32_word h t
  · by_cases h2 : t < 64
    · rw [W_next bs (by omega) h2]; exact r32_add _ _
    · rw [List.getD_eq_getElem?_getD, List.getElem?_eq_none (by rw [W_length]; omega)]
      simp [R32]
theorem K_length : K.length = 64 := rfl
theorem r32_K (t : Nat) : R32 (K.getD t 0) := by
  have h : ∀ z ∈ K, R32 z := by unfold R32; decide +kernel
  rw [List.getD_eq_getElem?_getD]
  by_cases hi : t < K.length
  · rw [List.getElem?_eq_getElem hi]; exact h _ (List.getElem_mem hi)
  · rw [List.getElem?_eq_none (by omega)]; simp [R32]

theorem add_assoc3 (a b c : Int) : addI a (addI b c) = addI (addI a b) c := by unfold addI; omega

/-- the rolling window's word -/
theorem roll (w s0 w9 s1 : Int) : addI w (addI (addI s0 w9) s1) = addI (addI (addI s1 w9) s0) w := by unfold addI; omega

/-- eight numbers of 32 bits -/
def Eight (v : List Int) : Prop := v.length = 8 ∧ ∀ z ∈ v, R32 z
theorem Eight.out {v : List Int} (h : Eight v) : ∃ a b c d e f g k, v = [a, b, c, d, e, f, g, k] ∧ R32 a ∧ R32 b ∧ R32 c ∧ R32 d ∧ R32 e ∧ R32 f ∧ R32 g ∧ R32 k := by
  obtain ⟨hl, hr⟩ := h
  match v, hl, hr with
  | [a, b, c, d, e, f, g, k], _, hr => exact ⟨a, b, c, d, e, f, g, k, rfl, hr _ (by simp), hr _ (by simp), hr _ (by simp), hr _ (by simp), hr _ (by simp), hr _ (by simp), hr _ (by simp), hr _ (by simp)⟩
theorem Eight.round {v : List Int} (h : Eight v) (k w : Int) : Eight (round k w v) := by
  obtain ⟨a, b, c, d, e, f, g, i, rfl, ha, hb, hc, hd, he, hf, hg, hi⟩ := h.out
  refine ⟨rfl, fun z hz => ?_⟩
  simp only [Sum.round, List.mem_cons, List.mem_nil_iff, or_false] at hz
  rcases hz with rfl | rfl | rfl | rfl | rfl | rfl | rfl | rfl
  · exact r32_add _ _
  · exact ha
  · exact hb
  · exact hc
  · exact r32_add _ _
  · exact he
  · exact hf
  · exact hg
theorem Eight.rounds {v : List Int} (h : Eight v) (W : List Int) : ∀ t, Eight (rounds W t v)
  | 0 => h
  | t + 1 => (Eight.rounds h W t).round _ _
theorem Eight.sumUp (h v : List Int) : Eight (sumUp h v) := ⟨by simp [Sum.sumUp], fun z hz => by
  simp only [Sum.sumUp, List.mem_map] at hz
  obtain ⟨i, _, rfl⟩ := hz
  exact r32_add _ _⟩
theorem eight_H0 : Eight H0 := ⟨rfl, by unfold R32; decide +kernel⟩
theorem eight_blocks (m : List Int) : ∀ n, Eight (blocksI m n)
  | 0 => eight_H0
  | n + 1 => Eight.sumUp _ _

theorem pad_length (n : Nat) : (padI n).length = 9 + (119 - n % 64) % 64 := by simp [padI]; omega
theorem pad_whole (n : Nat) : (n + (padI n).length) % 64 = 0 := by rw [pad_length]; omega
theorem out_length (h : List Int) : (outB h).length = 32 := by simp [outB]
theorem out_bytes (h : List Int) : Bs (outB h) := fun z hz => by
  simp only [outB, List.mem_map] at hz
  obtain ⟨i, _, rfl⟩ := hz
  omega
theorem sha_length (m : List Int) : (sha m).length = 32 := out_length _
theorem sha_bytes (m : List Int) : Bs (sha m) := out_bytes _
theorem pad_bytes (n : Nat) : Bs (padI n) := fun z hz => by
  simp only [padI, List.mem_cons, List.mem_append, List.mem_replicate, List.mem_map] at hz
  rcases hz with rfl | ⟨_, rfl⟩ | ⟨i, _, rfl⟩
  · omega
  · omega
  · omega

theorem abc : sha [97, 98, 99] = [0xba, 0x78, 0x16, 0xbf, 0x8f, 0x01, 0xcf, 0xea, 0x41, 0x41, 0x40, 0xde, 0x5d, 0xae, 0x22, 0x23, 0xb0, 0x03, 0x61, 0xa3, 0x96, 0x17, 0x7a, 0x9c, 0xb4, 0x10, 0xff, 0x61, 0xf2, 0x00, 0x15, 0xad] := by
  decide +kernel
end Go.Proofs.Ytdfnacnklmmjhaa.Sum

