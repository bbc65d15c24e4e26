/-
  SHA-256 as plain functions on lists of numbers, and what is true of them: no program here. Conditions: numbers of 32 bits, bytes of 8.
  ChaCha20 as plain functions: no program here. No conditions beyond those stated.
  What follows of ChaCha20 as plain functions: a quarter round turned back; bytes turned twice; a part from a whole block on. No program here. No conditions beyond those stated.
  Bytes turned by ChaCha20, as a plain function: turned twice; from a whole block on; of zeros. No program here. No conditions beyond those stated.
  Numbers as bytes, and Poly1305, as plain functions: no program here. No conditions beyond those stated.
  Numbers in limbs of 26 bits, and how they are multiplied modulo 2^130 - 5: no program here. No conditions beyond those stated.
  Pieces, the tag's bytes, and what loops leave behind them: no program here. No conditions beyond those stated.
  AEAD_CHACHA20_POLY1305 as plain functions: no program here. No conditions beyond those stated.
  Words for slices of numbers in memory, and small facts about them: no program here. No conditions beyond those stated.
  Slices that a call itself has made: what they hold, what append and a store make of them: no program here. No conditions beyond those stated.
  Arrays of numbers, in blocks of their own and by value: no program here. No conditions beyond those stated.
  Two arrays of the same integers are alike, by the model's own '=='.
  Slices of values of one cell each (slices of slices among them): no program here. No conditions beyond those stated.
  append(s, make([]T, m)...) onto what the call owns, for numbers: no program here. No conditions beyond those stated.
  A region that draws its order, gone through by hand, operation by operation: what hangs on no world is taken first, what comes up alone is carried out. No program here. No conditions beyond those stated.
  A range over a function whose iterator keeps cells of its own, and whose body never leaves early: what the iterator is told of the rounds, and what the loop owes: no program here. No conditions beyond those stated.
  A range over a function whose iterator keeps cells of its own, and whose body may leave early (or whose iterator never ends by itself): what the iterator is told of the rounds, counted, and what the loop owes: no program here. No conditions beyond those stated.
  Arrays in boxes, read, stored and copied into, within a fence; what an iterator's round keeps: no program here. No conditions beyond those stated.
  copy into a block that is known whole: no program here. No conditions beyond those stated.
  Where every activation may run, what is shown of a region without a fence holds within a round, and within an iterator, too: no program here. No conditions beyond those stated.
  Operations of a drawn region, one by one: min, len, s[:h] of an array, append within the room, a store into a box; what a row is to a step that touches no cells: no program here. No conditions beyond those stated.
-/
import Derived.WalkKit
import Derived.OpenShut
import Derived.Laws.BitsAllLaws
import Derived.ProofKit
import Derived.Below
import Derived.Lib.Hide
import Derived.Deep.Draws
import Derived.Deep.QuietTactic
import Derived.BigQuiet
import Derived.Laws.OwnMore
import Derived.Maps.AppendAt
import Derived.OwnWalk
import Derived.RegionTactic
import Derived.Laws.BytesArg
import Derived.Laws.Rows
import Derived.Laws.Tables
import Derived.ChangeKeysEq
import Derived.Deep.OwnRows
import Derived.Laws.Slices
import Derived.Laws.StructEq
import Derived.Lib.AppendZerosOnto
import Derived.Deep.RegionHeld
import Derived.Great.BuildSlice
import Derived.Great.FillDense
import Derived.Shelf.Abstract
import Derived.RangeFuncNested
import Derived.RangeFuncBound
import Derived.RangeFuncCalls
import Derived.RangeFuncLeaves
import Derived.Shelf.RegionOpen
import Derived.OwnWalkIn
import Derived.TacticsInMore
import Derived.LoopNIn
import Derived.LoopIn
import Derived.Laws.CopyOwn
import Derived.OrdersIn
import Derived.OneCell
import Derived.Laws.Small
namespace Go.Proofs.YtebcejncjljmhaaDoor.Sum
open Go.RowKit
set_option linter.unusedVariables false

/-- a number of 32 bits -/
def R32 (x : Int) : Prop := 0 ≤ x ∧ x < 4294967296
def addI (x y : Int) : Int := (x + y) % 4294967296
def rotI (x : Int) (n : Nat) : Int := bits .or .u32 (x / 2 ^ n) (x * 2 ^ (32 - n) % 4294967296)
def xorI (x y : Int) : Int := bits .xor .u32 x y
def andI (x y : Int) : Int := bits .and .u32 x y
def bigI (x : Int) (p q r : Nat) : Int := xorI (xorI (rotI x p) (rotI x q)) (rotI x r)
def smallI (x : Int) (p q r : Nat) : Int := xorI (xorI (rotI x p) (rotI x q)) (x / 2 ^ r)
def chI (e f g : Int) : Int := xorI g (andI e (xorI f g))
def majI (a b c : Int) : Int := xorI (xorI (andI a b) (andI a c)) (andI b c)

theorem r32_add (x y : Int) : R32 (addI x y) := by unfold R32 addI; omega
theorem r32_bits (o : BinOp) (x y : Int) : R32 (bits o .u32 x y) := by
  have h := wf_bits o .u32 x y
  simp [Lit.wf, IntKind.min, IntKind.max, IntKind.signed, IntKind.bits] at h
  unfold R32
  omega
theorem r32_rot (x : Int) (n : Nat) : R32 (rotI x n) := r32_bits _ _ _
theorem r32_xor (x y : Int) : R32 (xorI x y) := r32_bits _ _ _
theorem r32_and (x y : Int) : R32 (andI x y) := r32_bits _ _ _
theorem r32_shr {x : Int} (h : R32 x) (n : Nat) : R32 (x / 2 ^ n) := by
  unfold R32 at *
  have h1 : (0 : Int) < 2 ^ n := Int.pow_pos (by omega)
  refine ⟨Int.ediv_nonneg h.1 (by omega), ?_⟩
  have := Int.ediv_le_self (2 ^ n) h.1
  omega

theorem or_comm32 {x y : Int} (hx : R32 x) (hy : R32 y) : bits .or .u32 x y = bits .or .u32 y x := by
  rw [u32_or x y hx.1 hx.2 hy.1 hy.2, u32_or y x hy.1 hy.2 hx.1 hx.2, Nat.or_comm]

/-- the choice as the standard spells it -/
theorem ch_eq {x y z : Int} (hx : R32 x) (hy : R32 y) (hz : R32 z) : bits .xor .u32 (bits .and .u32 x y) (bits .and .u32 (4294967295 - x) z) = chI x y z := by
  unfold chI xorI andI
  have n1 : R32 (4294967295 - x) := by unfold R32 at *; omega
  have a1 := r32_bits .and x y
  have a2 := r32_bits .and (4294967295 - x) z
  have a3 := r32_bits .xor y z
  have a4 := r32_bits .and x (bits .xor .u32 y z)
  rw [u32_xor _ _ a1.1 a1.2 a2.1 a2.2, u32_xor _ _ hz.1 hz.2 a4.1 a4.2, u32_and _ _ hx.1 hx.2 hy.1 hy.2, u32_and _ _ n1.1 n1.2 hz.1 hz.2, u32_and _ _ hx.1 hx.2 a3.1 a3.2, u32_xor _ _ hy.1 hy.2 hz.1 hz.2]
  simp only [Int.toNat_natCast]
  congr 1
  obtain ⟨a, rfl⟩ := Int.eq_ofNat_of_zero_le hx.1
  obtain ⟨b, rfl⟩ := Int.eq_ofNat_of_zero_le hy.1
  obtain ⟨c, rfl⟩ := Int.eq_ofNat_of_zero_le hz.1
  unfold R32 at hx hy hz
  have e : (4294967295 - (a : Int)).toNat = 2 ^ 32 - (a + 1) := by omega
  rw [e]
  simp only [Int.toNat_natCast]
  apply Nat.eq_of_testBit_eq
  intro i
  simp only [Nat.testBit_xor, Nat.testBit_and, Nat.testBit_two_pow_sub_succ (show a < 2 ^ 32 by omega)]
  by_cases hi : i < 32
  · simp only [hi, decide_true, Bool.true_and]
    cases a.testBit i <;> cases b.testBit i <;> cases c.testBit i <;> rfl
  · have hc : c.testBit i = false := Nat.testBit_lt_two_pow (Nat.lt_of_lt_of_le (show c < 2 ^ 32 by omega) (Nat.pow_le_pow_right (by omega) (by omega)))
    have ha : a.testBit i = false := Nat.testBit_lt_two_pow (Nat.lt_of_lt_of_le (show a < 2 ^ 32 by omega) (Nat.pow_le_pow_right (by omega) (by omega)))
    simp [hc, ha]

theorem not32 {x : Int} (h : R32 x) : bits .xor .u32 4294967295 x = 4294967295 - x := by
  rw [u32_xor _ _ (by omega) (by omega) h.1 h.2]
  obtain ⟨a, rfl⟩ := Int.eq_ofNat_of_zero_le h.1
  unfold R32 at h
  have e : (4294967295 : Int).toNat = 2 ^ 32 - 1 := rfl
  rw [e, Int.toNat_natCast]
  have e2 : ((2 ^ 32 - 1) ^^^ a) = 2 ^ 32 - (a + 1) := by
    apply Nat.eq_of_testBit_eq
    intro i
    simp only [Nat.testBit_xor, Nat.testBit_two_pow_sub_one, Nat.testBit_two_pow_sub_succ (show a < 2 ^ 32 by omega)]
    by_cases hi : i < 32
    · simp [hi]
    · have ha : a.testBit i = false := Nat.testBit_lt_two_pow (Nat.lt_of_lt_of_le (show a < 2 ^ 32 by omega) (Nat.pow_le_pow_right (by omega) (by omega)))
      simp [hi, ha]
  rw [e2]
  omega
theorem ch_eq' {x y z : Int} (hx : R32 x) (hy : R32 y) (hz : R32 z) : bits .xor .u32 (bits .and .u32 x y) (bits .and .u32 (bits .xor .u32 4294967295 x) z) = chI x y z := by
  rw [not32 hx, ch_eq hx hy hz]

/-- the 64 constants -/
def K : List Int := [0x428a2f98, 0x71374491, 0xb5c0fbcf, 0xe9b5dba5, 0x3956c25b, 0x59f111f1, 0x923f82a4, 0xab1c5ed5,
  0xd807aa98, 0x12835b01, 0x243185be, 0x550c7dc3, 0x72be5d74, 0x80deb1fe, 0x9bdc06a7, 0xc19bf174,
  0xe49b69c1, 0xefbe4786, 0x0fc19dc6, 0x240ca1cc, 0x2de92c6f, 0x4a7484aa, 0x5cb0a9dc, 0x76f988da,
  0x983e5152, 0xa831c66d, 0xb00327c8, 0xbf597fc7, 0xc6e00bf3, 0xd5a79147, 0x06ca6351, 0x14292967,
  0x27b70a85, 0x2e1b2138, 0x4d2c6dfc, 0x53380d13, 0x650a7354, 0x766a0abb, 0x81c2c92e, 0x92722c85,
  0xa2bfe8a1, 0xa81a664b, 0xc24b8b70, 0xc76c51a3, 0xd192e819, 0xd6990624, 0xf40e3585, 0x106aa070,
  0x19a4c116, 0x1e376c08, 0x2748774c, 0x34b0bcb5, 0x391c0cb3, 0x4ed8aa4a, 0x5b9cca4f, 0x682e6ff3,
  0x748f82ee, 0x78a5636f, 0x84c87814, 0x8cc70208, 0x90befffa, 0xa4506ceb, 0xbef9a3f7, 0xc67178f2]
def H0 : List Int := [0x6a09e667, 0xbb67ae85, 0x3c6ef372, 0xa54ff53a, 0x510e527f, 0x9b05688c, 0x1f83d9ab, 0x5be0cd19]

/-- one word more of a schedule -/
def nextW (ws : List Int) : Int := addI (addI (addI (smallI (ws.getD (ws.length - 2) 0) 17 19 10) (ws.getD (ws.length - 7) 0)) (smallI (ws.getD (ws.length - 15) 0) 7 18 3)) (ws.getD (ws.length - 16) 0)
def sched : Nat → List Int → List Int
  | 0, ws => ws
  | n + 1, ws => sched n (ws ++ [nextW ws])

/-- one round -/
def round (k w : Int) : List Int → List Int
  | [a, b, c, d, e, f, g, h] => [addI (addI (addI (addI (addI h (bigI e 6 11 25)) (chI e f g)) k) w) (addI (bigI a 2 13 22) (majI a b c)), a, b, c, addI d (addI (addI (addI (addI h (bigI e 6 11 25)) (chI e f g)) k) w), e, f, g]
  | v => v
def rounds (W : List Int) : Nat → List Int → List Int
  | 0, v => v
  | t + 1, v => round (K.getD t 0) (W.getD t 0) (rounds W t v)

/-- four bytes as a word -/
def word (bs : List Int) (t : Nat) : Int := ((bs.getD (4 * t) 0 * 256 + bs.getD (4 * t + 1) 0) * 256 + bs.getD (4 * t + 2) 0) * 256 + bs.getD (4 * t + 3) 0
def words (bs : List Int) : List Int := (List.range 16).map (word bs)
def W (bs : List Int) : List Int := sched 48 (words bs)
def sumUp (h v : List Int) : List Int := (List.range 8).map fun i => addI (h.getD i 0) (v.getD i 0)
/-- what there is behind a block -/
def block (h bs : List Int) : List Int := sumUp h (rounds (W bs) 64 h)
/-- the first n blocks -/
def blocksI (m : List Int) : Nat → List Int
  | 0 => H0
  | n + 1 => block (blocksI m n) ((m.drop (64 * n)).take 64)
/-- a word as four bytes -/
def outB (h : List Int) : List Int := (List.range 32).map fun i => h.getD (i / 4) 0 / 2 ^ (24 - 8 * (i % 4)) % 256
/-- what stands behind a message of n bytes -/
def padI (n : Nat) : List Int := 128 :: (List.replicate ((119 - n % 64) % 64) 0 ++ (List.range 8).map fun i => ((8 * n : Nat) : Int) / 2 ^ (56 - 8 * i) % 256)
def sha (m : List Int) : List Int := outB (blocksI (m ++ padI m.length) ((m.length + (padI m.length).length) / 64))

theorem sched_length : ∀ (n : Nat) (ws : List Int), (sched n ws).length = ws.length + n
  | 0, ws => rfl
  | n + 1, ws => by rw [sched, sched_length n]; simp; omega
theorem sched_old : ∀ (n : Nat) (ws : List Int) (t : Nat), t < ws.length → (sched n ws).getD t 0 = ws.getD t 0
  | 0, ws, t, _ => rfl
  | n + 1, ws, t, h => by
    rw [sched, sched_old n _ t (by simp; omega)]
    simp only [List.getD_eq_getElem?_getD]
    rw [List.getElem?_append_left h]
theorem sched_new : ∀ (n : Nat) (ws : List Int) (t : Nat), 16 ≤ ws.length → ws.length ≤ t → t < ws.length + n →
    (sched n ws).getD t 0 = addI (addI (addI (smallI ((sched n ws).getD (t - 2) 0) 17 19 10) ((sched n ws).getD (t - 7) 0)) (smallI ((sched n ws).getD (t - 15) 0) 7 18 3)) ((sched n ws).getD (t - 16) 0)
  | 0, ws, t, _, h1, h2 => by omega
  | n + 1, ws, t, h0, h1, h2 => by
    rw [sched]
    by_cases h : t = ws.length
    · subst h
      rw [sched_old n _ _ (by simp), sched_old n _ _ (by simp; omega), sched_old n _ _ (by simp; omega), sched_old n _ _ (by simp; omega), sched_old n _ _ (by simp; omega)]
      have e : ∀ k, k < ws.length → (ws ++ [nextW ws]).getD k 0 = ws.getD k 0 := fun k hk => by
        simp only [List.getD_eq_getElem?_getD]; rw [List.getElem?_append_left hk]
      rw [e (ws.length - 2) (by omega), e (ws.length - 7) (by omega), e (ws.length - 15) (by omega), e (ws.length - 16) (by omega)]
      simp [nextW]
    · exact sched_new n _ t (by simp; omega) (by simp; omega) (by simp; omega)

theorem words_length (bs : List Int) : (words bs).length = 16 := by simp [words]
theorem W_length (bs : List Int) : (W bs).length = 64 := by unfold W; rw [sched_length, words_length]
theorem W_word (bs : List Int) {t : Nat} (h : t < 16) : (W bs).getD t 0 = word bs t := by
  unfold W
  rw [sched_old _ _ _ (by rw [words_length]; exact h)]
  simp [words, List.getD_eq_getElem?_getD, h]
theorem W_next (bs : List Int) {t : Nat} (h : 16 ≤ t) (h' : t < 64) :
    (W bs).getD t 0 = addI (addI (addI (smallI ((W bs).getD (t - 2) 0) 17 19 10) ((W bs).getD (t - 7) 0)) (smallI ((W bs).getD (t - 15) 0) 7 18 3)) ((W bs).getD (t - 16) 0) :=
  sched_new 48 (words bs) t (by rw [words_length]; omega) (by rw [words_length]; omega) (by rw [words_length]; omega)

/-- all numbers of a list are bytes -/
def Bs (bs : List Int) : Prop := ∀ z ∈ bs, 0 ≤ z ∧ z ≤ 255
theorem Bs.at_ {bs : List Int} (h : Bs bs) (i : Nat) : 0 ≤ bs.getD i 0 ∧ bs.getD i 0 ≤ 255 := by
  rw [List.getD_eq_getElem?_getD]
  by_cases hi : i < bs.length
  · rw [List.getElem?_eq_getElem hi]; exact h _ (List.getElem_mem hi)
  · rw [List.getElem?_eq_none (by omega)]; simp
theorem r32_word {bs : List Int} (h : Bs bs) (t : Nat) : R32 (word bs t) := by
  have a := h.at_ (4 * t)
  have b := h.at_ (4 * t + 1)
  have c := h.at_ (4 * t + 2)
  have d := h.at_ (4 * t + 3)
  unfold R32 word
  omega
theorem r32_W {bs : List Int} (h : Bs bs) (t : Nat) : R32 ((W bs).getD t 0) := by
  by_cases h1 : t < 16
  · rw [W_word bs h1]; exact r32_word h t
  · by_cases h2 : t < 64
    · rw [W_next bs (by omega) h2]; exact r32_add _ _
    · rw [List.getD_eq_getElem?_getD, List.getElem?_eq_none (by rw [W_length]; omega)]
      simp [R32]
theorem K_length : K.length = 64 := rfl
theorem r32_K (t : Nat) : R32 (K.getD t 0) := by
  have h : ∀ z ∈ K, R32 z := by unfold R32; decide +kernel
  rw [List.getD_eq_getElem?_getD]
  by_cases hi : t < K.length
  · rw [List.getElem?_eq_getElem hi]; exact h _ (List.getElem_mem hi)
  · rw [List.getElem?_eq_none (by omega)]; simp [R32]

theorem add_assoc3 (a b c : Int) : addI a (addI b c) = addI (addI a b) c := by unfold addI; omega

/-- the rolling window's word -/
theorem roll (w s0 w9 s1 : Int) : addI w (addI (addI s0 w9) s1) = addI (addI (addI s1 w9) s0) w := by unfold addI; omega

/-- eight numbers of 32 bits -/
def Eight (v : List Int) : Prop := v.length = 8 ∧ ∀ z ∈ v, R32 z
theorem Eight.out {v : List Int} (h : Eight v) : ∃ a b c d e f g k, v = [a, b, c, d, e, f, g, k] ∧ R32 a ∧ R32 b ∧ R32 c ∧ R32 d ∧ R32 e ∧ R32 f ∧ R32 g ∧ R32 k := by
  obtain ⟨hl, hr⟩ := h
  match v, hl, hr with
  | [a, b, c, d, e, f, g, k], _, hr => exact ⟨a, b, c, d, e, f, g, k, rfl, hr _ (by simp), hr _ (by simp), hr _ (by simp), hr _ (by simp), hr _ (by simp), hr _ (by simp), hr _ (by simp), hr _ (by simp)⟩
theorem Eight.round {v : List Int} (h : Eight v) (k w : Int) : Eight (round k w v) := by
  obtain ⟨a, b, c, d, e, f, g, i, rfl, ha, hb, hc, hd, he, hf, hg, hi⟩ := h.out
  refine ⟨rfl, fun z hz => ?_⟩
  simp only [Sum.round, List.mem_cons, List.mem_nil_iff, or_false] at hz
  rcases hz with rfl | rfl | rfl | rfl | rfl | rfl | rfl | rfl
  · exact r32_add _ _
  · exact ha
  · exact hb
  · exact hc
  · exact r32_add _ _
  · exact he
  · exact hf
  · exact hg
theorem Eight.rounds {v : List Int} (h : Eight v) (W : List Int) : ∀ t, Eight (rounds W t v)
  | 0 => h
  | t + 1 => (Eight.rounds h W t).round _ _
theorem Eight.sumUp (h v : List Int) : Eight (sumUp h v) := ⟨by simp [Sum.sumUp], fun z hz => by
  simp only [Sum.sumUp, List.mem_map] at hz
  obtain ⟨i, _, rfl⟩ := hz
  exact r32_add _ _⟩
theorem eight_H0 : Eight H0 := ⟨rfl, by unfold R32; decide +kernel⟩
theorem eight_blocks (m : List Int) : ∀ n, Eight (blocksI m n)
  | 0 => eight_H0
  | n + 1 => Eight.sumUp _ _

theorem pad_length (n : Nat) : (padI n).length = 9 + (119 - n % 64) % 64 := by simp [padI]; omega
theorem pad_whole (n : Nat) : (n + (padI n).length) % 64 = 0 := by rw [pad_length]; omega
theorem out_length (h : List Int) : (outB h).length = 32 := by simp [outB]
theorem out_bytes (h : List Int) : Bs (outB h) := fun z hz => by
  simp only [outB, List.mem_map] at hz
  obtain ⟨i, _, rfl⟩ := hz
  omega
theorem sha_length (m : List Int) : (sha m).length = 32 := out_length _
theorem sha_bytes (m : List Int) : Bs (sha m) := out_bytes _
theorem pad_bytes (n : Nat) : Bs (padI n) := fun z hz => by
  simp only [padI, List.mem_cons, List.mem_append, List.mem_replicate, List.mem_map] at hz
  rcases hz with rfl | ⟨_, rfl⟩ | ⟨i, _, rfl⟩
  · omega
  · omega
  · omega

theorem abc : sha [97, 98, 99] = [0xba, 0x78, 0x16, 0xbf, 0x8f, 0x01, 0xcf, 0xea, 0x41, 0x41, 0x40, 0xde, 0x5d, 0xae, 0x22, 0x23, 0xb0, 0x03, 0x61, 0xa3, 0x96, 0x17, 0x7a, 0x9c, 0xb4, 0x10, 0xff, 0x61, 0xf2, 0x00, 0x15, 0xad] := by
  decide +kernel
end Go.Proofs.YtebcejncjljmhaaDoor.Sum
namespace Go.Proofs.YtebcejncjljmhaaDoor.Cc
open Go.Proofs.YtebcejncjljmhaaDoor.Sum
set_option linter.unusedVariables false

/-- turned to the left -/
def lft (x : Int) (n : Nat) : Int := rotI x (32 - n)
/-- the quarter round -/
def qr (a b c d : Int) : Int × Int × Int × Int :=
  let a1 := addI a b
  let d1 := lft (xorI d a1) 16
  let c1 := addI c d1
  let b1 := lft (xorI b c1) 12
  let a2 := addI a1 b1
  let d2 := lft (xorI d1 a2) 8
  let c2 := addI c1 d2
  let b2 := lft (xorI b1 c2) 7
  (a2, b2, c2, d2)
/-- a quarter round at four places -/
def at4 (s : List Int) (i j k l : Nat) : List Int :=
  let q := qr (s.getD i 0) (s.getD j 0) (s.getD k 0) (s.getD l 0)
  (((s.set i q.1).set j q.2.1).set k q.2.2.1).set l q.2.2.2
/-- columns, and diagonals -/
def columns (s : List Int) : List Int := at4 (at4 (at4 (at4 s 0 4 8 12) 1 5 9 13) 2 6 10 14) 3 7 11 15
def diagonals (s : List Int) : List Int := at4 (at4 (at4 (at4 s 0 5 10 15) 1 6 11 12) 2 7 8 13) 3 4 9 14
def twice (s : List Int) : List Int := diagonals (columns s)
def turns : Nat → List Int → List Int
  | 0, s => s
  | n + 1, s => twice (turns n s)
/-- four bytes as a number, the lowest first -/
def lew (bs : List Int) (t : Nat) : Int := ((bs.getD (4 * t + 3) 0 * 256 + bs.getD (4 * t + 2) 0) * 256 + bs.getD (4 * t + 1) 0) * 256 + bs.getD (4 * t) 0
def sigma : List Int := [0x61707865, 0x3320646e, 0x79622d32, 0x6b206574]
def first (key : List Int) (ctr : Int) (nonce : List Int) : List Int := sigma ++ ((List.range 8).map (lew key) ++ (ctr :: (List.range 3).map (lew nonce)))
/-- the block's byte number i, out of the turned state and the first one -/
def byteOf (v s : List Int) (i : Nat) : Int := addI (v.getD (i / 4) 0) (s.getD (i / 4) 0) / 2 ^ (8 * (i % 4)) % 256
def block (key : List Int) (ctr : Int) (nonce : List Int) : List Int := (List.range 64).map (byteOf (turns 10 (first key ctr nonce)) (first key ctr nonce))
/-- the stream's byte number i -/
def streamAt (key : List Int) (ctr : Int) (nonce : List Int) (i : Nat) : Int := (block key (addI ctr ((i / 64 : Nat) : Int)) nonce).getD (i % 64) 0
/-- bytes, turned -/
def xors (key nonce : List Int) (ctr : Int) (bs : List Int) : List Int := (List.range bs.length).map fun i => bits .xor .u8 (bs.getD i 0) (streamAt key ctr nonce i)

theorem r32_lft (x : Int) (n : Nat) : R32 (lft x n) := r32_rot _ _
theorem r32_qr (a b c d : Int) : R32 (qr a b c d).1 ∧ R32 (qr a b c d).2.1 ∧ R32 (qr a b c d).2.2.1 ∧ R32 (qr a b c d).2.2.2 := ⟨r32_add _ _, r32_lft _ _, r32_add _ _, r32_lft _ _⟩
/-- sixteen numbers -/
def Sixteen (s : List Int) : Prop := s.length = 16 ∧ ∀ z ∈ s, R32 z
theorem Sixteen.at4 {s : List Int} (h : Sixteen s) (i j k l : Nat) : Sixteen (at4 s i j k l) := by
  refine ⟨by simp [Cc.at4, h.1], fun z hz => ?_⟩
  obtain ⟨q1, q2, q3, q4⟩ := r32_qr (s.getD i 0) (s.getD j 0) (s.getD k 0) (s.getD l 0)
  rcases List.mem_or_eq_of_mem_set hz with hz | rfl
  · rcases List.mem_or_eq_of_mem_set hz with hz | rfl
    · rcases List.mem_or_eq_of_mem_set hz with hz | rfl
      · rcases List.mem_or_eq_of_mem_set hz with hz | rfl
        · exact h.2 z hz
        · exact q1
      · exact q2
    · exact q3
  · exact q4
attribute [irreducible] at4
theorem Sixteen.twice {s : List Int} (h : Sixteen s) : Sixteen (twice s) := by
  unfold Cc.twice diagonals columns
  exact (((((((h.at4 _ _ _ _).at4 _ _ _ _).at4 _ _ _ _).at4 _ _ _ _).at4 _ _ _ _).at4 _ _ _ _).at4 _ _ _ _).at4 _ _ _ _
theorem Sixteen.turns {s : List Int} (h : Sixteen s) : ∀ n, Sixteen (turns n s)
  | 0 => h
  | n + 1 => (Sixteen.turns h n).twice
theorem Sixteen.get {s : List Int} (h : Sixteen s) {i : Nat} (hi : i < 16) : R32 (s.getD i 0) := by
  have hl : i < s.length := by rw [h.1]; exact hi
  rw [List.getD_eq_getElem?_getD, List.getElem?_eq_getElem hl]
  exact h.2 _ (List.getElem_mem hl)
theorem r32_lew {bs : List Int} (h : Bs bs) (t : Nat) : R32 (lew bs t) := by
  have h0 := h.at_ (4 * t)
  have h1 := h.at_ (4 * t + 1)
  have h2 := h.at_ (4 * t + 2)
  have h3 := h.at_ (4 * t + 3)
  unfold R32 lew
  omega
theorem first_length (key : List Int) (ctr : Int) (nonce : List Int) : (first key ctr nonce).length = 16 := by simp [first, sigma]
theorem sixteen_first {key nonce : List Int} {ctr : Int} (hk : Bs key) (hn : Bs nonce) (hc : R32 ctr) : Sixteen (first key ctr nonce) := by
  refine ⟨first_length _ _ _, fun z hz => ?_⟩
  rcases List.mem_append.1 hz with h | h
  · have : ∀ z ∈ sigma, R32 z := by unfold R32; decide
    exact this z h
  · rcases List.mem_append.1 h with h | h
    · obtain ⟨t, _, rfl⟩ := List.mem_map.1 h
      exact r32_lew hk t
    · rcases List.mem_cons.1 h with rfl | h
      · exact hc
      · obtain ⟨t, _, rfl⟩ := List.mem_map.1 h
        exact r32_lew hn t
theorem block_length (key : List Int) (ctr : Int) (nonce : List Int) : (block key ctr nonce).length = 64 := by simp [block]
theorem byteOf_bound (v s : List Int) (i : Nat) : 0 ≤ byteOf v s i ∧ byteOf v s i ≤ 255 := by unfold byteOf; omega
theorem block_bytes (key : List Int) (ctr : Int) (nonce : List Int) : Bs (block key ctr nonce) := fun z hz => by
  obtain ⟨i, _, rfl⟩ := List.mem_map.1 hz
  exact byteOf_bound _ _ _
theorem xors_length (key nonce : List Int) (ctr : Int) (bs : List Int) : (xors key nonce ctr bs).length = bs.length := by simp [xors]
/-- the chapter's example -/
theorem example_qr : qr 0x11111111 0x01020304 0x9b8d6f43 0x01234567 = (0xea2a92f4, 0xcb1cf8ce, 0x4581472e, 0x5881c4bb) := by decide +kernel
end Go.Proofs.YtebcejncjljmhaaDoor.Cc
namespace Go.Proofs.YtebcejncjljmhaaDoor.Cc
open Go.Proofs.YtebcejncjljmhaaDoor.Sum
set_option linter.unusedVariables false

theorem xor_back {x y : Int} (hx : R32 x) (hy : R32 y) : xorI (xorI x y) y = x := by
  have h := r32_xor x y
  unfold xorI at *
  rw [u32_xor _ _ h.1 h.2 hy.1 hy.2, u32_xor _ _ hx.1 hx.2 hy.1 hy.2, Int.toNat_natCast, Nat.xor_assoc, Nat.xor_self, Nat.xor_zero]
  unfold R32 at hx
  omega
theorem sub_back {c d : Int} (hc : R32 c) : (addI c d - d) % 4294967296 = c := by unfold addI R32 at *; omega
/-- turned, on plain numbers -/
def rn (a m : Nat) : Nat := a / 2 ^ m ||| a * 2 ^ (32 - m) % 4294967296
theorem rot_nat {x : Int} (hx : R32 x) {m : Nat} (hm : m ≤ 32) : rotI x m = (rn x.toNat m : Nat) := by
  have h1 := r32_shr hx m
  obtain ⟨a, rfl⟩ := Int.eq_ofNat_of_zero_le hx.1
  have h2 : R32 ((a : Int) * 2 ^ (32 - m) % 4294967296) := ⟨by omega, by omega⟩
  unfold rotI rn
  rw [u32_or _ _ h1.1 h1.2 h2.1 h2.2]
  have e1 : ((a : Int) / 2 ^ m).toNat = a / 2 ^ m := by
    rw [show ((2 : Int) ^ m) = ((2 ^ m : Nat) : Int) by simp, ← Int.natCast_ediv, Int.toNat_natCast]
  have e2 : ((a : Int) * 2 ^ (32 - m) % 4294967296).toNat = a * 2 ^ (32 - m) % 4294967296 := by
    rw [show ((2 : Int) ^ (32 - m)) = ((2 ^ (32 - m) : Nat) : Int) by simp, ← Int.natCast_mul, show (4294967296 : Int) = ((4294967296 : Nat) : Int) from rfl, ← Int.natCast_emod, Int.toNat_natCast]
  rw [e1, e2, Int.toNat_natCast]
theorem rn_bit (a m i : Nat) (ha : a < 2 ^ 32) (hm : 1 ≤ m) (hm' : m ≤ 31) : (rn a m).testBit i = (decide (i < 32) && (if i < 32 - m then a.testBit (i + m) else a.testBit (i + m - 32))) := by
  have hbig : ∀ j, 32 ≤ j → a.testBit j = false := fun j hj => Nat.testBit_lt_two_pow (Nat.lt_of_lt_of_le ha (Nat.pow_le_pow_right (by omega) hj))
  unfold rn
  rw [Nat.testBit_or, Nat.testBit_div_two_pow, show 4294967296 = 2 ^ 32 from rfl, Nat.testBit_mod_two_pow, Nat.testBit_mul_two_pow]
  by_cases h1 : i < 32
  · by_cases h2 : i < 32 - m
    · simp [h1, h2, show ¬ (32 - m ≤ i) by omega]
    · simp [h1, h2, show 32 - m ≤ i by omega, hbig (i + m) (by omega), show i - (32 - m) = i + m - 32 by omega]
  · simp [h1, hbig (i + m) (by omega)]
theorem rn_lt (a m : Nat) (ha : a < 2 ^ 32) (hm : 1 ≤ m) (hm' : m ≤ 31) : rn a m < 2 ^ 32 := by
  refine Nat.lt_pow_two_of_testBit _ fun i hi => ?_
  rw [rn_bit a m i ha hm hm']
  simp [show ¬ i < 32 by omega]
theorem rn_back (a n : Nat) (ha : a < 2 ^ 32) (hn : 1 ≤ n) (hn' : n ≤ 31) : rn (rn a (32 - n)) n = a := by
  apply Nat.eq_of_testBit_eq
  intro i
  rw [rn_bit _ _ _ (rn_lt a _ ha (by omega) (by omega)) hn hn']
  by_cases h1 : i < 32
  · by_cases h2 : i < 32 - n
    · rw [if_pos h2, rn_bit _ _ _ ha (by omega) (by omega)]
      simp [h1, show i + n < 32 by omega, show ¬ (i + n < 32 - (32 - n)) by omega, show i + n + (32 - n) - 32 = i by omega]
    · rw [if_neg h2, rn_bit _ _ _ ha (by omega) (by omega)]
      simp [h1, show i + n - 32 < 32 by omega, show i + n - 32 < 32 - (32 - n) by omega, show i + n - 32 + (32 - n) = i by omega]
  · have : a.testBit i = false := Nat.testBit_lt_two_pow (Nat.lt_of_lt_of_le ha (Nat.pow_le_pow_right (by omega) (by omega)))
    simp [h1, this]
theorem rot_back {x : Int} (hx : R32 x) {n : Nat} (hn : 1 ≤ n) (hn' : n ≤ 31) : rotI (lft x n) n = x := by
  have h1 := r32_lft x n
  have ha : x.toNat < 2 ^ 32 := by have := hx.2; have := hx.1; omega
  rw [rot_nat h1 (by omega), lft, rot_nat hx (by omega), Int.toNat_natCast, rn_back _ _ ha hn hn']
  have := hx.1
  omega
/-- a quarter round turned back, step by step -/
theorem qr_back {a b c d : Int} (ha : R32 a) (hb : R32 b) (hc : R32 c) (hd : R32 d) :
    let q := qr a b c d
    let b1 := xorI (rotI q.2.1 7) q.2.2.1
    let c1 := (q.2.2.1 - q.2.2.2) % 4294967296
    let d1 := xorI (rotI q.2.2.2 8) q.1
    let a1 := (q.1 - b1) % 4294967296
    let b0 := xorI (rotI b1 12) c1
    let c0 := (c1 - d1) % 4294967296
    let d0 := xorI (rotI d1 16) a1
    let a0 := (a1 - b0) % 4294967296
    a0 = a ∧ b0 = b ∧ c0 = c ∧ d0 = d := by
  intro q
  have e : q = qr a b c d := rfl
  unfold qr at e
  simp only at e
  generalize e1 : addI a b = a1 at e
  have ra1 : R32 a1 := e1 ▸ r32_add _ _
  generalize e2 : lft (xorI d a1) 16 = d1 at e
  have rd1 : R32 d1 := e2 ▸ r32_lft _ _
  generalize e3 : addI c d1 = c1 at e
  have rc1 : R32 c1 := e3 ▸ r32_add _ _
  generalize e4 : lft (xorI b c1) 12 = b1 at e
  have rb1 : R32 b1 := e4 ▸ r32_lft _ _
  generalize e5 : addI a1 b1 = a2 at e
  generalize e6 : lft (xorI d1 a2) 8 = d2 at e
  have ra2 : R32 a2 := e5 ▸ r32_add _ _
  have rd2 : R32 d2 := e6 ▸ r32_lft _ _
  generalize e7 : addI c1 d2 = c2 at e
  have rc2 : R32 c2 := e7 ▸ r32_add _ _
  generalize e8 : lft (xorI b1 c2) 7 = b2 at e
  rw [e]
  have k1 : xorI (rotI b2 7) c2 = b1 := by rw [← e8, rot_back (r32_xor _ _) (by omega) (by omega), xor_back rb1 rc2]
  have k2 : (c2 - d2) % 4294967296 = c1 := by rw [← e7]; exact sub_back rc1
  have k3 : xorI (rotI d2 8) a2 = d1 := by rw [← e6, rot_back (r32_xor _ _) (by omega) (by omega), xor_back rd1 ra2]
  have k4 : (a2 - b1) % 4294967296 = a1 := by rw [← e5]; exact sub_back ra1
  have k5 : xorI (rotI b1 12) c1 = b := by rw [← e4, rot_back (r32_xor _ _) (by omega) (by omega), xor_back hb rc1]
  have k6 : (c1 - d1) % 4294967296 = c := by rw [← e3]; exact sub_back hc
  have k7 : xorI (rotI d1 16) a1 = d := by rw [← e2, rot_back (r32_xor _ _) (by omega) (by omega), xor_back hd ra1]
  have k8 : (a1 - b) % 4294967296 = a := by rw [← e1]; exact sub_back ha
  simp only [k1, k2, k3, k4, k5, k6, k7, k8, and_self]
end Go.Proofs.YtebcejncjljmhaaDoor.Cc
namespace Go.Proofs.YtebcejncjljmhaaDoor.Cc
open Go.Proofs.YtebcejncjljmhaaDoor.Sum
set_option linter.unusedVariables false

theorem stream_bound (key : List Int) (ctr : Int) (nonce : List Int) (i : Nat) : 0 ≤ streamAt key ctr nonce i ∧ streamAt key ctr nonce i ≤ 255 := (block_bytes key (addI ctr ((i / 64 : Nat) : Int)) nonce).at_ (i % 64)
theorem byte_back {x s : Int} (hx : 0 ≤ x ∧ x ≤ 255) (hs : 0 ≤ s ∧ s ≤ 255) : bits .xor .u8 (bits .xor .u8 x s) s = x := by
  have h1 : x.toNat < 256 := by omega
  have h2 : s.toNat < 256 := by omega
  have h3 : x.toNat ^^^ s.toNat < 2 ^ 8 := Nat.xor_lt_two_pow h1 h2
  rw [u8_xor x s (by omega) (by omega) (by omega) (by omega), u8_xor _ s (by omega) (by omega) (by omega) (by omega), Int.toNat_natCast, Nat.xor_assoc, Nat.xor_self, Nat.xor_zero]
  omega
theorem zero_byte {s : Int} (hs : 0 ≤ s ∧ s ≤ 255) : bits .xor .u8 0 s = s := by
  rw [u8_xor 0 s (by omega) (by omega) (by omega) (by omega)]
  simp
  omega
theorem byte_xor_bound {x s : Int} (hx : 0 ≤ x ∧ x ≤ 255) (hs : 0 ≤ s ∧ s ≤ 255) : 0 ≤ bits .xor .u8 x s ∧ bits .xor .u8 x s ≤ 255 := by
  have h3 : x.toNat ^^^ s.toNat < 2 ^ 8 := Nat.xor_lt_two_pow (show x.toNat < 2 ^ 8 by omega) (show s.toNat < 2 ^ 8 by omega)
  rw [u8_xor x s (by omega) (by omega) (by omega) (by omega)]
  omega
theorem xors_get (key nonce : List Int) (ctr : Int) (bs : List Int) {i : Nat} (hi : i < bs.length) : (xors key nonce ctr bs).getD i 0 = bits .xor .u8 (bs.getD i 0) (streamAt key ctr nonce i) := by
  simp [xors, List.getD_eq_getElem?_getD, hi]
theorem xors_bytes (key nonce : List Int) (ctr : Int) {bs : List Int} (h : Bs bs) : Bs (xors key nonce ctr bs) := fun z hz => by
  obtain ⟨i, _, rfl⟩ := List.mem_map.1 hz
  exact byte_xor_bound (h.at_ i) (stream_bound _ _ _ _)
theorem list_eq {xs ys : List Int} (hl : xs.length = ys.length) (h : ∀ i, i < xs.length → xs.getD i 0 = ys.getD i 0) : xs = ys := by
  apply List.ext_getElem hl
  intro i h1 h2
  have := h i h1
  simpa [List.getD_eq_getElem?_getD, h1, h2] using this
theorem xors_back (key nonce : List Int) (ctr : Int) {bs : List Int} (h : Bs bs) : xors key nonce ctr (xors key nonce ctr bs) = bs := by
  refine list_eq (by rw [xors_length, xors_length]) fun i hi => ?_
  rw [xors_length, xors_length] at hi
  rw [xors_get _ _ _ _ (by rw [xors_length]; exact hi), xors_get _ _ _ _ hi, byte_back (h.at_ i) (stream_bound _ _ _ _)]
theorem addI_nat (c : Int) (a b : Nat) : addI (addI c (a : Int)) (b : Int) = addI c ((a + b : Nat) : Int) := by unfold addI; omega
theorem stream_from (key nonce : List Int) (c : Int) (t i : Nat) : streamAt key c nonce (64 * t + i) = streamAt key (addI c (t : Int)) nonce i := by
  unfold streamAt
  rw [addI_nat, show (64 * t + i) / 64 = t + i / 64 by omega, show (64 * t + i) % 64 = i % 64 by omega]
theorem xors_drop (key nonce : List Int) (c : Int) (bs : List Int) (t : Nat) (ht : 64 * t ≤ bs.length) : (xors key nonce c bs).drop (64 * t) = xors key nonce (addI c (t : Int)) (bs.drop (64 * t)) := by
  refine list_eq (by rw [List.length_drop, xors_length, xors_length, List.length_drop]) fun i hi => ?_
  rw [List.length_drop, xors_length] at hi
  have e1 : ((xors key nonce c bs).drop (64 * t)).getD i 0 = (xors key nonce c bs).getD (64 * t + i) 0 := by simp [List.getD_eq_getElem?_getD, List.getElem?_drop]
  have e2 : (bs.drop (64 * t)).getD i 0 = bs.getD (64 * t + i) 0 := by simp [List.getD_eq_getElem?_getD, List.getElem?_drop]
  rw [e1, xors_get _ _ _ _ (by omega), xors_get _ _ _ _ (by rw [List.length_drop]; exact hi), e2, stream_from]
theorem xors_zeros (key nonce : List Int) (c : Int) (n : Nat) {i : Nat} (hi : i < n) : (xors key nonce c (List.replicate n 0)).getD i 0 = (block key (addI c ((i / 64 : Nat) : Int)) nonce).getD (i % 64) 0 := by
  rw [xors_get _ _ _ _ (by simpa using hi), show (List.replicate n (0 : Int)).getD i 0 = 0 by simp [List.getD_eq_getElem?_getD, hi], zero_byte (stream_bound _ _ _ _)]
  rfl
theorem getD_left {xs ys : List Int} {i : Nat} (h : i < xs.length) : (xs ++ ys).getD i 0 = xs.getD i 0 := by simp [List.getD_eq_getElem?_getD, List.getElem?_append_left h]
theorem getD_last {xs : List Int} {y : Int} {i : Nat} (h : i = xs.length) : (xs ++ [y]).getD i 0 = y := by subst h; simp [List.getD_eq_getElem?_getD]
/-- one byte more -/
theorem xors_snoc (key nonce : List Int) (c : Int) (bs : List Int) {k : Nat} (hk : k < bs.length) : xors key nonce c (bs.take (k + 1)) = xors key nonce c (bs.take k) ++ [bits .xor .u8 (bs.getD k 0) (streamAt key c nonce k)] := by
  have l1 : (bs.take (k + 1)).length = k + 1 := by rw [List.length_take]; omega
  have l0 : (bs.take k).length = k := by rw [List.length_take]; omega
  refine list_eq (by rw [xors_length, List.length_append, xors_length, l1, l0]; rfl) fun i hi => ?_
  rw [xors_length, l1] at hi
  rw [xors_get _ _ _ _ (by omega)]
  have e1 : (bs.take (k + 1)).getD i 0 = bs.getD i 0 := by simp [List.getD_eq_getElem?_getD, hi]
  rw [e1]
  by_cases h : i < k
  · rw [getD_left (by rw [xors_length, l0]; exact h), xors_get _ _ _ _ (by omega)]
    congr 1
    simp [List.getD_eq_getElem?_getD, h]
  · have e : i = k := by omega
    subst e
    rw [getD_last (by rw [xors_length, l0])]
end Go.Proofs.YtebcejncjljmhaaDoor.Cc
namespace Go.Proofs.YtebcejncjljmhaaDoor.Po
open Go.Proofs.YtebcejncjljmhaaDoor.Sum
set_option linter.unusedVariables false

/-- the number that places of a byte each say, the lowest first -/
def val : List Int → Int
  | [] => 0
  | x :: xs => x + 256 * val xs
/-- a number's k lowest bytes -/
def digits (n : Int) : Nat → List Int
  | 0 => []
  | k + 1 => n % 256 :: digits (n / 256) k
/-- carried along -/
def carried (c : Int) : List Int → List Int
  | [] => []
  | x :: xs => (c + x) % 256 :: carried ((c + x) / 256) xs

theorem carried_eq : ∀ (xs : List Int) (c : Int), carried c xs = digits (c + val xs) xs.length
  | [], c => rfl
  | x :: xs, c => by
    rw [carried, val, List.length_cons, digits, carried_eq xs, show (c + (x + 256 * val xs)) % 256 = (c + x) % 256 by omega, show (c + (x + 256 * val xs)) / 256 = (c + x) / 256 + val xs by omega]
theorem digits_length : ∀ (k : Nat) (n : Int), (digits n k).length = k
  | 0, _ => rfl
  | k + 1, n => by rw [digits, List.length_cons, digits_length k]
theorem digits_bytes : ∀ (k : Nat) (n : Int), Bs (digits n k)
  | 0, _ => fun z hz => by cases hz
  | k + 1, n => fun z hz => by
    rcases List.mem_cons.1 hz with rfl | h
    · omega
    · exact digits_bytes k _ z h
theorem val_digits : ∀ (k : Nat) (n : Int), val (digits n k) = n % 256 ^ k
  | 0, n => by simp [digits, val]
  | k + 1, n => by
    rw [digits, val, val_digits k, Int.pow_succ, Int.mul_comm (256 ^ k) 256]
    have hN : (0 : Int) < 256 ^ k := Int.pow_pos (by omega)
    generalize (256 : Int) ^ k = N at hN ⊢
    have h1 := Int.emod_nonneg (n / 256) (show N ≠ 0 by omega)
    have h2 := Int.emod_lt_of_pos (n / 256) hN
    have h3 := Int.mul_ediv_add_emod (n / 256) N
    have h4 : n = (n % 256 + 256 * (n / 256 % N)) + 256 * N * (n / 256 / N) := by
      rw [Int.mul_assoc]
      omega
    have h5 : n % (256 * N) = (n % 256 + 256 * (n / 256 % N)) % (256 * N) := by
      conv => lhs; rw [h4]
      rw [Int.add_mul_emod_self_left]
    rw [h5]
    exact (Int.emod_eq_of_lt (by omega) (by omega)).symm
theorem val_nonneg : ∀ {xs : List Int}, (∀ x ∈ xs, 0 ≤ x) → 0 ≤ val xs
  | [], _ => Int.le_refl _
  | x :: xs, h => by
    have h1 := h x List.mem_cons_self
    have h2 := val_nonneg (xs := xs) fun y hy => h y (List.mem_cons_of_mem _ hy)
    rw [val]
    omega
theorem val_lt : ∀ {xs : List Int}, Bs xs → val xs < 256 ^ xs.length
  | [], _ => by simp [val]
  | x :: xs, h => by
    have h1 := h x List.mem_cons_self
    have h2 := val_lt (xs := xs) fun y hy => h y (List.mem_cons_of_mem _ hy)
    rw [val, List.length_cons, Int.pow_succ]
    omega
/-- bytes are the digits of what they say -/
theorem digits_val : ∀ {xs : List Int}, Bs xs → digits (val xs) xs.length = xs
  | [], _ => rfl
  | x :: xs, h => by
    have h1 := h x List.mem_cons_self
    rw [val, List.length_cons, digits, show (x + 256 * val xs) % 256 = x by omega, show (x + 256 * val xs) / 256 = val xs by omega, digits_val fun y hy => h y (List.mem_cons_of_mem _ hy)]
theorem digits_get : ∀ (k : Nat) (n : Int) (i : Nat), i < k → (digits n k).getD i 0 = n / 256 ^ i % 256
  | 0, _, _, h => absurd h (by omega)
  | k + 1, n, 0, _ => by simp [digits]
  | k + 1, n, i + 1, h => by
    rw [digits, List.getD_cons_succ, digits_get k _ i (by omega), Int.pow_succ, Int.mul_comm (256 ^ i) 256, Int.ediv_ediv_of_nonneg (by omega : (0 : Int) ≤ 256)]

def modulus : Int := 2 ^ 130 - 5
/-- one round of the reduction -/
def red (n : Int) : Int := n % 2 ^ 130 + 5 * (n / 2 ^ 130)
theorem red_mod (n : Int) : red n % modulus = n % modulus := by
  have h : n = red n + modulus * (n / 2 ^ 130) := by unfold red modulus; omega
  conv => rhs; rw [h]
  rw [Int.add_mul_emod_self_left]
theorem red_nonneg {n : Int} (h : 0 ≤ n) : 0 ≤ red n := by unfold red; omega
theorem red_four {n : Int} (h : 0 ≤ n) (hn : n < 2 ^ 300) : 0 ≤ red (red (red (red n))) ∧ red (red (red (red n))) < 2 ^ 130 := by unfold red; omega
theorem least_eq {n : Int} (h : 0 ≤ n) (hn : n < 2 ^ 130) : n % modulus = if n + 5 < 2 ^ 130 then n else n + 5 - 2 ^ 130 := by
  unfold modulus
  split <;> omega
/-- a byte of the upper part, out of two bytes -/
theorem high_byte (m : Int) : m % 256 / 4 + (m / 256 % 256 * 64) % 256 = m / 4 % 256 := by omega

/-- the key's first half, clamped -/
def clampAt (key : List Int) (i : Nat) : Int := if i % 4 = 3 then key.getD i 0 % 16 else if i = 4 ∨ i = 8 ∨ i = 12 then key.getD i 0 / 4 * 4 else key.getD i 0
def clamp (key : List Int) : List Int := (List.range 16).map (clampAt key)
/-- one piece -/
def step (r a : Int) (piece : List Int) : Int := (a + val (piece ++ [1])) * r % modulus
/-- the first k pieces, one behind the other -/
def acc (r : Int) (m : List Int) : Nat → Int
  | 0 => 0
  | k + 1 => step r (acc r m k) ((m.drop (16 * k)).take 16)
/-- how many pieces there are -/
def count (m : List Int) : Nat := (m.length + 15) / 16
/-- Poly1305 -/
def poly (key msg : List Int) : List Int := digits (acc (val (clamp key)) msg (count msg) + val ((key.drop 16).take 16)) 16
theorem acc_bound (r : Int) (m : List Int) : ∀ k, 0 ≤ acc r m k ∧ acc r m k < modulus
  | 0 => by simp [acc, modulus]
  | k + 1 => ⟨Int.emod_nonneg _ (by unfold modulus; omega), Int.emod_lt_of_pos _ (by unfold modulus; omega)⟩
theorem val_append : ∀ (xs ys : List Int), val (xs ++ ys) = val xs + 256 ^ xs.length * val ys
  | [], ys => by simp [val]
  | x :: xs, ys => by
    rw [List.cons_append, val, val, val_append xs ys, List.length_cons, Int.pow_succ, Int.mul_comm (256 ^ xs.length) 256, Int.mul_assoc]
    omega
theorem clampAt_bound {key : List Int} (h : Bs key) (i : Nat) : 0 ≤ clampAt key i ∧ clampAt key i ≤ 255 := by
  have := h.at_ i
  unfold clampAt
  split
  · omega
  · split <;> omega
theorem clamp_bytes {key : List Int} (h : Bs key) : Bs (clamp key) := fun z hz => by
  obtain ⟨i, _, rfl⟩ := List.mem_map.1 hz
  exact clampAt_bound h i
theorem poly_length (key msg : List Int) : (poly key msg).length = 16 := digits_length _ _
theorem poly_bytes (key msg : List Int) : Bs (poly key msg) := digits_bytes _ _
theorem clamp_length (key : List Int) : (clamp key).length = 16 := by simp [clamp]
end Go.Proofs.YtebcejncjljmhaaDoor.Po
namespace Go.Proofs.YtebcejncjljmhaaDoor.Po
open Go.Proofs.YtebcejncjljmhaaDoor.Sum
set_option linter.unusedVariables false

/-- what limbs of 26 bits say, the lowest first -/
def lv : List Int → Int
  | [] => 0
  | x :: xs => x + 67108864 * lv xs
/-- the limbs of the number that seventeen bytes say -/
def limbs (n : Int) : List Int := [n % 67108864, n / 67108864 % 67108864, n / 4503599627370496 % 67108864, n / 302231454903657293676544 % 67108864, n / 20282409603651670423947251286016 % 67108864]
theorem lv_limbs {n : Int} (h : 0 ≤ n) (h' : n < 2 ^ 130) : lv (limbs n) = n := by
  unfold limbs
  simp only [lv]
  omega
theorem limbs_bound (n : Int) : ∀ x ∈ limbs n, 0 ≤ x ∧ x < 67108864 := by
  intro x hx
  simp only [limbs, List.mem_cons, List.not_mem_nil, or_false] at hx
  omega
theorem limbs_length (n : Int) : (limbs n).length = 5 := rfl
/-- limb i, out of the five bytes where it begins -/
theorem limb_of {p : List Int} (h : Bs p) (hl : p.length = 17) {i : Nat} (hi : i < 5) : val ((p.drop (3 * i)).take 5) / 2 ^ (2 * i) % 67108864 = (limbs (val p)).getD i 0 := by
  have e1 : p.take (3 * i) ++ p.drop (3 * i) = p := List.take_append_drop _ _
  have e2 : (p.drop (3 * i)).take 5 ++ (p.drop (3 * i)).drop 5 = p.drop (3 * i) := List.take_append_drop _ _
  have v1 := val_append (p.take (3 * i)) (p.drop (3 * i))
  have v2 := val_append ((p.drop (3 * i)).take 5) ((p.drop (3 * i)).drop 5)
  have l1 : (p.take (3 * i)).length = 3 * i := by simp; omega
  have l2 : ((p.drop (3 * i)).take 5).length = 5 := by simp; omega
  have b1 := val_lt (xs := p.take (3 * i)) fun z hz => h z (List.mem_of_mem_take hz)
  have b0 := val_nonneg (xs := p.take (3 * i)) fun z hz => (h z (List.mem_of_mem_take hz)).1
  rw [e1, l1] at v1
  rw [e2, l2] at v2
  rw [l1] at b1
  generalize val (p.take (3 * i)) = A at *
  generalize val ((p.drop (3 * i)).drop 5) = B at *
  generalize val ((p.drop (3 * i)).take 5) = F at *
  rw [v1, v2]
  clear v1 v2 e1 e2 l1 l2
  rcases (show i = 0 ∨ i = 1 ∨ i = 2 ∨ i = 3 ∨ i = 4 by omega) with rfl | rfl | rfl | rfl | rfl <;>
    simp only [limbs, List.getD_cons_zero, List.getD_cons_succ, Nat.reduceMul] at b1 ⊢ <;> omega
theorem val_take_succ (s : List Int) {j : Nat} (h : j < s.length) : val (s.take (j + 1)) = val (s.take j) + s.getD j 0 * 256 ^ j := by
  have e : s.take (j + 1) = s.take j ++ [s.getD j 0] := by
    rw [List.take_succ_eq_append_getElem h, List.getD_eq_getElem?_getD, List.getElem?_eq_getElem h]
    rfl
  rw [e, val_append]
  simp only [val, List.length_take, Nat.min_eq_left (Nat.le_of_lt h)]
  rw [Int.mul_zero, Int.add_zero, Int.mul_comm]
theorem val_zeros : ∀ k : Nat, val (List.replicate k 0) = 0
  | 0 => rfl
  | k + 1 => by rw [List.replicate_succ, val, val_zeros k]; rfl
theorem digits_mod : ∀ (k : Nat) {n m : Int}, n % 256 ^ k = m % 256 ^ k → digits n k = digits m k
  | 0, _, _, _ => rfl
  | k + 1, n, m, h => by
    have hN : (0 : Int) < 256 ^ k := Int.pow_pos (by omega)
    rw [Int.pow_succ, Int.mul_comm (256 ^ k) 256] at h
    have e : ∀ x : Int, x % (256 * 256 ^ k) = x % 256 + 256 * (x / 256 % 256 ^ k) := fun x => by
      generalize (256 : Int) ^ k = N at hN
      have h1 := Int.emod_nonneg (x / 256) (show N ≠ 0 by omega)
      have h2 := Int.emod_lt_of_pos (x / 256) hN
      have h3 := Int.mul_ediv_add_emod (x / 256) N
      have h4 : x = (x % 256 + 256 * (x / 256 % N)) + 256 * N * (x / 256 / N) := by
        rw [Int.mul_assoc]
        omega
      conv => lhs; rw [h4]
      rw [Int.add_mul_emod_self_left]
      exact Int.emod_eq_of_lt (by omega) (by omega)
    rw [e n, e m] at h
    have h1 : n % 256 = m % 256 := by omega
    have h2 : n / 256 % 256 ^ k = m / 256 % 256 ^ k := by omega
    rw [digits, digits, h1, digits_mod k h2]

/-- added limb by limb -/
def addL (a b : List Int) : List Int := List.zipWith (· + ·) a b
theorem lv_addL : ∀ {a b : List Int}, a.length = b.length → lv (addL a b) = lv a + lv b
  | [], [], _ => rfl
  | x :: xs, y :: ys, h => by
    have := lv_addL (a := xs) (b := ys) (by simpa using h)
    simp only [addL, List.zipWith_cons_cons, lv] at this ⊢
    rw [this]
    omega
/-- five numbers -/
theorem five {a : List Int} (h : a.length = 5) : ∃ a0 a1 a2 a3 a4, a = [a0, a1, a2, a3, a4] := by
  match a, h with
  | [a0, a1, a2, a3, a4], _ => exact ⟨a0, a1, a2, a3, a4, rfl⟩
/-- the limbs of r, as they are multiplied by -/
def factors (r : List Int) : List Int := r.map (5 * ·) ++ r
/-- the first i rows of the product, at limb j -/
def psum (a f : List Int) : Nat → Nat → Int
  | 0, _ => 0
  | i + 1, j => psum a f i j + a.getD i 0 * f.getD (5 - i + j) 0
def mulL (a r : List Int) : List Int := (List.range 5).map (psum a (factors r) 5)
theorem mulL_mod {a r : List Int} (ha : a.length = 5) (hr : r.length = 5) : lv (mulL a r) % modulus = lv a * lv r % modulus := by
  obtain ⟨a0, a1, a2, a3, a4, rfl⟩ := five ha
  obtain ⟨r0, r1, r2, r3, r4, rfl⟩ := five hr
  have e : lv [a0, a1, a2, a3, a4] * lv [r0, r1, r2, r3, r4] = lv (mulL [a0, a1, a2, a3, a4] [r0, r1, r2, r3, r4]) + modulus * ((a1*r4+a2*r3+a3*r2+a4*r1) + 67108864*((a2*r4+a3*r3+a4*r2) + 67108864*((a3*r4+a4*r3) + 67108864*(a4*r4)))) := by
    simp [lv, mulL, factors, psum, modulus, List.range, List.range.loop]
    grind
  rw [e, Int.add_mul_emod_self_left]
/-- the first rows stay small -/
theorem psum_bound {a f : List Int} (ha : ∀ x ∈ a, 0 ≤ x ∧ x < 268435456) (hf : ∀ x ∈ f, 0 ≤ x ∧ x < 536870912) : ∀ (i j : Nat), 0 ≤ psum a f i j ∧ psum a f i j ≤ i * 144115188075855872
  | 0, j => by simp [psum]
  | i + 1, j => by
    have ih := psum_bound ha hf i j
    have g : ∀ {l : List Int} {B : Int} (k : Nat), 0 < B → (∀ x ∈ l, 0 ≤ x ∧ x < B) → 0 ≤ l.getD k 0 ∧ l.getD k 0 < B := fun {l B} k hB hl => by
      rw [List.getD_eq_getElem?_getD]
      by_cases hk : k < l.length
      · rw [List.getElem?_eq_getElem hk]; exact hl _ (List.getElem_mem hk)
      · rw [List.getElem?_eq_none (by omega)]; simpa using hB
    have h1 := g i (by omega) ha
    have h2 := g (5 - i + j) (by omega) hf
    rw [psum]
    generalize a.getD i 0 = x at h1
    generalize f.getD (5 - i + j) 0 = y at h2
    have m1 : 0 ≤ x * y := Int.mul_nonneg h1.1 h2.1
    have m2 : x * y ≤ 268435456 * 536870912 := Int.mul_le_mul (by omega) (by omega) h2.1 (by omega)
    omega
theorem factors_length {r : List Int} (h : r.length = 5) : (factors r).length = 10 := by simp [factors, h]
theorem factors_bound {r : List Int} (h : ∀ x ∈ r, 0 ≤ x ∧ x < 67108864) : ∀ x ∈ factors r, 0 ≤ x ∧ x < 536870912 := by
  intro x hx
  rcases List.mem_append.1 hx with hx | hx
  · obtain ⟨y, hy, rfl⟩ := List.mem_map.1 hx
    have := h y hy
    omega
  · have := h x hx
    omega

/-- carried along, in limbs: what is kept -/
def carL (c : Int) : List Int → List Int
  | [] => []
  | x :: xs => (x + c) % 67108864 :: carL ((x + c) / 67108864) xs
/-- and what is over behind k limbs -/
def over (c : Int) (xs : List Int) : Nat → Int
  | 0 => c
  | k + 1 => (xs.getD k 0 + over c xs k) / 67108864
theorem over_cons (c x : Int) (xs : List Int) : ∀ k, over c (x :: xs) (k + 1) = over ((x + c) / 67108864) xs k
  | 0 => rfl
  | k + 1 => by rw [over, over_cons c x xs k, List.getD_cons_succ, over]
theorem carL_length : ∀ (c : Int) (xs : List Int), (carL c xs).length = xs.length
  | _, [] => rfl
  | c, x :: xs => by rw [carL, List.length_cons, List.length_cons, carL_length]
theorem carL_get : ∀ (c : Int) (xs : List Int) (k : Nat), k < xs.length → (carL c xs).getD k 0 = (xs.getD k 0 + over c xs k) % 67108864
  | _, [], _, h => by simp at h
  | c, x :: xs, 0, _ => rfl
  | c, x :: xs, k + 1, h => by rw [carL, List.getD_cons_succ, List.getD_cons_succ, over_cons, carL_get _ xs k (by simpa using h)]
theorem lv_carL : ∀ (c : Int) (xs : List Int), lv (carL c xs) + 67108864 ^ xs.length * over c xs xs.length = lv xs + c
  | c, [] => by simp [lv, carL, over]
  | c, x :: xs => by
    have := lv_carL ((x + c) / 67108864) xs
    rw [carL, lv, lv, List.length_cons, over_cons, Int.pow_succ, Int.mul_comm (67108864 ^ xs.length) 67108864, Int.mul_assoc]
    omega
/-- with no bits above a limb's own -/
def settle (n : List Int) : List Int :=
  let m := carL 0 n
  let t := m.getD 0 0 + 5 * over 0 n 5
  ((m.set 0 t).set 1 (m.getD 1 0 + t / 67108864)).set 0 (t % 67108864)
/-- settled limbs -/
def Settled (a : List Int) : Prop := ∃ a0 a1 a2 a3 a4, a = [a0, a1, a2, a3, a4] ∧ (0 ≤ a0 ∧ a0 < 67108864) ∧ (0 ≤ a1 ∧ a1 < 67121152) ∧ (0 ≤ a2 ∧ a2 < 67108864) ∧ (0 ≤ a3 ∧ a3 < 67108864) ∧ (0 ≤ a4 ∧ a4 < 67108864)
theorem over_bound {n : List Int} (h : ∀ x ∈ n, 0 ≤ x ∧ x < 1152921504606846976) : ∀ k, 0 ≤ over 0 n k ∧ over 0 n k < 68719476736
  | 0 => by simp [over]
  | k + 1 => by
    have ih := over_bound h k
    have : 0 ≤ n.getD k 0 ∧ n.getD k 0 < 1152921504606846976 := by
      rw [List.getD_eq_getElem?_getD]
      by_cases hk : k < n.length
      · rw [List.getElem?_eq_getElem hk]; exact h _ (List.getElem_mem hk)
      · rw [List.getElem?_eq_none (by omega)]; simp
    rw [over]
    omega
theorem settle_settled {n : List Int} (hl : n.length = 5) (h : ∀ x ∈ n, 0 ≤ x ∧ x < 1152921504606846976) : Settled (settle n) := by
  have ho := over_bound h 5
  obtain ⟨a0, a1, a2, a3, a4, rfl⟩ := five hl
  generalize hO : over 0 [a0, a1, a2, a3, a4] 5 = O at ho
  simp only [settle, carL, hO, List.getD_cons_zero, List.getD_cons_succ, List.set_cons_zero, List.set_cons_succ]
  refine ⟨_, _, _, _, _, rfl, ?_, ?_, ?_, ?_, ?_⟩ <;> omega
theorem settle_mod {n : List Int} (hl : n.length = 5) : lv (settle n) % modulus = lv n % modulus := by
  have hc := lv_carL 0 n
  have hm := carL_length 0 n
  rw [hl] at hc hm
  obtain ⟨m0, m1, m2, m3, m4, hm⟩ := five hm
  rw [settle]
  simp only [hm] at hc ⊢
  generalize over 0 n 5 = O at hc ⊢
  have e : lv n = lv ((([m0, m1, m2, m3, m4].set 0 ([m0, m1, m2, m3, m4].getD 0 0 + 5 * O)).set 1 ([m0, m1, m2, m3, m4].getD 1 0 + ([m0, m1, m2, m3, m4].getD 0 0 + 5 * O) / 67108864)).set 0 (([m0, m1, m2, m3, m4].getD 0 0 + 5 * O) % 67108864)) + modulus * O := by
    simp only [lv, List.getD_cons_zero, List.getD_cons_succ, List.set_cons_zero, List.set_cons_succ, modulus] at hc ⊢
    omega
  rw [e, Int.add_mul_emod_self_left]
theorem Settled.length {a : List Int} (h : Settled a) : a.length = 5 := by
  obtain ⟨_, _, _, _, _, rfl, _⟩ := h
  rfl
theorem Settled.bound {a : List Int} (h : Settled a) : ∀ x ∈ a, 0 ≤ x ∧ x < 134217728 := by
  obtain ⟨a0, a1, a2, a3, a4, rfl, h⟩ := h
  intro x hx
  simp only [List.mem_cons, List.not_mem_nil, or_false] at hx
  omega
theorem over_eq {a : List Int} (h : Settled a) : over 5 a 5 = (lv a + 5) / 2 ^ 130 := by
  obtain ⟨a0, a1, a2, a3, a4, rfl, h⟩ := h
  simp only [over, lv, List.getD_cons_zero, List.getD_cons_succ]
  omega
/-- below the modulus, but for bits above 2^128 -/
def reduce (a : List Int) : List Int := a.set 0 (a.getD 0 0 + 5 * over 5 a 5)
theorem reduce_mod {a : List Int} (h : Settled a) : lv (reduce a) % 2 ^ 128 = (lv a % modulus) % 2 ^ 128 := by
  have ho := over_eq h
  obtain ⟨a0, a1, a2, a3, a4, rfl, h⟩ := h
  rw [reduce]
  generalize over 5 [a0, a1, a2, a3, a4] 5 = O at ho ⊢
  simp only [lv, modulus, List.getD_cons_zero, List.set_cons_zero] at ho ⊢
  have hO : O = 0 ∨ O = 1 := by omega
  generalize hV : a0 + 67108864 * (a1 + 67108864 * (a2 + 67108864 * (a3 + 67108864 * (a4 + 67108864 * 0)))) = V at ho ⊢
  rw [show a0 + 5 * O + 67108864 * (a1 + 67108864 * (a2 + 67108864 * (a3 + 67108864 * (a4 + 67108864 * 0)))) = V + 5 * O by omega]
  have hV2 : 0 ≤ V ∧ V < 2 * (2 ^ 130 - 5) := by omega
  rcases hO with rfl | rfl
  · rw [show V % (2 ^ 130 - 5) = V by omega]
    omega
  · rw [show V % (2 ^ 130 - 5) = V - (2 ^ 130 - 5) by omega]
    omega
end Go.Proofs.YtebcejncjljmhaaDoor.Po
namespace Go.Proofs.YtebcejncjljmhaaDoor.Po
open Go.Proofs.YtebcejncjljmhaaDoor.Sum
set_option linter.unusedVariables false

/-- F, up to place i; behind it, what was there -/
def blend (F a : List Int) (i : Nat) : List Int := F.take i ++ a.drop i
theorem blend_zero (F a : List Int) : blend F a 0 = a := by simp [blend]
theorem blend_all {F a : List Int} (h : F.length = a.length) : blend F a a.length = F := by rw [blend, ← h, List.take_length, h, List.drop_length, List.append_nil]
theorem blend_length {F a : List Int} (h : F.length = a.length) (i : Nat) : (blend F a i).length = a.length := by simp [blend]; omega
theorem blend_get {F a : List Int} (h : F.length = a.length) {i : Nat} (hi : i < a.length) : (blend F a i).getD i 0 = a.getD i 0 := by
  have e : (F.take i).length = i := by simp; omega
  rw [blend, List.getD_eq_getElem?_getD, List.getElem?_append_right (by omega), e, List.getElem?_drop, List.getD_eq_getElem?_getD]
  congr 2
  omega
theorem blend_set {F a : List Int} (h : F.length = a.length) {i : Nat} (hi : i < a.length) : (blend F a i).set i (F.getD i 0) = blend F a (i + 1) := by
  have e : (F.take i).length = i := by simp; omega
  rw [blend, blend, List.set_append_right _ _ (by omega), e, Nat.sub_self, List.take_succ_eq_append_getElem (by omega), List.append_assoc]
  congr 1
  rw [List.drop_eq_getElem_cons hi, List.set_cons_zero]
  simp [List.getD_eq_getElem?_getD, show i < F.length by omega]
theorem blend_mem {F a : List Int} {i : Nat} {z : Int} (hz : z ∈ blend F a i) : z ∈ F ∨ z ∈ a := by
  rcases List.mem_append.1 hz with h | h
  · exact .inl (List.mem_of_mem_take h)
  · exact .inr (List.mem_of_mem_drop h)
theorem getD_range {l : List Int} {P : Int → Prop} (h : ∀ x ∈ l, P x) (h0 : P 0) (i : Nat) : P (l.getD i 0) := by
  rw [List.getD_eq_getElem?_getD]
  by_cases hi : i < l.length
  · rw [List.getElem?_eq_getElem hi]; exact h _ (List.getElem_mem hi)
  · rw [List.getElem?_eq_none (by omega)]; exact h0

/-- the product as it is behind i rows and j limbs of the next one -/
def mix (a f : List Int) (i j : Nat) : List Int := (List.range 5).map fun k => if k < j then psum a f (i + 1) k else psum a f i k
theorem mix_start (a f : List Int) : mix a f 0 0 = [0, 0, 0, 0, 0] := by simp [mix, psum, List.range, List.range.loop]
theorem mix_length (a f : List Int) (i j : Nat) : (mix a f i j).length = 5 := by simp [mix]
theorem mix_next (a f : List Int) (i : Nat) : mix a f i 5 = mix a f (i + 1) 0 := by simp [mix, List.range, List.range.loop]
theorem mix_end (a r : List Int) : mix a (factors r) 5 0 = mulL a r := by simp [mix, mulL]
theorem mix_get (a f : List Int) (i : Nat) {j : Nat} (h : j < 5) : (mix a f i j).getD j 0 = psum a f i j := by simp [mix, List.getD_eq_getElem?_getD, h]
theorem mix_set (a f : List Int) (i : Nat) {j : Nat} (h : j < 5) : (mix a f i j).set j (psum a f i j + a.getD i 0 * f.getD (5 - i + j) 0) = mix a f i (j + 1) := by
  rcases (show j = 0 ∨ j = 1 ∨ j = 2 ∨ j = 3 ∨ j = 4 by omega) with rfl | rfl | rfl | rfl | rfl <;> simp [mix, psum, List.range, List.range.loop]
theorem mulL_length (a r : List Int) : (mulL a r).length = 5 := by simp [mulL]
theorem mulL_bound {a r : List Int} (ha : ∀ x ∈ a, 0 ≤ x ∧ x < 268435456) (hr : ∀ x ∈ r, 0 ≤ x ∧ x < 67108864) : ∀ x ∈ mulL a r, 0 ≤ x ∧ x < 1152921504606846976 := by
  intro x hx
  obtain ⟨j, _, rfl⟩ := List.mem_map.1 hx
  have := psum_bound ha (factors_bound hr) 5 j
  omega

/-- where the bytes of n are told: behind i limbs, and b bytes, h bits of them are left -/
def Low (n : List Int) (i b h : Nat) (rest : Int) : Prop := 26 * i = 8 * b + h ∧ lv n / 256 ^ b = rest + 2 ^ h * lv (n.drop i) ∧ 0 ≤ rest ∧ rest < 2 ^ (h + 3)
theorem Low.start (n : List Int) : Low n 0 0 0 0 := ⟨rfl, by simp, by omega, by decide⟩
theorem lv_drop (n : List Int) {i : Nat} (h : i < n.length) : lv (n.drop i) = n.getD i 0 + 67108864 * lv (n.drop (i + 1)) := by
  rw [List.drop_eq_getElem_cons h, lv, List.getD_eq_getElem?_getD, List.getElem?_eq_getElem h]
  rfl
theorem Low.limb {n : List Int} {i b h : Nat} {rest : Int} (k : Low n i b h rest) (hi : i < n.length) (hb : 0 ≤ n.getD i 0 ∧ n.getD i 0 < 268435456) : Low n (i + 1) b (h + 26) (rest + n.getD i 0 * 2 ^ h) := by
  obtain ⟨h1, h2, h3, h4⟩ := k
  rw [lv_drop n hi] at h2
  generalize n.getD i 0 = x at *
  have hp : (0 : Int) < 2 ^ h := Int.pow_pos (by omega)
  have e1 : (2 : Int) ^ (h + 26) = 2 ^ h * 67108864 := by rw [Int.pow_add]; rfl
  have e2 : (2 : Int) ^ (h + 26 + 3) = 2 ^ h * 536870912 := by rw [Nat.add_assoc, Int.pow_add]; rfl
  have e3 : (2 : Int) ^ (h + 3) = 2 ^ h * 8 := by rw [Int.pow_add]; rfl
  refine ⟨by omega, ?_, ?_, ?_⟩
  · rw [h2, e1, Int.mul_add, ← Int.mul_assoc, Int.mul_comm x, Int.add_assoc]
  · exact Int.add_nonneg h3 (Int.mul_nonneg hb.1 (by omega))
  · have : x * 2 ^ h ≤ 268435455 * 2 ^ h := Int.mul_le_mul_of_nonneg_right (by omega) (by omega)
    rw [e2]
    rw [e3] at h4
    generalize (2 : Int) ^ h = p at *
    omega
theorem Low.byte {n : List Int} {i b h : Nat} {rest : Int} (k : Low n i b h rest) (hh : 8 ≤ h) : Low n i (b + 1) (h - 8) (rest / 256) ∧ rest % 256 = lv n / 256 ^ b % 256 := by
  obtain ⟨h1, h2, h3, h4⟩ := k
  obtain ⟨h, rfl⟩ : ∃ q, h = q + 8 := ⟨h - 8, by omega⟩
  have e1 : (2 : Int) ^ (h + 8) = 256 * 2 ^ h := by rw [Int.pow_add, Int.mul_comm]; rfl
  have e2 : (2 : Int) ^ (h + 8 + 3) = 256 * 2 ^ (h + 3) := by rw [show h + 8 + 3 = h + 3 + 8 by omega, Int.pow_add, Int.mul_comm]; rfl
  rw [e1, Int.mul_assoc] at h2
  rw [e2] at h4
  rw [Nat.add_sub_cancel]
  refine ⟨⟨by omega, ?_, by omega, by omega⟩, by omega⟩
  rw [Int.pow_succ, ← Int.ediv_ediv_of_nonneg (Int.le_of_lt (Int.pow_pos (by omega) : (0 : Int) < 256 ^ b)), h2]
  omega

/-- a piece as it is ranged over: its bytes, the 1, and zeros -/
def chunk (m : List Int) (k : Nat) : List Int := (m.drop (16 * k)).take 16
def pieceAt (m : List Int) (k : Nat) : List Int := chunk m k ++ 1 :: List.replicate (16 - (chunk m k).length) 0
def pieces (m : List Int) : List (List Int) := (List.range (count m)).map (pieceAt m)
theorem chunk_length (m : List Int) (k : Nat) : (chunk m k).length = min 16 (m.length - 16 * k) := by simp [chunk]
theorem pieceAt_length (m : List Int) (k : Nat) : (pieceAt m k).length = 17 := by
  have := chunk_length m k
  simp [pieceAt]
  omega
theorem pieces_length (m : List Int) : (pieces m).length = count m := by simp [pieces]
theorem pieces_take (m : List Int) {k : Nat} (h : k < count m) : (pieces m).take k ++ [pieceAt m k] = (pieces m).take (k + 1) := by
  rw [List.take_succ_eq_append_getElem (by rw [pieces_length]; exact h)]
  simp [pieces]
theorem val_pieceAt (m : List Int) (k : Nat) : val (pieceAt m k) = val (chunk m k ++ [1]) := by
  have e : pieceAt m k = (chunk m k ++ [1]) ++ List.replicate (16 - (chunk m k).length) 0 := by simp [pieceAt]
  rw [e, val_append, val_zeros, Int.mul_zero, Int.add_zero]
theorem chunk_bytes {m : List Int} (h : Bs m) (k : Nat) : Bs (chunk m k) := fun z hz => h z (List.mem_of_mem_drop (List.mem_of_mem_take hz))
theorem pieceAt_bytes {m : List Int} (h : Bs m) (k : Nat) : Bs (pieceAt m k) := fun z hz => by
  rcases List.mem_append.1 hz with h1 | h1
  · exact chunk_bytes h k z h1
  · rcases List.mem_cons.1 h1 with rfl | h1
    · omega
    · rw [List.eq_of_mem_replicate h1]; omega
theorem val_chunk_lt {m : List Int} (h : Bs m) (k : Nat) : 0 ≤ val (chunk m k ++ [1]) ∧ val (chunk m k ++ [1]) < 2 ^ 129 := by
  have h1 := val_lt (chunk_bytes h k)
  have h0 := val_nonneg (xs := chunk m k) fun z hz => (chunk_bytes h k z hz).1
  have hl : (chunk m k).length ≤ 16 := by rw [chunk_length]; omega
  rw [val_append]
  have e : (256 : Int) ^ (chunk m k).length ≤ 256 ^ 16 := by
    obtain ⟨d, hd⟩ : ∃ d, 16 = (chunk m k).length + d := ⟨16 - (chunk m k).length, by omega⟩
    rw [hd, Int.pow_add]
    have h1 : (0 : Int) < 256 ^ (chunk m k).length := Int.pow_pos (by omega)
    have h2 : (0 : Int) < 256 ^ d := Int.pow_pos (by omega)
    have := Int.mul_le_mul_of_nonneg_left (show (1 : Int) ≤ 256 ^ d by omega) (Int.le_of_lt h1)
    rwa [Int.mul_one] at this
  simp only [val]
  generalize (256 : Int) ^ (chunk m k).length = N at *
  omega
/-- the piece as it is when p bytes have come -/
def cur (m : List Int) (p : Nat) : List Int := (m.drop (16 * (p / 16))).take (p % 16) ++ List.replicate (17 - p % 16) 0
theorem cur_length {m : List Int} {p : Nat} (h : p ≤ m.length) : (cur m p).length = 17 := by simp [cur]; omega
theorem cur_start (m : List Int) {p : Nat} (h : p % 16 = 0) : cur m p = List.replicate 17 0 := by simp [cur, h]
theorem cur_last {m : List Int} (h : m.length % 16 ≠ 0) : (cur m m.length).set (m.length % 16) 1 = pieceAt m (m.length / 16) := by
  have hd := Nat.div_add_mod m.length 16
  have hlt : m.length % 16 < 16 := Nat.mod_lt _ (by omega)
  have e1 : (m.drop (16 * (m.length / 16))).take (m.length % 16) = m.drop (16 * (m.length / 16)) := List.take_of_length_le (by simp; omega)
  have e2 : chunk m (m.length / 16) = m.drop (16 * (m.length / 16)) := List.take_of_length_le (by simp; omega)
  have e3 : (m.drop (16 * (m.length / 16))).length = m.length % 16 := by simp; omega
  rw [cur, pieceAt, e1, e2, List.set_append_right _ _ (by omega), e3, Nat.sub_self, show 17 - m.length % 16 = (16 - m.length % 16) + 1 by omega, List.replicate_succ, List.set_cons_zero]
theorem cur_step {m : List Int} {p n k : Nat} (hk : k = min n (16 - p % 16)) (hn : p + n ≤ m.length) :
    (cur m p).take (p % 16) ++ (((m.drop p).take n).take k ++ (cur m p).drop (p % 16 + k)) = if p % 16 + k = 16 then chunk m (p / 16) ++ [0] else cur m (p + k) := by
  have hlt : p % 16 < 16 := Nat.mod_lt _ (by omega)
  have e1 : (cur m p).take (p % 16) = (m.drop (16 * (p / 16))).take (p % 16) := by
    rw [cur, List.take_append_of_le_length (by simp; omega), List.take_of_length_le (by simp; omega)]
  have e2 : (cur m p).drop (p % 16 + k) = List.replicate (17 - (p % 16 + k)) 0 := by
    rw [cur, List.drop_append, List.drop_of_length_le (by simp; omega), List.nil_append, List.drop_replicate]
    congr 1
    simp
    omega
  have e3 : ((m.drop (16 * (p / 16))).take (p % 16)) ++ ((m.drop p).take n).take k = (m.drop (16 * (p / 16))).take (p % 16 + k) := by
    rw [List.take_take, Nat.min_eq_left (by omega), List.take_add, List.drop_drop]
    congr 3
    omega
  rw [e1, e2, ← List.append_assoc, e3]
  split
  · rename_i h
    rw [h, chunk]
    rfl
  · rw [cur, show (p + k) / 16 = p / 16 by omega, show (p + k) % 16 = p % 16 + k by omega]
theorem pieceAt_full {m : List Int} {k : Nat} (h : 16 * (k + 1) ≤ m.length) : (chunk m k ++ [0]).set 16 1 = pieceAt m k := by
  have hl : (chunk m k).length = 16 := by rw [chunk_length]; omega
  rw [pieceAt, List.set_append_right _ _ (by omega), hl]
  rfl
theorem step_eq (r : Int) (m : List Int) (k : Nat) : acc r m (k + 1) = (acc r m k + val (pieceAt m k)) * r % modulus := by rw [val_pieceAt]; rfl
end Go.Proofs.YtebcejncjljmhaaDoor.Po
namespace Go.Proofs.YtebcejncjljmhaaDoor.Ae
open Go.Proofs.YtebcejncjljmhaaDoor.Sum Go.Proofs.YtebcejncjljmhaaDoor.Po
set_option linter.unusedVariables false

/-- how many zeros stand behind n bytes -/
def padN (n : Nat) : Nat := (16 - n % 16) % 16
/-- bytes, and zeros up to a multiple of 16 -/
def padL (b : List Int) : List Int := b ++ List.replicate (padN b.length) 0
theorem padN_whole (n : Nat) : (n + padN n) % 16 = 0 := by unfold padN; omega
theorem padN_lt (n : Nat) : padN n < 16 := by unfold padN; omega
theorem padL_length (b : List Int) : (padL b).length = b.length + padN b.length := by simp [padL]
theorem padL_bytes {b : List Int} (h : Bs b) : Bs (padL b) := fun z hz => by
  rcases List.mem_append.1 hz with h1 | h1
  · exact h z h1
  · rw [List.eq_of_mem_replicate h1]; omega
/-- what the tag is of -/
def text (aad c : List Int) : List Int := padL aad ++ padL c ++ digits (aad.length : Int) 8 ++ digits (c.length : Int) 8
/-- the tag's key -/
def macKey (key nonce : List Int) : List Int := (Cc.block key 0 nonce).take 32
def aeTag (key nonce aad c : List Int) : List Int := poly (macKey key nonce) (text aad c)
/-- sealed -/
def sealed (key nonce aad plain : List Int) : List Int := Cc.xors key nonce 1 plain ++ aeTag key nonce aad (Cc.xors key nonce 1 plain)
/-- opened: none, if the last sixteen are not what they should be -/
def opened (key nonce aad b : List Int) : Option (List Int) :=
  if aeTag key nonce aad (b.take (b.length - 16)) = b.drop (b.length - 16) then some (Cc.xors key nonce 1 (b.take (b.length - 16))) else none
theorem macKey_length (key nonce : List Int) : (macKey key nonce).length = 32 := by simp [macKey, Cc.block_length]
theorem macKey_bytes (key nonce : List Int) : Bs (macKey key nonce) := fun z hz => Cc.block_bytes _ _ _ z (List.mem_of_mem_take hz)
theorem text_bytes {aad c : List Int} (ha : Bs aad) (hc : Bs c) : Bs (text aad c) := fun z hz => by
  rcases List.mem_append.1 hz with hz | hz
  · rcases List.mem_append.1 hz with hz | hz
    · rcases List.mem_append.1 hz with hz | hz
      · exact padL_bytes ha z hz
      · exact padL_bytes hc z hz
    · exact digits_bytes _ _ z hz
  · exact digits_bytes _ _ z hz
theorem text_length (aad c : List Int) : (text aad c).length ≤ aad.length + c.length + 48 := by
  have h1 := padN_lt aad.length
  have h2 := padN_lt c.length
  simp only [text, List.length_append, padL_length, digits_length]
  omega
theorem aeTag_length (key nonce aad c : List Int) : (aeTag key nonce aad c).length = 16 := poly_length _ _
theorem aeTag_bytes (key nonce aad c : List Int) : Bs (aeTag key nonce aad c) := poly_bytes _ _
theorem sealed_length (key nonce aad plain : List Int) : (sealed key nonce aad plain).length = plain.length + 16 := by rw [sealed, List.length_append, Cc.xors_length, aeTag_length]
theorem sealed_bytes (key nonce aad : List Int) {plain : List Int} (h : Bs plain) : Bs (sealed key nonce aad plain) := fun z hz => by
  rcases List.mem_append.1 hz with h1 | h1
  · exact Cc.xors_bytes key nonce 1 h z h1
  · exact aeTag_bytes _ _ _ _ z h1
/-- what is sealed is opened -/
theorem opened_sealed (key nonce aad : List Int) {plain : List Int} (h : Bs plain) : opened key nonce aad (sealed key nonce aad plain) = some plain := by
  have hl : (sealed key nonce aad plain).length - 16 = (Cc.xors key nonce 1 plain).length := by rw [sealed_length, Cc.xors_length]; omega
  have ht : (sealed key nonce aad plain).take ((sealed key nonce aad plain).length - 16) = Cc.xors key nonce 1 plain := by rw [hl, sealed, List.take_left' rfl]
  have hd : (sealed key nonce aad plain).drop ((sealed key nonce aad plain).length - 16) = aeTag key nonce aad (Cc.xors key nonce 1 plain) := by rw [hl, sealed, List.drop_left' rfl]
  rw [opened, ht, hd, if_pos rfl, Cc.xors_back key nonce 1 h]
end Go.Proofs.YtebcejncjljmhaaDoor.Ae
namespace Go.Proofs.YtebcejncjljmhaaDoor.Mem
open Go.RowKit

theorem ret_int {k : IntKind} {a b : Int} (h : a = b) : Ending.returned (.int k a) = .returned (.int k b) := by rw [h]
theorem ret_bool {a b : Bool} (h : a = b) : Ending.returned (.bool a) = .returned (.bool b) := by rw [h]

/-- a call that leaves the world alone, inside a region whose order is open -/
theorem quiet_same {P : Program} {f : FuncId} {args : Array Value} {w : World} {n : Nat} {v : Value}
    (h : Calls P f args (w.drewN n) fun e w' => e = .returned v ∧ w.drewN n = w') : Calls P f args (w.drewN n) fun e w'' => e = .returned v ∧ ∃ m, w'' = w.drewN m :=
  h.mono fun _ _ ⟨he, hm⟩ => ⟨he, n, hm.symm⟩

theorem below_drewN {B : Nat} {a w : World} (h : Below B a w) (n : Nat) : Below B a (w.drewN n) := ⟨h.os, h.tape, h.output, h.size, h.block⟩

/-- the slice at A, of n numbers of kind k, below block B, reads as the list zs -/
def Ints (w : World) (k : IntKind) (B : Nat) (A : Option Addr) (n : Nat) (zs : List Int) : Prop :=
  zs.length = n ∧ (∀ z ∈ zs, (Lit.int k z).wf = true) ∧ (0 < n → ∃ b off, A = some ⟨b, off, none⟩ ∧ b < B ∧ ∀ i, i < n → w.cell? ⟨b, off + i, none⟩ = some (.int k (zs.getD i 0)))

section
variable {w w' : World} {k : IntKind} {B B' n : Nat} {A : Option Addr} {zs : List Int}
theorem Ints.nil (w : World) (k : IntKind) (B : Nat) (A : Option Addr) : Ints w k B A 0 [] := ⟨rfl, by simp, fun h => absurd h (by omega)⟩
theorem Ints.keep (h : Ints w k B A n zs) (hk : ∀ p : Addr, p.block < B → w'.cell? p = w.cell? p) : Ints w' k B A n zs :=
  ⟨h.1, h.2.1, fun hn => by
    obtain ⟨b, off, e, hb, hc⟩ := h.2.2 hn
    exact ⟨b, off, e, hb, fun i hi => (hk ⟨b, off + i, none⟩ hb).trans (hc i hi)⟩⟩
theorem Ints.more (h : Ints w k B A n zs) (hB : B ≤ B') : Ints w k B' A n zs :=
  ⟨h.1, h.2.1, fun hn => by
    obtain ⟨b, off, e, hb, hc⟩ := h.2.2 hn
    exact ⟨b, off, e, by omega, hc⟩⟩
theorem Ints.below (h : Ints w k B A n zs) (hb : Below B w w') : Ints w' k B A n zs := h.keep fun _ hp => hb.cell hp
theorem Ints.drew (h : Ints w k B A n zs) : Ints w.drew k B A n zs := h
theorem Ints.drewN (h : Ints w k B A n zs) (m : Nat) : Ints (w.drewN m) k B A n zs := h
theorem Ints.alloc (h : Ints w k B A n zs) (hB : B ≤ w.heap.size) (o : Obj) : Ints (w.alloc o) k B A n zs := h.keep fun p hp => World.cell?_alloc_lt w o p (by omega)
theorem Ints.setCell (h : Ints w k B A n zs) {p : Addr} (hB : B ≤ p.block) (u : Value) : Ints (w.setCell p u) k B A n zs :=
  h.keep fun q hq => World.cell?_setCell_other w p q u (fun e => by subst e; omega)
theorem Ints.range (h : Ints w k B A n zs) {i : Nat} (hi : i < n) : (Lit.int k (zs.getD i 0)).wf = true := by
  have hl : i < zs.length := by have := h.1; omega
  rw [List.getD_eq_getElem?_getD, List.getElem?_eq_getElem hl]
  exact h.2.1 _ (List.getElem_mem hl)
theorem Ints.at_ (h : Ints w k B A n zs) {i : Nat} (hi : i < n) : ∃ b off, A = some ⟨b, off, none⟩ ∧ b < B ∧ w.cell? ⟨b, off + i, none⟩ = some (.int k (zs.getD i 0)) := by
  obtain ⟨b, off, e, hb, hc⟩ := h.2.2 (by omega)
  exact ⟨b, off, e, hb, hc i hi⟩
end

theorem wf_u8 {z : Int} (h : (Lit.int .u8 z).wf = true) : 0 ≤ z ∧ z ≤ 255 := by simpa [Lit.wf, IntKind.min, IntKind.max, IntKind.signed, IntKind.bits] using h
theorem wf_u64 {z : Int} (h : (Lit.int .u64 z).wf = true) : 0 ≤ z ∧ z ≤ 18446744073709551615 := by simpa [Lit.wf, IntKind.min, IntKind.max, IntKind.signed, IntKind.bits] using h
theorem wf_i64 {z : Int} (h : (Lit.int .i64 z).wf = true) : -9223372036854775808 ≤ z ∧ z ≤ 9223372036854775807 := by simpa [Lit.wf, IntKind.min, IntKind.max, IntKind.signed, IntKind.bits] using h

/-- what the frame of a proof says of a slice that came in, as 'Ints' -/
theorem ints_of_row {kd : IntKind} {w : World} {a : Option Addr} {len cap : Nat} {zs : List Int}
    (h : (a = none ∧ len = 0 ∧ cap = 0 ∧ zs = []) ∨
      ∃ x, a = some x ∧ len ≤ cap ∧ cap ≤ maxLen ∧ zs.length = cap ∧ (∀ i, i < zs.length → w.cell? (x.add i) = some (.int kd (zs.getD i 0))) ∧ ∀ n ∈ zs, (Lit.int kd n).wf = true) :
    Ints w kd w.heap.size a len (zs.take len) ∧ len ≤ cap ∧ cap ≤ maxLen := by
  rcases h with ⟨rfl, rfl, rfl, rfl⟩ | ⟨x, rfl, hl, hm, hz, hc, hw⟩
  · exact ⟨Ints.nil _ _ _ _, Nat.le_refl _, by simp [maxLen]⟩
  · refine ⟨⟨by rw [List.length_take]; omega, fun z hzm => hw z (List.mem_of_mem_take hzm), fun hn => ?_⟩, hl, hm⟩
    obtain ⟨b, off, spot⟩ := x
    have h0 := hc 0 (by omega)
    have hspot : spot = none := by simpa [Addr.add] using World.cell?_spot h0
    subst hspot
    have hlt : b < w.heap.size := by simpa [Addr.add] using World.block_lt_of_cell? w _ h0
    refine ⟨b, off, rfl, hlt, fun i hi => ?_⟩
    have := hc i (by omega)
    have e : (Addr.mk b off none).add i = ⟨b, off + i, none⟩ := by unfold Addr.add; split <;> simp_all
    rw [e] at this
    rw [this]
    congr 2
    simp only [List.getD_eq_getElem?_getD, List.getElem?_take, hi, if_true]
end Go.Proofs.YtebcejncjljmhaaDoor.Mem
namespace Go.Proofs.YtebcejncjljmhaaDoor.Mem
open Go.RowKit

/-- the slice v, of the call's own blocks from base on, elements of type t and kind k, owns the numbers zs -/
def Own (w : World) (base : Nat) (t : TypeId) (k : IntKind) (v : Value) (zs : List Int) : Prop :=
  (∀ z ∈ zs, (Lit.int k z).wf = true) ∧ w.ownsRow base t 1 v zs.length (zs.map (Value.int k))

section
variable {w w' : World} {base : Nat} {t : TypeId} {k : IntKind} {v : Value} {zs : List Int}
theorem Own.nil (w : World) (base : Nat) (t : TypeId) (k : IntKind) : Own w base t k (.slice none 0 0) [] := ⟨by simp, World.ownsRow_nil _ _ _ _⟩
theorem Own.drewN (h : Own w base t k v zs) (n : Nat) : Own (w.drewN n) base t k v zs := h
theorem Own.alloc (h : Own w base t k v zs) (o : Obj) : Own (w.alloc o) base t k v zs := ⟨h.1, h.2.alloc o⟩
theorem Own.kept (h : Own w base t k v zs) {row : Option Nat} (hg : w.grownBy w' row) (hne : v.ownBlock = none ∨ v.ownBlock ≠ row) : Own w' base t k v zs := ⟨h.1, h.2.kept hg hne⟩
theorem grown_of_below (h : Below w.heap.size w w') (row : Option Nat) : w.grownBy w' row := ⟨h.os, h.tape, h.output, h.size, fun i hi _ => h.block i hi⟩
theorem Own.below (h : Own w base t k v zs) (hb : Below w.heap.size w w') : Own w' base t k v zs :=
  h.kept (grown_of_below hb none) (by cases v.ownBlock <;> simp)
theorem Own.less (h : Own w base t k v zs) {b : Nat} (hb : b ≤ base) : Own w b t k v zs := by
  refine ⟨h.1, h.2.1, ?_⟩
  rcases h.2.2 with hn | ⟨g, cap, cur, e, hg, r⟩
  · exact .inl hn
  · exact .inr ⟨g, cap, cur, e, by omega, r⟩

theorem Own.form (h : Own w base t k v zs) : ∃ A c, v = .slice A zs.length c ∧ zs.length ≤ c ∧ c ≤ maxLen ∧ Ints w k w.heap.size A zs.length zs := by
  rcases h.2.2 with ⟨rfl, hn⟩ | ⟨g, cap, cur, rfl, hb, hg, hnc, hcm, hcs, ht⟩
  · have : zs = [] := List.eq_nil_of_length_eq_zero hn
    subst this
    exact ⟨none, 0, rfl, Nat.le_refl _, by simp [maxLen], Ints.nil _ _ _ _⟩
  · refine ⟨_, cap, rfl, hnc, hcm, rfl, h.1, fun _ => ⟨g, 0, rfl, (Array.getElem?_eq_some_iff.1 hg).1, fun i hi => ?_⟩⟩
    have hc := h.2.cells (g := g) rfl i (.int k (zs.getD i 0)) (by simp [List.getD_eq_getElem?_getD, hi])
    have e : (Addr.mk g 0 none).add i = ⟨g, 0 + i, none⟩ := by unfold Addr.add; split <;> simp_all
    rwa [e] at hc

theorem Own.ints {A : Option Addr} {n c : Nat} (h : Own w base t k (.slice A n c) zs) (hl : zs.length = n) : Ints w k w.heap.size A n zs := by
  obtain ⟨A', c', e, _, _, hi⟩ := h.form
  injection e with e1 e2 _
  subst e1
  rw [hl] at hi
  exact hi

/-- what is owned, cell by cell -/
theorem Own.at_ (h : Own w base t k v zs) (hn : 0 < zs.length) : ∃ g c, v = .slice (some ⟨g, 0, none⟩) zs.length c ∧ base ≤ g ∧ g < w.heap.size ∧ zs.length ≤ c ∧ c ≤ maxLen ∧
    (∀ i, i < zs.length → w.cell? ⟨g, i, none⟩ = some (.int k (zs.getD i 0))) ∧ (∀ i, w.frozen? ⟨g, i, none⟩ = false) := by
  rcases h.2.2 with ⟨rfl, hn'⟩ | ⟨g, cap, cur, rfl, hb, hg, hnc, hcm, hcs, ht⟩
  · omega
  · refine ⟨g, cap, rfl, hb, (Array.getElem?_eq_some_iff.1 hg).1, hnc, hcm, fun i hi => ?_, fun i => by simp [World.frozen?, hg]⟩
    have hc := h.2.cells (g := g) rfl i (.int k (zs.getD i 0)) (by simp [List.getD_eq_getElem?_getD, hi])
    have e : (Addr.mk g 0 none).add i = ⟨g, i, none⟩ := by unfold Addr.add; split <;> simp_all
    rwa [e] at hc

/-- a store into what is owned -/
theorem Own.set {g c : Nat} (h : Own w base t k (.slice (some ⟨g, 0, none⟩) zs.length c) zs) (i : Nat) {z : Int} (hz : (Lit.int k z).wf = true) :
    Own (w.setCell ⟨g, i, none⟩ (.int k z)) base t k (.slice (some ⟨g, 0, none⟩) zs.length c) (zs.set i z) := by
  refine ⟨fun y hy => ?_, by simp, ?_⟩
  · rcases List.mem_or_eq_of_mem_set hy with h1 | h1
    · exact h.1 y h1
    · rw [h1]; exact hz
  · rcases h.2.2 with ⟨e, _⟩ | ⟨g', cap, cur, e, hb, hg, hnc, hcm, hcs, ht⟩
    · cases e
    · injection e with e1 _ e3
      injection e1 with e1
      injection e1 with e1
      subst e1
      subst e3
      refine .inr ⟨g, c, cur.setIfInBounds i (.int k z), by simp, hb, ?_, by simpa using hnc, hcm, by simpa using hcs, ?_⟩
      · simp [World.setCell, Array.getElem?_modify, hg]
      · rw [Array.toList_setIfInBounds, List.take_set, List.length_set]
        rw [ht]
        simp [List.map_set]

theorem grown_setCell (w : World) (g i : Nat) (u : Value) : w.grownBy (w.setCell ⟨g, i, none⟩ u) (some g) :=
  ⟨rfl, rfl, rfl, by simp [World.setCell], fun j _ hne => Below.heap_setCell w _ u j (fun e => hne (by rw [e]))⟩

theorem Below.of_grown {B : Nat} {a : World} (h : Below B a w) {row : Option Nat} (hg : w.grownBy w' row) (hB : B ≤ w.heap.size) (hr : ∀ g, row = some g → B ≤ g) : Below B a w' := h.grown hg hB hr
end

/-- append, of numbers that read as a list (nil or not), onto what the call owns -/
theorem run_append_ints {P : Program} (w : World) (base : Nat) (ts ty e : TypeId) (k : IntKind) (bytes : Nat) (ht : P.underlying ts = some (.slice e))
    (hinfo : (P.info? e).map (fun i => (i.zero, i.size, i.bytes)) = some (some (.int k 0), 1, bytes)) (v : Value) (zs : List Int) (hown : Own w base e k v zs)
    (B : Nat) (A : Option Addr) (m c : Nat) (xs : List Int) (hr : Ints w k B A m xs) (hlen : zs.length + m ≤ 17592186044416) (hby : bytes ≤ 8) (hbase : base ≤ w.heap.size) :
    ∃ v' w', (Builtin.append_ #[ts, ts] ty #[v, .slice A m c]).run P w = .ok v' w' ∧ Own w' base e k v' (zs ++ xs) ∧ w.grownBy w' v.ownBlock ∧
      (v'.ownBlock = v.ownBlock ∨ v'.ownBlock = some w.heap.size) := by
  obtain ⟨i, hi, hz, hsz, hb⟩ := info_parts hinfo
  have hwf : ∀ z ∈ zs ++ xs, (Lit.int k z).wf = true := by
    intro z hz'
    rcases List.mem_append.1 hz' with h | h
    · exact hown.1 z h
    · exact hr.2.1 z h
  have hxl := hr.1
  rcases A with _ | ad
  · have hm : m = 0 := by
      rcases Nat.eq_zero_or_pos m with h0 | h0
      · exact h0
      · obtain ⟨_, _, h, _⟩ := hr.2.2 h0
        cases h
    subst hm
    have hx : xs = [] := List.eq_nil_of_length_eq_zero hxl
    subst hx
    refine ⟨v, w, ?_, by simpa using hown, World.grownBy.refl w _, .inl rfl⟩
    rcases hown.2.2 with ⟨rfl, _⟩ | ⟨g, cap, cur, rfl, _, _, hnc, _⟩
    · simp [Builtin.append_, run_underlying ht, sizeOf, typeInfo, hi, Builtin.lenOf, Builtin.firstCells]
    · simp [Builtin.append_, run_underlying ht, sizeOf, typeInfo, hi, Builtin.lenOf, Builtin.firstCells, hnc, storeCells]
  · have hcells : ∀ j u, (xs.map (Value.int k))[j]? = some u → w.cell? (ad.add j) = some u := by
      intro j u hu
      have hj : j < m := by
        have := (List.getElem?_eq_some_iff.1 hu).1
        simp at this
        omega
      obtain ⟨b, off, h, _, hc⟩ := hr.at_ hj
      injection h with h
      subst h
      have e : (Addr.mk b off none).add j = ⟨b, off + j, none⟩ := by unfold Addr.add; split <;> simp_all
      rw [e, hc, ← hu]
      simp [List.getD_eq_getElem?_getD, show j < xs.length by omega]
    obtain ⟨v', w', hrun, h2, h3, _, h5⟩ := run_append_own_at (P := P) w base ts ty e i (.int k 0) 1 bytes ht hi hz hsz hb rfl (by omega) v zs.length (zs.map (Value.int k)) hown.2 ad m c
      (xs.map (Value.int k)) (by simp [hxl]) hcells (by intro u hu; obtain ⟨z, _, rfl⟩ := List.mem_map.1 hu; rfl) (by simp only [maxLen]; omega)
      (Nat.le_trans (Nat.mul_le_mul hlen hby) (by omega)) hbase
    refine ⟨v', w', hrun, ⟨hwf, ?_⟩, h3, h5⟩
    rw [List.length_append, List.map_append, hxl]
    exact h2

section
variable {P : Program} (w : World) {ops : Array Oper} {rest : List Oper} {o : Oper} {a : Act}
theorem wp_append_ints {K : Act → World → Prop} {Q : Exit → Act → World → Prop} (s x : Operand) (ts : TypeId)
    (ho : o.op = .call { callee := .builtin .append, args := #[s, x], argTypes := #[ts, ts] }) (base : Nat) (e : TypeId) (k : IntKind) (bytes : Nat) (ht : P.underlying ts = some (.slice e))
    (hinfo : (P.info? e).map (fun i => (i.zero, i.size, i.bytes)) = some (some (.int k 0), 1, bytes)) (v : Value) (zs : List Int) (hs : a.eval s = v) (hown : Own w base e k v zs)
    (B : Nat) (A : Option Addr) (m c : Nat) (xs : List Int) (hx : a.eval x = .slice A m c) (hr : Ints w k B A m xs) (hlen : zs.length + m ≤ 17592186044416) (hby : bytes ≤ 8) (hbase : base ≤ w.heap.size)
    (h : ∀ v' w', Own w' base e k v' (zs ++ xs) → w.grownBy w' v.ownBlock → (v'.ownBlock = v.ownBlock ∨ v'.ownBlock = some w.heap.size) → K (a.put o.dst v') w') : o.wp P a w K Q := by
  obtain ⟨v', w', hrun, h2, h3, h4⟩ := run_append_ints (P := P) w base ts o.type e k bytes ht hinfo v zs hown B A m c xs hr hlen hby hbase
  unfold Oper.wp execOp
  simp only [ho, resolve, invoke, builtin, Sem.run_bind, Sem.run_pure, Result.andThen_ok, List.map_toArray, List.map_cons, List.map_nil, hs, hx, hrun]
  exact h v' w' h2 h3 h4

theorem wpList_append_ints {Q : Exit → Act → World → Prop} (hw : Region.wanted o (yielded ops a.tmps) = true) (s x : Operand) (ts : TypeId)
    (ho : o.op = .call { callee := .builtin .append, args := #[s, x], argTypes := #[ts, ts] }) (base : Nat) (e : TypeId) (k : IntKind) (bytes : Nat) (ht : P.underlying ts = some (.slice e))
    (hinfo : (P.info? e).map (fun i => (i.zero, i.size, i.bytes)) = some (some (.int k 0), 1, bytes)) (v : Value) (zs : List Int) (hs : a.eval s = v) (hown : Own w base e k v zs)
    (B : Nat) (A : Option Addr) (m c : Nat) (xs : List Int) (hx : a.eval x = .slice A m c) (hr : Ints w k B A m xs) (hlen : zs.length + m ≤ 17592186044416) (hby : bytes ≤ 8) (hbase : base ≤ w.heap.size)
    (h : ∀ v' w', Own w' base e k v' (zs ++ xs) → w.grownBy w' v.ownBlock → (v'.ownBlock = v.ownBlock ∨ v'.ownBlock = some w.heap.size) → wpList P ops Q rest (a.put o.dst v') w') :
    wpList P ops Q (o :: rest) a w :=
  wpList_step fun _ hK => by
    rw [if_pos hw]
    exact wp_append_ints w s x ts ho base e k bytes ht hinfo v zs hs hown B A m c xs hx hr hlen hby hbase fun v' w' h2 h3 h4 => hK _ _ (h v' w' h2 h3 h4)

theorem step_append_ints {K : Act → World → Prop} {Q : Exit → Act → World → Prop} {E : Prop} (hgd : o.guard = none) (s x : Operand) (ts : TypeId)
    (ho : o.op = .call { callee := .builtin .append, args := #[s, x], argTypes := #[ts, ts] }) (base : Nat) (e : TypeId) (k : IntKind) (bytes : Nat) (ht : P.underlying ts = some (.slice e))
    (hinfo : (P.info? e).map (fun i => (i.zero, i.size, i.bytes)) = some (some (.int k 0), 1, bytes)) (v : Value) (zs : List Int) (hs : a.eval s = v) (hown : Own w base e k v zs)
    (B : Nat) (A : Option Addr) (m c : Nat) (xs : List Int) (hx : a.eval x = .slice A m c) (hr : Ints w k B A m xs) (hlen : zs.length + m ≤ 17592186044416) (hby : bytes ≤ 8) (hbase : base ≤ w.heap.size)
    (h : ∀ v' w', Own w' base e k v' (zs ++ xs) → w.grownBy w' v.ownBlock → (v'.ownBlock = v.ownBlock ∨ v'.ownBlock = some w.heap.size) → K (a.put o.dst v') w') :
    if Region.wanted o (yielded ops a.tmps) = true then Oper.wp P o a w K Q else E := by
  have hw : Region.wanted o (yielded ops a.tmps) = true := by simp [Region.wanted, hgd]
  rw [if_pos hw]
  exact wp_append_ints w s x ts ho base e k bytes ht hinfo v zs hs hown B A m c xs hx hr hlen hby hbase h
end

/-- append within the room that is there -/
theorem run_append_ints_fits {P : Program} (w : World) (base : Nat) (ts ty e : TypeId) (k : IntKind) (bytes : Nat) (ht : P.underlying ts = some (.slice e))
    (hinfo : (P.info? e).map (fun i => (i.zero, i.size, i.bytes)) = some (some (.int k 0), 1, bytes)) (g cap : Nat) (zs : List Int) (hown : Own w base e k (.slice (some ⟨g, 0, none⟩) zs.length cap) zs)
    (B : Nat) (A : Option Addr) (m c : Nat) (xs : List Int) (hr : Ints w k B A m xs) (hfit : zs.length + m ≤ cap) :
    ∃ w', (Builtin.append_ #[ts, ts] ty #[.slice (some ⟨g, 0, none⟩) zs.length cap, .slice A m c]).run P w = .ok (.slice (some ⟨g, 0, none⟩) (zs.length + m) cap) w' ∧
      Own w' base e k (.slice (some ⟨g, 0, none⟩) (zs.length + m) cap) (zs ++ xs) ∧ w.grownBy w' (some g) := by
  obtain ⟨i, hi, hz, hsz, hb⟩ := info_parts hinfo
  have hwf : ∀ z ∈ zs ++ xs, (Lit.int k z).wf = true := by
    intro z hz'
    rcases List.mem_append.1 hz' with h | h
    · exact hown.1 z h
    · exact hr.2.1 z h
  have hxl := hr.1
  rcases A with _ | ad
  · have hm : m = 0 := by
      rcases Nat.eq_zero_or_pos m with h0 | h0
      · exact h0
      · obtain ⟨_, _, h, _⟩ := hr.2.2 h0
        cases h
    subst hm
    have hx : xs = [] := List.eq_nil_of_length_eq_zero hxl
    subst hx
    refine ⟨w, ?_, by simpa using hown, World.grownBy.refl w _⟩
    simp [Builtin.append_, run_underlying ht, sizeOf, typeInfo, hi, Builtin.lenOf, Builtin.firstCells, show zs.length ≤ cap by omega, storeCells]
  · have hcells : ∀ j u, (xs.map (Value.int k))[j]? = some u → w.cell? (ad.add j) = some u := by
      intro j u hu
      have hj : j < m := by
        have := (List.getElem?_eq_some_iff.1 hu).1
        simp at this
        omega
      obtain ⟨b, off, h, _, hc⟩ := hr.at_ hj
      injection h with h
      subst h
      have e : (Addr.mk b off none).add j = ⟨b, off + j, none⟩ := by unfold Addr.add; split <;> simp_all
      rw [e, hc, ← hu]
      simp [List.getD_eq_getElem?_getD, show j < xs.length by omega]
    obtain ⟨w', hrun, r1, r2⟩ := run_append_fits (P := P) w base ts ty e i 1 ht hi hsz g zs.length cap (zs.map (Value.int k)) hown.2 ad m c (xs.map (Value.int k)) (by simp [hxl]) hcells
      (by intro u hu; obtain ⟨z, _, rfl⟩ := List.mem_map.1 hu; rfl) hfit
    refine ⟨w', hrun, ⟨hwf, ?_⟩, r2⟩
    rw [List.length_append, List.map_append, hxl]
    exact r1

theorem wpList_append_ints_fits {P : Program} (w : World) {ops : Array Oper} {rest : List Oper} {o : Oper} {a : Act} {Q : Exit → Act → World → Prop} (hgd : o.guard = none) (s x : Operand) (ts : TypeId)
    (ho : o.op = .call { callee := .builtin .append, args := #[s, x], argTypes := #[ts, ts] }) (base : Nat) (e : TypeId) (k : IntKind) (bytes : Nat) (ht : P.underlying ts = some (.slice e))
    (hinfo : (P.info? e).map (fun i => (i.zero, i.size, i.bytes)) = some (some (.int k 0), 1, bytes)) (g cap : Nat) (zs : List Int) (hs : a.eval s = .slice (some ⟨g, 0, none⟩) zs.length cap)
    (hown : Own w base e k (.slice (some ⟨g, 0, none⟩) zs.length cap) zs)
    (B : Nat) (A : Option Addr) (m c : Nat) (xs : List Int) (hx : a.eval x = .slice A m c) (hr : Ints w k B A m xs) (hfit : zs.length + m ≤ cap)
    (h : ∀ w', Own w' base e k (.slice (some ⟨g, 0, none⟩) (zs.length + m) cap) (zs ++ xs) → w.grownBy w' (some g) → wpList P ops Q rest (a.put o.dst (.slice (some ⟨g, 0, none⟩) (zs.length + m) cap)) w') :
    wpList P ops Q (o :: rest) a w := by
  refine wpList_plain hgd fun _ hK => ?_
  obtain ⟨w', hrun, h2, h3⟩ := run_append_ints_fits (P := P) w base ts o.type e k bytes ht hinfo g cap zs hown B A m c xs hr hfit
  unfold Oper.wp execOp
  simp only [ho, resolve, invoke, builtin, Sem.run_bind, Sem.run_pure, Result.andThen_ok, List.map_toArray, List.map_cons, List.map_nil, hs, hx, hrun]
  exact hK _ _ (h w' h2 h3)

/-- block g is just the numbers zs -/
def Row (w : World) (g : Nat) (t : TypeId) (k : IntKind) (zs : List Int) : Prop := (∀ z ∈ zs, (Lit.int k z).wf = true) ∧ w.heap[g]? = some (.cells (zs.map (Value.int k)).toArray t (0, 0))
section
variable {w w' : World} {g : Nat} {t : TypeId} {k : IntKind} {zs : List Int}
theorem Row.lt (h : Row w g t k zs) : g < w.heap.size := (Array.getElem?_eq_some_iff.1 h.2).1
theorem Row.cell (h : Row w g t k zs) {i : Nat} (hi : i < zs.length) : w.cell? ⟨g, i, none⟩ = some (.int k (zs.getD i 0)) := by
  rw [cell_of_row w g i _ t (0, 0) h.2]
  simp [List.getD_eq_getElem?_getD, hi]
theorem Row.frozen (h : Row w g t k zs) (i : Nat) : w.frozen? ⟨g, i, none⟩ = false := by simp [World.frozen?, h.2]
theorem Row.below {B : Nat} (h : Row w g t k zs) (hb : Below B w w') (hg : g < B) : Row w' g t k zs := ⟨h.1, (hb.block g hg).trans h.2⟩
theorem Row.grown {row : Option Nat} (h : Row w g t k zs) (hb : w.grownBy w' row) (hg : some g ≠ row) : Row w' g t k zs := ⟨h.1, (hb.block g h.lt hg).trans h.2⟩
theorem Row.ints (h : Row w g t k zs) {n : Nat} (hn : n ≤ zs.length) : Ints w k w.heap.size (some ⟨g, 0, none⟩) n (zs.take n) :=
  ⟨by simp; omega, fun z hz => h.1 z (List.mem_of_mem_take hz), fun _ => ⟨g, 0, rfl, h.lt, fun i hi => by
    rw [Nat.zero_add, h.cell (by omega)]
    simp [List.getD_eq_getElem?_getD, hi]⟩⟩
theorem Row.own (h : Row w g t k zs) {base : Nat} (hb : base ≤ g) {n : Nat} (hn : n ≤ zs.length) (hm : zs.length ≤ maxLen) : Own w base t k (.slice (some ⟨g, 0, none⟩) n zs.length) (zs.take n) := by
  refine ⟨fun z hz => h.1 z (List.mem_of_mem_take hz), by simp, .inr ⟨g, zs.length, _, ?_, hb, h.2, ?_, hm, by simp, ?_⟩⟩
  · congr 1; simp; omega
  · simp; omega
  · simp only [Nat.mul_one]; rw [List.length_take, Nat.min_eq_left hn, List.map_take]
end

/-- block g has cap cells; the first k are those of L -/
def Fill (w : World) (g : Nat) (t : TypeId) (cap : Nat) (L : List Value) (k : Nat) : Prop :=
  ∃ cur : Array Value, w.heap[g]? = some (.cells cur t (0, 0)) ∧ cur.size = cap ∧ cur.toList.take k = L.take k
section
variable {w w' : World} {g : Nat} {t : TypeId} {cap : Nat} {L : List Value} {k : Nat}
theorem Fill.new (w : World) (t : TypeId) (cur : Array Value) (L : List Value) : Fill (w.alloc (.cells cur t)) w.heap.size t cur.size L 0 := ⟨cur, heap_alloc_new w _, rfl, by simp⟩
theorem Fill.lt (h : Fill w g t cap L k) : g < w.heap.size := by obtain ⟨cur, h, _⟩ := h; exact (Array.getElem?_eq_some_iff.1 h).1
theorem Fill.frozen (h : Fill w g t cap L k) (i : Nat) : w.frozen? ⟨g, i, none⟩ = false := by obtain ⟨cur, h, _⟩ := h; simp [World.frozen?, h]
theorem Fill.cell (h : Fill w g t cap L k) {i : Nat} (hi : i < cap) : ∃ u, w.cell? ⟨g, i, none⟩ = some u := by
  obtain ⟨cur, h, hs, _⟩ := h
  rw [cell_of_row w g i _ t (0, 0) h]
  exact ⟨cur[i], Array.getElem?_eq_getElem (by omega)⟩
theorem Fill.read (h : Fill w g t cap L k) {i : Nat} (hi : i < k) {u : Value} (hu : L[i]? = some u) : w.cell? ⟨g, i, none⟩ = some u := by
  obtain ⟨cur, h, hs, e⟩ := h
  rw [cell_of_row w g i _ t (0, 0) h]
  have := congrArg (fun l => l[i]?) e
  simp only [List.getElem?_take, hi, if_true] at this
  rw [hu] at this
  simpa using this
theorem Fill.step (h : Fill w g t cap L k) {u : Value} (hu : L[k]? = some u) (hk : k < cap) : Fill (w.setCell ⟨g, k, none⟩ u) g t cap L (k + 1) := by
  obtain ⟨cur, h, hs, e⟩ := h
  refine ⟨cur.setIfInBounds k u, by simp [World.setCell, Array.getElem?_modify, h], by simpa using hs, ?_⟩
  rw [Array.toList_setIfInBounds, List.take_add_one, List.take_add_one, hu, List.take_set, List.getElem?_set]
  simp only [Array.length_toList, hs, hk, if_true]
  rw [List.set_eq_of_length_le (by simp; omega), e]
theorem Fill.keep (h : Fill w g t cap L k) (hb : w'.heap[g]? = w.heap[g]?) : Fill w' g t cap L k := by
  obtain ⟨cur, h, hs, e⟩ := h
  exact ⟨cur, hb.trans h, hs, e⟩
theorem Fill.done (h : Fill w g t cap L k) (hk : cap ≤ k) (hl : L.length = cap) : w.heap[g]? = some (.cells L.toArray t (0, 0)) := by
  obtain ⟨cur, h, hs, e⟩ := h
  rw [List.take_of_length_le (by simp; omega), List.take_of_length_le (by omega)] at e
  rw [h, ← e]
theorem Own.fill {base n : Nat} {kd : IntKind} {zs : List Int} (h : Own w base t kd (.slice (some ⟨g, 0, none⟩) n cap) zs) {M : List Value} (hM : M.take n = zs.map (Value.int kd)) : Fill w g t cap M n := by
  rcases h.2.2 with ⟨e, _⟩ | ⟨g', cap', cur, e, hb, hg, hnc, hcm, hcs, ht⟩
  · cases e
  · injection e with e1 e2 e3
    injection e1 with e1
    injection e1 with e1
    subst e1
    subst e3
    refine ⟨cur, hg, by simpa using hcs, ?_⟩
    rw [hM, ← ht, e2, Nat.mul_one]
end

/-- bytes that read as a list, as a string -/
theorem run_text {P : Program} (w : World) (src dst e : TypeId) (hs : P.underlying src = some (.slice e)) (he : P.underlying e = some (.int .u8)) (hd : P.underlying dst = some .string)
    (B : Nat) (A : Option Addr) (n c : Nat) (zs : List Int) (h : Ints w .u8 B A n zs) :
    (convert src dst (.slice A n c)).run P w = .ok (.string (strOfNums zs)) w := by
  rcases A with _ | ad
  · have hn : n = 0 := by
      rcases Nat.eq_zero_or_pos n with h0 | h0
      · exact h0
      · obtain ⟨_, _, h, _⟩ := h.2.2 h0
        cases h
    subst hn
    have hz : zs = [] := List.eq_nil_of_length_eq_zero h.1
    subst hz
    rw [run_convert_bytes_string w src dst e none 0 c hs he hd]
    rfl
  · by_cases hn : 0 < n
    · obtain ⟨b, off, e1, _, hc⟩ := h.2.2 hn
      injection e1 with e1
      subst e1
      exact run_convert_bytes_arg w src e hs he b off n c zs h.1 hc dst hd
    · have hn : n = 0 := by omega
      subst hn
      have hz : zs = [] := List.eq_nil_of_length_eq_zero h.1
      subst hz
      rw [run_convert_bytes_string w src dst e (some ad) 0 c hs he hd]
      exact run_bytesToString w ad 0 c [] (by simp [loadCells, loadCellsFrom])

theorem text_inj {xs ys : List Int} (hx : ∀ z ∈ xs, (Lit.int .u8 z).wf = true) (hy : ∀ z ∈ ys, (Lit.int .u8 z).wf = true) : ((strOfNums xs).toList = (strOfNums ys).toList) ↔ xs = ys := by
  constructor
  · intro h1
    rw [ByteArray.toList_eq, ByteArray.toList_eq, strOfNums_data, strOfNums_data] at h1
    have hl : xs.length = ys.length := by simpa using congrArg List.length h1
    apply List.ext_getElem hl
    intro i h2 h3
    have := congrArg (fun l => l[i]?) h1
    simp only [List.getElem?_map, List.getElem?_eq_getElem h2, List.getElem?_eq_getElem h3, Option.map_some, Option.some.injEq] at this
    have bx := wf_u8 (hx _ (List.getElem_mem h2))
    have by' := wf_u8 (hy _ (List.getElem_mem h3))
    have e := congrArg UInt8.toNat this
    simp only [UInt8.toNat_ofNat'] at e
    omega
  · intro h; rw [h]
end Go.Proofs.YtebcejncjljmhaaDoor.Mem
namespace Go.Proofs.YtebcejncjljmhaaDoor.Mem
open Go.RowKit
set_option linter.unusedVariables false

/-- numbers as an array by value -/
def arr (k : IntKind) (zs : List Int) : Array Value := (zs.map (Value.int k)).toArray
theorem arr_size (k : IntKind) (zs : List Int) : (arr k zs).size = zs.length := by simp [arr]
theorem arr_get (k : IntKind) (zs : List Int) {i : Nat} (h : i < zs.length) : (arr k zs)[i]? = some (.int k (zs.getD i 0)) := by
  simp [arr, List.getD_eq_getElem?_getD, h]
theorem arr_one (k : IntKind) (zs : List Int) : (arr k zs).all (·.oneCell') = true := by
  rw [Array.all_eq_true_iff_forall_mem]
  intro v hv
  simp only [arr, List.mem_toArray, List.mem_map] at hv
  obtain ⟨z, _, rfl⟩ := hv
  rfl

theorem run_index_arr {P : Program} (t e : TypeId) (n : Nat) (k : IntKind) (zs : List Int) (i : Nat) (w : World) (ht : P.underlying t = some (.array n e)) (hs : (P.info? e).map (·.size) = some 1) (hp : P.plainKey e = true)
    (hn : zs.length = n) (hi : i < n) : (Instr.index t (.agg (arr k zs)) (.int .i64 (i : Int))).run P w = .ok (.int k (zs.getD i 0)) w := by
  have h1 : (0 : Int) ≤ (i : Int) ∧ (i : Int) < (n : Int) := by omega
  have hz : (sizeOf e).run P w = .ok 1 w := by
    cases hq : P.info? e with
    | none => simp [hq] at hs
    | some q => simp [hq] at hs; simp [sizeOf, typeInfo, hq, hs]
  have hpt := run_part_plain (P := P) w hp (xs := arr k zs) (off := i) (arr_get k zs (by omega))
  simp [Instr.index, run_underlying ht, asIntOf, h1, hz, hpt, Sem.run_bind, Result.andThen]
  omega

section
variable {w w' : World} {g : Nat} {t : TypeId} {k : IntKind} {zs : List Int}
theorem Row.set (h : Row w g t k zs) (i : Nat) {z : Int} (hz : (Lit.int k z).wf = true) : Row (w.setCell ⟨g, i, none⟩ (.int k z)) g t k (zs.set i z) := by
  refine ⟨fun y hy => ?_, ?_⟩
  · rcases List.mem_or_eq_of_mem_set hy with h1 | h1
    · exact h.1 y h1
    · rw [h1]; exact hz
  · have hg := h.2
    simp only [World.setCell, Array.getElem?_modify, hg, if_true, Option.map_some, Obj.cells.injEq, Option.some.injEq]
    refine ⟨?_, trivial, trivial⟩
    rw [List.map_set]
    simp
theorem Row.other (h : Row w g t k zs) {p : Addr} (hp : p.block ≠ g) (v : Value) : Row (w.setCell p v) g t k zs := ⟨h.1, (heap_setCell_other w p g v (fun e => hp e.symm)).trans h.2⟩
theorem Row.alloc (h : Row w g t k zs) (o : Obj) : Row (w.alloc o) g t k zs := ⟨h.1, (Below.heap_alloc w o g h.lt).trans h.2⟩
theorem Row.drewN (h : Row w g t k zs) (m : Nat) : Row (w.drewN m) g t k zs := h
theorem Row.new (w : World) (t : TypeId) (hz : ∀ z ∈ zs, (Lit.int k z).wf = true) : Row (w.alloc (.cells (arr k zs) t)) w.heap.size t k zs := ⟨hz, heap_alloc_new w _⟩
theorem Row.setRow {old : List Int} (h : Row w g t k old) (hz : ∀ z ∈ zs, (Lit.int k z).wf = true) : Row (w.setRow g (arr k zs)) g t k zs := ⟨hz, setRow_heap w g _ _ t (0, 0) h.2⟩
theorem Row.setRow_other (h : Row w g t k zs) {g' : Nat} (hg : g' ≠ g) (cs : Array Value) : Row (w.setRow g' cs) g t k zs := ⟨h.1, (Go.setRow_other w g' g cs hg.symm).trans h.2⟩
theorem grown_setRow (w : World) (g : Nat) (cs : Array Value) : w.grownBy (w.setRow g cs) (some g) :=
  ⟨rfl, rfl, rfl, by simp, fun j _ hne => setRow_other w g j cs (fun e => hne (by rw [e]))⟩
end

section
variable {P : Program} {ops : Array Oper} {rest : List Oper} {o : Oper} {a : Act} {w : World} {Q : Exit → Act → World → Prop}
theorem wpList_load_Row (hgd : o.guard = none) (ty : TypeId) (x : Operand) (ho : o.op = .load ty x) (g : Nat) (hx : a.eval x = .pointer (some ⟨g, 0, none⟩)) (t : TypeId) (k : IntKind) (zs : List Int) (hr : Row w g t k zs)
    (n : Nat) (e : TypeId) (hu : P.underlying ty = some (.array n e)) (hi : (P.info? ty).map (·.size) = some n) (hn : zs.length = n)
    (h : wpList P ops Q rest (a.put o.dst (.agg (arr k zs))) w) : wpList P ops Q (o :: rest) a w :=
  wpList_load_row hgd ty x ho g hx t (arr k zs) (0, 0) _ hr.2 hu rfl (by rw [hi, arr_size, hn]) h
theorem wpList_store_Row (hgd : o.guard = none) (ty : TypeId) (x y : Operand) (ho : o.op = .store ty x y) (g : Nat) (hx : a.eval x = .pointer (some ⟨g, 0, none⟩)) (t : TypeId) (k : IntKind) (old zs : List Int) (hy : a.eval y = .agg (arr k zs))
    (hr : Row w g t k old) (n : Nat) (hi : (P.info? ty).map (·.size) = some n) (hn : zs.length = n) (ho' : old.length = n)
    (h : wpList P ops Q rest (a.put o.dst undef) (w.setRow g (arr k zs))) : wpList P ops Q (o :: rest) a w :=
  wpList_store_row hgd ty x y ho g (arr k zs) hx hy t _ hr.2 (by rw [hi, arr_size, hn]) (by simp [arr, ho', hn]) (arr_one k zs) h
end

theorem run_slice_arr_lh {P : Program} (t e : TypeId) (n g l h : Nat) (w : World) (ht : P.underlying t = some (.array n e)) (hs : (P.info? e).map (·.size) = some 1) (hl : l < n) (hh : l ≤ h) (hn : h ≤ n) :
    (Instr.sliceAt t (.pointer (some ⟨g, 0, none⟩)) (some (.int .i64 (l : Int))) (some (.int .i64 (h : Int))) none).run P w = .ok (.slice (some ⟨g, l, none⟩) (h - l) (n - l)) w := by
  have hz : (sizeOf e).run P w = .ok 1 w := by
    cases hq : P.info? e with
    | none => simp [hq] at hs
    | some q => simp [hq] at hs; simp [sizeOf, typeInfo, hq, hs]
  have e0 : ¬ n = l := by omega
  have ea : (Addr.mk g 0 none).add l = ⟨g, l, none⟩ := by unfold Addr.add; split <;> simp_all
  simp [Instr.sliceAt, Instr.sureAddr, run_underlying ht, Instr.sliceBounds, run_sliceBound, hz, Sem.run_bind, Result.andThen, e0, ea, (by omega : (l : Int) ≤ h), (by omega : (h : Int) ≤ n)]
theorem run_slice_arr_l {P : Program} (t e : TypeId) (n g l : Nat) (w : World) (ht : P.underlying t = some (.array n e)) (hs : (P.info? e).map (·.size) = some 1) (hl : l < n) :
    (Instr.sliceAt t (.pointer (some ⟨g, 0, none⟩)) (some (.int .i64 (l : Int))) none none).run P w = .ok (.slice (some ⟨g, l, none⟩) (n - l) (n - l)) w := by
  have hz : (sizeOf e).run P w = .ok 1 w := by
    cases hq : P.info? e with
    | none => simp [hq] at hs
    | some q => simp [hq] at hs; simp [sizeOf, typeInfo, hq, hs]
  have e0 : ¬ n = l := by omega
  have ea : (Addr.mk g 0 none).add l = ⟨g, l, none⟩ := by unfold Addr.add; split <;> simp_all
  simp [Instr.sliceAt, Instr.sureAddr, run_underlying ht, Instr.sliceBounds, run_sliceBound, hz, Sem.run_bind, Result.andThen, e0, ea, (by omega : (l : Int) ≤ n)]

theorem wpList_build_Row {P : Program} {ops : Array Oper} {rest : List Oper} {o : Oper} {a : Act} {w : World} {Q : Exit → Act → World → Prop} (hg : o.guard = none) (t : TypeId) (parts : Array (Nat × Operand)) (ho : o.op = .build t parts) (k : IntKind) (zs : List Int)
    (hf : P.built t (parts.map fun (i, x) => (i, a.eval x)).toList = some (arr k zs)) (h : wpList P ops Q rest (a.put o.dst (.agg (arr k zs))) w) : wpList P ops Q (o :: rest) a w :=
  wpList_build hg t parts ho (by rw [hf]; rfl) (by rw [hf]; exact h)

theorem made_zeros (k : IntKind) (n : Nat) : madeCells #[Value.int k 0] n = arr k (List.replicate n 0) := by
  apply Array.ext
  · simp [madeCells, arr]
  · intro i h1 h2
    simp [madeCells, arr, Nat.mod_one]

theorem wpList_make_Row {P : Program} (w : World) {ops : Array Oper} {rest : List Oper} {o : Oper} {a : Act} {Q : Exit → Act → World → Prop} (hg : o.guard = none) (l c : Operand) (t : TypeId) (hop : o.op = Op.makeSlice t l c)
    (e : TypeId) (k : IntKind) (bytes : Nat) (ht : P.underlying t = some (.slice e)) (hinfo : (P.info? e).map (fun i => (i.zero, i.size, i.bytes)) = some (some (.int k 0), 1, bytes))
    (kl kc : IntKind) (N M : Int) (n : Nat) (hl : a.eval l = .int kl N) (hc : a.eval c = .int kc M) (hN : N = (n : Int)) (hM : M = (n : Int)) (hby : bytes ≤ 8) (hn : n ≤ 17592186044416)
    (hK : ∀ w', Row w' w.heap.size e k (List.replicate n 0) → w.grownBy w' none → w'.heap.size = w.heap.size + 1 → wpList P ops Q rest (a.put o.dst (.slice (some ⟨w.heap.size, 0, none⟩) n n)) w') :
    wpList P ops Q (o :: rest) a w := by
  obtain ⟨i, hi, hz, hs, hb⟩ := info_parts hinfo
  subst hN
  subst hM
  refine wpList_make_row w hg l c t hop e i (.int k 0) ht hi hz hs rfl kl kc n hl hc (by rw [hb]; exact Nat.le_trans (Nat.mul_le_mul hby hn) (by omega)) (by omega) ?_
  refine hK _ ?_ (World.grownBy_alloc w _ none) (by simp)
  rw [made_zeros]
  exact Row.new w e (fun z hz => by rw [List.eq_of_mem_replicate hz]; cases k <;> decide)

theorem results_Row {P : Program} {fn : Func} {p : Tmp} {ty : TypeId} (h : fn.results = #[.cell p ty]) (tmps : Array Value) (w : World) (g : Nat) (t : TypeId) (k : IntKind) (zs : List Int) (hp : tmps.getD p undef = .pointer (some ⟨g, 0, none⟩))
    (hr : Row w g t k zs) (n : Nat) (e : TypeId) (hu : P.underlying ty = some (.array n e)) (hi : (P.info? ty).map (·.size) = some n) (hn : zs.length = n) : (results fn tmps).run P w = .ok (.agg (arr k zs)) w :=
  results_cell_row h tmps w g t (arr k zs) (0, 0) _ hp hr.2 hu rfl (by rw [hi, arr_size, hn])
end Go.Proofs.YtebcejncjljmhaaDoor.Mem
namespace Go
namespace Proofs.YtebcejncjljmhaaDoor.Mem

theorem eql_arr {P : Program} (w : World) (t e : TypeId) (n : Nat) (k : IntKind) (zs : List Int) (ht : P.underlying t = some (.array n e)) (he : P.underlying e = some (.int k)) (hs : (P.info? e).map (·.size) = some 1) (hx : zs.length = n) :
    (binOp .eql t (.agg (arr k zs)) (.agg (arr k zs))).run P w = .ok (.bool true) w := by
  obtain ⟨inf, hi, h1⟩ := Option.map_eq_some_iff.1 hs
  have hc : P.cellsOf e = 1 := by simp [Program.cellsOf, hi, h1]
  have key : (Op.equalIn (9998 + 1 + 1) t (.agg (arr k zs)) (.agg (arr k zs))).run P w = .ok true w := by
    rw [run_equalIn_array w (9998 + 1) _ _ ht hi, hc]
    have hl : ∀ i ∈ List.range n, i < n := fun i hi => List.mem_range.1 hi
    generalize List.range n = l at hl ⊢
    induction l with
    | nil => simp [Op.eqItems]
    | cons i l ih =>
      have hi : i < n := hl i (by simp)
      have px : (part e (arr k zs) (i * 1)).run P w = .ok (.int k (zs.getD i 0)) w := by
        have := arr_get k zs (i := i) (by omega)
        simp [part, isAgg, run_underlying he, this]
      have pe : (Op.equalIn (9998 + 1) e (.int k (zs.getD i 0)) (.int k (zs.getD i 0))).run P w = .ok true w := by
        rw [run_equalIn_int w 9998 e k k _ _ he]
        simp
      rw [Op.eqItems]
      simp only [Sem.run_bind, px, pe, Result.andThen_ok, Bool.not_true, Bool.false_eq_true, if_false]
      exact ih fun j hj => hl j (by simp [hj])
  rw [run_eql_struct, show (10000 : Nat) = 9998 + 1 + 1 from rfl, key]
  rfl

end Proofs.YtebcejncjljmhaaDoor.Mem
end Go
namespace Go.Proofs.YtebcejncjljmhaaDoor.Mem
open Go.RowKit
set_option linter.unusedVariables false

/-- the slice at A, of n cells, below block B, reads as the list vs -/
def Vals (w : World) (B : Nat) (A : Option Addr) (n : Nat) (vs : List Value) : Prop :=
  vs.length = n ∧ (∀ v ∈ vs, v.oneCell' = true) ∧ (0 < n → ∃ b off, A = some ⟨b, off, none⟩ ∧ b < B ∧ ∀ i, i < n → w.cell? ⟨b, off + i, none⟩ = some (vs.getD i undef))

section
variable {w w' : World} {B B' n : Nat} {A : Option Addr} {vs : List Value}
theorem Vals.nil (w : World) (B : Nat) (A : Option Addr) : Vals w B A 0 [] := ⟨rfl, by simp, fun h => absurd h (by omega)⟩
theorem Vals.keep (h : Vals w B A n vs) (hk : ∀ p : Addr, p.block < B → w'.cell? p = w.cell? p) : Vals w' B A n vs :=
  ⟨h.1, h.2.1, fun hn => by
    obtain ⟨b, off, e, hb, hc⟩ := h.2.2 hn
    exact ⟨b, off, e, hb, fun i hi => (hk ⟨b, off + i, none⟩ hb).trans (hc i hi)⟩⟩
theorem Vals.more (h : Vals w B A n vs) (hB : B ≤ B') : Vals w B' A n vs :=
  ⟨h.1, h.2.1, fun hn => by
    obtain ⟨b, off, e, hb, hc⟩ := h.2.2 hn
    exact ⟨b, off, e, by omega, hc⟩⟩
theorem Vals.below (h : Vals w B A n vs) (hb : Below B w w') : Vals w' B A n vs := h.keep fun _ hp => hb.cell hp
theorem Vals.drewN (h : Vals w B A n vs) (m : Nat) : Vals (w.drewN m) B A n vs := h
theorem Vals.alloc (h : Vals w B A n vs) (hB : B ≤ w.heap.size) (o : Obj) : Vals (w.alloc o) B A n vs := h.keep fun p hp => World.cell?_alloc_lt w o p (by omega)
theorem Vals.at_ (h : Vals w B A n vs) {i : Nat} (hi : i < n) : ∃ b off, A = some ⟨b, off, none⟩ ∧ b < B ∧ w.cell? ⟨b, off + i, none⟩ = some (vs.getD i undef) := by
  obtain ⟨b, off, e, hb, hc⟩ := h.2.2 (by omega)
  exact ⟨b, off, e, hb, hc i hi⟩
end

theorem Vals.new (w : World) (t : TypeId) (vs : List Value) (h1 : ∀ v ∈ vs, v.oneCell' = true) : Vals (w.alloc (.cells vs.toArray t)) (w.heap.size + 1) (some ⟨w.heap.size, 0, none⟩) vs.length vs :=
  ⟨rfl, h1, fun hn => ⟨w.heap.size, 0, rfl, by omega, fun i hi => by
    rw [cell_of_row _ _ _ _ t (0, 0) (heap_alloc_new w _)]
    simp [List.getD_eq_getElem?_getD, hi]⟩⟩

theorem ownsRow_vals {w : World} {base : Nat} {e : TypeId} {A : Option Addr} {n c : Nat} {vs : List Value} (h : w.ownsRow base e 1 (.slice A n c) n vs) (h1 : ∀ v ∈ vs, v.oneCell' = true) : Vals w w.heap.size A n vs := by
  have hl : vs.length = n := by simpa using h.1
  refine ⟨hl, h1, fun hn => ?_⟩
  rcases h.2 with ⟨hv, h0⟩ | ⟨g, cap, cur, hv, hb, hg, hnc, hcm, hcs, ht⟩
  · omega
  · injection hv with e1 e2 e3
    subst e1
    refine ⟨g, 0, rfl, (Array.getElem?_eq_some_iff.1 hg).1, fun i hi => ?_⟩
    have hc := h.cells (g := g) rfl i (vs.getD i undef) (by simp [List.getD_eq_getElem?_getD, show i < vs.length by omega])
    have e : (Addr.mk g 0 none).add i = ⟨g, 0 + i, none⟩ := by unfold Addr.add; split <;> simp_all
    rwa [e] at hc

/-- append, of a list of values (nil or not), onto what the call owns -/
theorem run_append_vals {P : Program} (w : World) (base : Nat) (ts ty e : TypeId) (z : Value) (bytes : Nat) (ht : P.underlying ts = some (.slice e))
    (hinfo : (P.info? e).map (fun i => (i.zero, i.size, i.bytes)) = some (some z, 1, bytes)) (hzc : z.cells.size = 1) (v : Value) (n : Nat) (zs : List Value) (hown : w.ownsRow base e 1 v n zs)
    (B : Nat) (A : Option Addr) (m c : Nat) (xs : List Value) (hr : Vals w B A m xs) (hlen : n + m ≤ 1099511627776) (hby : bytes ≤ 64) (hbase : base ≤ w.heap.size) :
    ∃ v' w', (Builtin.append_ #[ts, ts] ty #[v, .slice A m c]).run P w = .ok v' w' ∧ w'.ownsRow base e 1 v' (n + m) (zs ++ xs) ∧ w.grownBy w' v.ownBlock ∧
      (v'.ownBlock = v.ownBlock ∨ v'.ownBlock = some w.heap.size) := by
  obtain ⟨i, hi, hz, hsz, hb⟩ := info_parts hinfo
  have hxl := hr.1
  rcases A with _ | ad
  · have hm : m = 0 := by
      rcases Nat.eq_zero_or_pos m with h0 | h0
      · exact h0
      · obtain ⟨_, _, h, _⟩ := hr.2.2 h0
        cases h
    subst hm
    have hx : xs = [] := List.eq_nil_of_length_eq_zero hxl
    subst hx
    refine ⟨v, w, ?_, by simpa using hown, World.grownBy.refl w _, .inl rfl⟩
    rcases hown.2 with ⟨rfl, hn0⟩ | ⟨g, cap, cur, rfl, _, _, hnc, _⟩
    · simp [Builtin.append_, run_underlying ht, sizeOf, typeInfo, hi, Builtin.lenOf, Builtin.firstCells]
    · simp [Builtin.append_, run_underlying ht, sizeOf, typeInfo, hi, Builtin.lenOf, Builtin.firstCells, hnc, storeCells]
  · have hcells : ∀ j u, xs[j]? = some u → w.cell? (ad.add j) = some u := by
      intro j u hu
      have hj : j < m := by
        have := (List.getElem?_eq_some_iff.1 hu).1
        omega
      obtain ⟨b, off, h, _, hc⟩ := hr.at_ hj
      injection h with h
      subst h
      have e : (Addr.mk b off none).add j = ⟨b, off + j, none⟩ := by unfold Addr.add; split <;> simp_all
      rw [e, hc, ← hu]
      simp [List.getD_eq_getElem?_getD, show j < xs.length by omega]
    obtain ⟨v', w', hrun, h2, h3, _, h5⟩ := run_append_own_at (P := P) w base ts ty e i z 1 bytes ht hi hz hsz hb hzc (by omega) v n zs hown ad m c
      xs (by simp [hxl]) hcells hr.2.1 (by simp only [maxLen]; omega) (Nat.le_trans (Nat.mul_le_mul hlen hby) (by omega)) hbase
    exact ⟨v', w', hrun, h2, h3, h5⟩

theorem wpList_append_vals {P : Program} (w : World) {ops : Array Oper} {rest : List Oper} {o : Oper} {a : Act} {Q : Exit → Act → World → Prop} (hgd : o.guard = none) (s x : Operand) (ts : TypeId)
    (ho : o.op = .call { callee := .builtin .append, args := #[s, x], argTypes := #[ts, ts] }) (base : Nat) (e : TypeId) (z : Value) (bytes : Nat) (ht : P.underlying ts = some (.slice e))
    (hinfo : (P.info? e).map (fun i => (i.zero, i.size, i.bytes)) = some (some z, 1, bytes)) (hzc : z.cells.size = 1) (v : Value) (n : Nat) (zs : List Value) (hs : a.eval s = v) (hown : w.ownsRow base e 1 v n zs)
    (B : Nat) (A : Option Addr) (m c : Nat) (xs : List Value) (hx : a.eval x = .slice A m c) (hr : Vals w B A m xs) (hlen : n + m ≤ 1099511627776) (hby : bytes ≤ 64) (hbase : base ≤ w.heap.size)
    (h : ∀ v' w', w'.ownsRow base e 1 v' (n + m) (zs ++ xs) → w.grownBy w' v.ownBlock → (v'.ownBlock = v.ownBlock ∨ v'.ownBlock = some w.heap.size) → wpList P ops Q rest (a.put o.dst v') w') :
    wpList P ops Q (o :: rest) a w := by
  obtain ⟨v', w', hrun, h2, h3, h4⟩ := run_append_vals (P := P) w base ts o.type e z bytes ht hinfo hzc v n zs hown B A m c xs hr hlen hby hbase
  exact Lib.wpList_append_run w hgd s x ts ts ho v (.slice A m c) hs hx v' w' hrun (h v' w' h2 h3 h4)

/-- room for n, made of nothing -/
theorem run_grow_nil {P : Program} (w : World) (t tn ty e : TypeId) (z : Value) (bytes : Nat) (kn : IntKind) (ht : P.underlying t = some (.slice e)) (htn : P.underlying tn = some (.int kn))
    (hinfo : (P.info? e).map (fun i => (i.zero, i.size, i.bytes)) = some (some z, 1, bytes)) (hzc : z.cells.size = 1) (n : Nat) (h0 : 0 < n) (hn : n ≤ 1099511627776) (hby : bytes ≤ 64) :
    ∃ cap w', (Builtin.append_ #[t, tn] ty #[.slice none 0 0, .int .i64 (n : Int)]).run P w = .ok (.slice (some ⟨w.heap.size, 0, none⟩) n cap) w' ∧ n ≤ cap ∧ w'.ownsRow w.heap.size e 1 (.slice (some ⟨w.heap.size, 0, none⟩) 0 cap) 0 [] ∧ w.grownBy w' none ∧ cap ≤ maxLen := by
  obtain ⟨i, hi, hz, hsz, hb⟩ := info_parts hinfo
  have hge := grownCap_ge w n 0 e
  have hle := grownCap_le_maxLen w n 0 e (by unfold maxLen; omega)
  have hrun := Lib.run_append_nil_zeros (P := P) w t tn ty e i z .i64 kn ht htn hi hz n h0 (by omega) (by omega) (by rw [hb]; exact Nat.le_trans (Nat.mul_le_mul hn hby) (by omega))
  refine ⟨_, _, hrun, hge, ⟨rfl, .inr ⟨w.heap.size, _, _, rfl, Nat.le_refl _, heap_alloc_new w.drew _, Nat.zero_le _, hle, ?_, rfl⟩⟩, ⟨rfl, rfl, rfl, by simp, fun k hk _ => Below.heap_alloc w.drew _ k hk⟩, hle⟩
  simp only [Array.size_append, size_zeroCells, hzc, Nat.mul_one]
  omega
end Go.Proofs.YtebcejncjljmhaaDoor.Mem
namespace Go.Proofs.YtebcejncjljmhaaDoor.Mem
open Go.RowKit
set_option linter.unusedVariables false

theorem zeroCells_one (z : Value) (hz : z.cells = #[z]) (n : Nat) : Builtin.zeroCells z.cells n = (List.replicate n z).toArray := by
  rw [hz]
  apply Array.ext
  · simp [Builtin.zeroCells]
  · intro i h1 h2
    simp [Builtin.zeroCells, Nat.mod_one]

theorem run_append_zeros {P : Program} (w : World) (base : Nat) (ts tn ty e : TypeId) (k kn kq : IntKind) (bytes : Nat) (ht : P.underlying ts = some (.slice e)) (htn : P.underlying tn = some (.int kn))
    (hinfo : (P.info? e).map (fun i => (i.zero, i.size, i.bytes)) = some (some (.int k 0), 1, bytes)) (v : Value) (zs : List Int) (hown : Own w base e k v zs)
    (m : Nat) (hlen : zs.length + m ≤ 17592186044416) (hby : bytes ≤ 8) (hbase : base ≤ w.heap.size) :
    ∃ v' w', (Builtin.append_ #[ts, tn] ty #[v, .int kq (m : Int)]).run P w = .ok v' w' ∧ Own w' base e k v' (zs ++ List.replicate m 0) ∧ w.grownBy w' v.ownBlock ∧ (v'.ownBlock = v.ownBlock ∨ v'.ownBlock = some w.heap.size) := by
  obtain ⟨i, hi, hz, hsz, hb⟩ := info_parts hinfo
  have hw0 : (Lit.int k 0).wf = true := by cases k <;> decide
  have hwf : ∀ z ∈ zs ++ List.replicate m 0, (Lit.int k z).wf = true := fun z hz' => by
    rcases List.mem_append.1 hz' with h | h
    · exact hown.1 z h
    · rw [List.eq_of_mem_replicate h]; exact hw0
  have hzc : (Value.int k 0).cells = #[Value.int k 0] := rfl
  have hwrap : IntKind.i64.wrap (m : Int) = (m : Int) := by rw [IntKind.wrap_i64]; omega
  have hw00 : IntKind.i64.wrap (0 : Int) = 0 := by decide
  have hmb : (m : Int) * (bytes : Int) ≤ 281474976710656 := by
    have h2 : m * bytes ≤ 140737488355328 := Nat.le_trans (Nat.mul_le_mul (by omega : m ≤ 17592186044416) hby) (by decide)
    rw [← Int.natCast_mul]
    omega
  have hll : (zs ++ List.replicate m (0 : Int)).length = zs.length + m := by simp
  -- what the growing arm leaves
  have grown : ∀ (old : Nat), old < zs.length + m → ∀ (row : Option Nat),
      (w.drew.alloc (.cells ((zs.map (Value.int k)).toArray ++ Builtin.zeroCells (Value.int k 0).cells m ++ Builtin.zeroCells (Value.int k 0).cells (grownCap w (zs.length + m) old e - (zs.length + m))) e)).ownsRow base e 1
        (.slice (some ⟨w.heap.size, 0, none⟩) (zs.length + m) (grownCap w (zs.length + m) old e)) (zs.length + m) ((zs ++ List.replicate m 0).map (Value.int k)) ∧
      w.grownBy (w.drew.alloc (.cells ((zs.map (Value.int k)).toArray ++ Builtin.zeroCells (Value.int k 0).cells m ++ Builtin.zeroCells (Value.int k 0).cells (grownCap w (zs.length + m) old e - (zs.length + m))) e)) row := by
    intro old ho row
    have hge := grownCap_ge w (zs.length + m) old e
    have hcm : grownCap w (zs.length + m) old e ≤ maxLen := grownCap_le_maxLen w (zs.length + m) old e (by simp only [maxLen]; omega)
    refine ⟨⟨by simp, .inr ⟨w.heap.size, _, _, rfl, hbase, heap_alloc_new w.drew _, hge, hcm, ?_, ?_⟩⟩, ⟨rfl, rfl, rfl, by simp, fun k hk _ => heap_alloc_old w.drew _ hk⟩⟩
    · simp only [Array.size_append, List.size_toArray, size_zeroCells, hzc, List.length_map, List.size_toArray, List.length_cons, List.length_nil]
      omega
    · rw [zeroCells_one _ hzc m]
      simp only [Array.toList_append, List.append_assoc, List.map_append, List.map_replicate]
      rw [← List.append_assoc, show (zs.length + m) * 1 = (zs.map (Value.int k) ++ List.replicate m (Value.int k 0)).length by simp]
      exact List.take_left
  rcases hown.2.2 with ⟨rfl, h0⟩ | ⟨g, cap, cur, rfl, hbg, hg, hnc, hcm, hcs, htake⟩
  · have hx : zs = [] := List.eq_nil_of_length_eq_zero h0
    subst hx
    by_cases hm : m = 0
    · subst hm
      refine ⟨.slice none 0 0, w, ?_, by simpa using Own.nil w base e k, ⟨rfl, rfl, rfl, Nat.le_refl _, fun _ _ _ => rfl⟩, .inl rfl⟩
      simp [Builtin.append_, run_underlying ht, run_underlying htn, sizeOf, typeInfo, hi, asInt, asIntOf, hw00]
    · have hr := Lib.run_append_nil_zeros (P := P) w ts tn ty e i (.int k 0) kq kn ht htn hi hz m (by omega) (by omega) (by omega) (by rw [hb]; exact Nat.le_trans (Nat.mul_le_mul (by simpa using hlen) hby) (by omega))
      have hgr := grown 0 (by simp; omega) (Value.ownBlock (.slice none 0 0))
      simp only [List.length_nil, Nat.zero_add, List.map_nil, List.nil_append] at hgr hlen ⊢
      have ea : ((#[] : Array Value) ++ Builtin.zeroCells (Value.int k 0).cells m) = Builtin.zeroCells (Value.int k 0).cells m := by simp
      simp only [ea] at hgr
      exact ⟨_, _, hr, ⟨by simpa using hwf, by simpa using hgr.1⟩, hgr.2, .inr rfl⟩
  · by_cases hroom : zs.length + m ≤ cap
    · have hcs' : cur.size = cap := by simpa using hcs
      have hst := run_storeCells_at P g zs.length e (List.replicate m (Value.int k 0)) 0 cur w hg (by simp; omega) (fun v hv => by rw [List.eq_of_mem_replicate hv]; rfl)
      simp only [Nat.add_zero, List.length_replicate] at hst
      have hrun : (Builtin.append_ #[ts, tn] ty #[.slice (some ⟨g, 0, none⟩) zs.length cap, .int kq (m : Int)]).run P w =
          .ok (.slice (some ⟨g, 0, none⟩) (zs.length + m) cap) (w.setRow g (cur.toList.take zs.length ++ List.replicate m (Value.int k 0) ++ cur.toList.drop (zs.length + m)).toArray) := by
        by_cases hm : m = 0
        · subst hm
          have e1 : cur.toList.take zs.length ++ List.replicate 0 (Value.int k 0) ++ cur.toList.drop (zs.length + 0) = cur.toList := by simp
          rw [e1]
          simp only [List.replicate_zero] at hst
          simp [Builtin.append_, run_underlying ht, run_underlying htn, sizeOf, typeInfo, hi, asInt, asIntOf, hw00, hnc, Addr.add_lit, storeCells] at hst ⊢
          first | exact hst | simpa using hst
        · have hmi : ¬ ((m : Int) < 0) := by omega
          have hb2 : ¬ (281474976710656 < (m : Int) * (bytes : Int)) := by omega
          have hmz : ¬ m = 0 := hm
          simp [Builtin.append_, run_underlying ht, run_underlying htn, sizeOf, typeInfo, zeroValue, hi, hz, hsz, hb, asInt, asIntOf, hwrap, hmi, hb2, hmz, hroom, zeroCells_one _ hzc, Addr.add_lit, hst]
      refine ⟨_, _, hrun, ⟨hwf, by rw [hll]; simp, .inr ⟨g, cap, _, by rw [hll], hbg, setRow_heap w g cur _ e _ hg, by rw [hll]; exact hroom, hcm, ?_, ?_⟩⟩, ⟨rfl, rfl, rfl, by simp, fun k _ hk => setRow_other w g k _ (fun e => hk (by simp [Value.ownBlock, e]))⟩, .inl rfl⟩
      · simp only [List.size_toArray, List.length_append, List.length_take, List.length_drop, Array.length_toList, List.length_replicate]
        omega
      · have ht' : cur.toList.take zs.length = zs.map (Value.int k) := by simpa using htake
        rw [ht', hll, show (zs.length + m) * 1 = (zs.map (Value.int k) ++ List.replicate m (Value.int k 0)).length by simp, List.map_append, List.map_replicate]
        exact List.take_left
    · have holds := hown.2.cells (g := g) rfl
      have hf := run_firstCells_some (P := P) w.drew i.size zs.length ⟨g, 0, none⟩ zs.length cap (zs.map (Value.int k)) (by simp [hsz]) (by simpa using holds)
      have hr := Lib.run_append_grow_zeros (P := P) w ts tn ty e i (.int k 0) kq kn ht htn hi hz (some ⟨g, 0, none⟩) zs.length cap _ hf m (by omega) (by omega) (by omega) (by omega)
        (by rw [hb]; exact Nat.le_trans (Nat.mul_le_mul (by omega : m ≤ 17592186044416) hby) (by omega)) (growslice_fits (by omega) (by rw [hb]; exact Nat.le_trans (Nat.mul_le_mul hlen hby) (by omega)))
      have hgr := grown cap (by omega) (Value.ownBlock (.slice (some ⟨g, 0, none⟩) zs.length cap))
      exact ⟨_, _, hr, ⟨hwf, by rw [hll]; exact hgr.1⟩, hgr.2, .inr rfl⟩
end Go.Proofs.YtebcejncjljmhaaDoor.Mem
namespace Go.Proofs.YtebcejncjljmhaaDoor.Held
open Go.RowKit Go.Shelf Go.Proofs.YtebcejncjljmhaaDoor.Mem
set_option linter.unusedVariables false

section
variable {P : Program} {ops : Array Oper} {Q : Exit → Act → World → Prop} {md : Region.Mode} {S : World → Prop}
/-- what yields v in every world that meets S is taken first -/
theorem take (i : Nat) (d : Option Tmp) {oi : Oper} {v : Value} {fuel : Nat} {listed : Array Bool} {a : Act} {w : World} (hi : ops[i]? = some oi) (hd : oi.dst = d)
    (hs : Region.noSelect ops = true) (hf : Region.free md ops listed i = true) (hr : (Region.ready md ops listed).contains i = true)
    (hQ : ∀ c a w, Q (.panic c) (a.put d v) w → Q (.panic c) a w) (hw : Region.wanted oi (yielded ops a.tmps) = true) (hy : ∀ w, S w → (execOp a.eval oi).run P w = .ok (.value v) w) (hS : S w)
    (h : wpAnyH P md ops Q S fuel (listed.setIfInBounds i true) (a.put d v) w) : wpAnyH P md ops Q S (fuel + 1) listed a w := by
  subst hd
  exact wpAnyH_take hi hs hf hr hQ (.inl ⟨hw, hy⟩) hS h
/-- what comes up alone is carried out -/
theorem one (i : Nat) {fuel : Nat} {listed : Array Bool} {a : Act} {w : World} (hr : Region.ready md ops listed = [i])
    (h : wpOp P ops Q i (fun a' w' => S w' ∧ wpAnyH P md ops Q S fuel (listed.setIfInBounds i true) a' w') a w) : wpAnyH P md ops Q S (fuel + 1) listed a w := by
  refine wpAnyH_all hr (by simp) fun j hj => ?_
  obtain rfl := List.mem_singleton.1 hj
  exact h
/-- one of two comes up -/
theorem two (i j : Nat) {fuel : Nat} {listed : Array Bool} {a : Act} {w : World} (hr : Region.ready md ops listed = [i, j])
    (h1 : wpOp P ops Q i (fun a' w' => S w' ∧ wpAnyH P md ops Q S fuel (listed.setIfInBounds i true) a' w') a w) (h2 : wpOp P ops Q j (fun a' w' => S w' ∧ wpAnyH P md ops Q S fuel (listed.setIfInBounds j true) a' w') a w) : wpAnyH P md ops Q S (fuel + 1) listed a w := by
  refine wpAnyH_all hr (by simp) fun k hk => ?_
  rcases List.mem_cons.1 hk with rfl | hk
  · exact h1
  · obtain rfl := List.mem_singleton.1 hk
    exact h2
theorem three (i j k : Nat) {fuel : Nat} {listed : Array Bool} {a : Act} {w : World} (hr : Region.ready md ops listed = [i, j, k])
    (h1 : wpOp P ops Q i (fun a' w' => S w' ∧ wpAnyH P md ops Q S fuel (listed.setIfInBounds i true) a' w') a w) (h2 : wpOp P ops Q j (fun a' w' => S w' ∧ wpAnyH P md ops Q S fuel (listed.setIfInBounds j true) a' w') a w)
    (h3 : wpOp P ops Q k (fun a' w' => S w' ∧ wpAnyH P md ops Q S fuel (listed.setIfInBounds k true) a' w') a w) : wpAnyH P md ops Q S (fuel + 1) listed a w := by
  refine wpAnyH_all hr (by simp) fun l hk => ?_
  rcases List.mem_cons.1 hk with rfl | hk
  · exact h1
  · rcases List.mem_cons.1 hk with rfl | hk
    · exact h2
    · obtain rfl := List.mem_singleton.1 hk
      exact h3
theorem op_wp (i : Nat) {o : Oper} {a : Act} {w : World} {K : Act → World → Prop} (hi : ops[i]? = some o) (hw : Region.wanted o (yielded ops a.tmps) = true) (h : Oper.wp P o a w K Q) : wpOp P ops Q i K a w := by
  unfold wpOp
  simp only [hi, hw, if_true]
  exact .inl h
theorem op_call (i : Nat) (d : Option Tmp) {o : Oper} {a : Act} {w : World} {K : Act → World → Prop} (f : FuncId) (vals : Array Value) {xs : Array Operand} {ts : Array TypeId} {R : Ending → World → Prop} (hi : ops[i]? = some o) (hd : o.dst = d) (hw : Region.wanted o (yielded ops a.tmps) = true)
    (ho : o.op = .call { callee := .value (.func f), args := xs, argTypes := ts }) (he : Enters P f) (hv : xs.map a.eval = vals)
    (hc : Calls P f vals w R)
    (h : ∀ e w', R e w' → ∃ v, e = .returned v ∧ K (a.put d v) w') : wpOp P ops Q i K a w := by
  subst hd
  refine op_wp i hi hw ?_
  have hrun : (execOp a.eval o).run P w = .ok (.enter f vals) w := by
    unfold execOp
    simp only [ho, resolve, Act.eval, Deferred.ofValue, Sem.run_bind, Sem.run_pure, Result.andThen_ok, invoke, Array.empty_append, Array.append_empty, hv]
    exact he _ _
  unfold Oper.wp
  rw [hrun, Oper.upon_enter]
  refine hc.mono fun e w' hR => ?_
  obtain ⟨v, rfl, hW⟩ := h e w' hR
  exact hW
/-- a new list of values of one cell each -/
theorem op_build (i : Nat) (d : Option Tmp) {o : Oper} {a : Act} {w : World} {K : Act → World → Prop} (t e : TypeId) (len : Nat) {parts : Array (Nat × Operand)} (z : Value) (bytes : Nat) (vs : List Value) (hi : ops[i]? = some o) (hd : o.dst = d) (hw : Region.wanted o (yielded ops a.tmps) = true)
    (ho : o.op = .buildSlice t len parts) (hu : P.underlying t = some (.slice e)) (hinfo : (P.info? e).map (fun i => (i.zero, i.size, i.bytes)) = some (some z, 1, bytes))
    (hp : (parts.map fun (i, x) => (i, a.eval x)).toList = (vs.zipIdx 0).map fun x => (x.2, x.1)) (h1 : ∀ v ∈ vs, v.cells = #[v]) (h2 : ∀ v ∈ vs, v.oneCell' = true) (hl : vs.length = len) (h0 : 0 < len) (hlen : len ≤ 1000)
    (h : ∀ p w', Vals w' w'.heap.size (some ⟨p, 0, none⟩) len vs → Below w.heap.size w w' → K (a.put d (.slice (some ⟨p, 0, none⟩) len len)) w') : wpOp P ops Q i K a w := by
  subst hd
  subst hl
  refine op_wp i hi hw ?_
  obtain ⟨ie, hie, hz, hsz, _⟩ := info_parts hinfo
  refine Go.wp_buildSlice t e vs.length parts ho vs.toArray ie z hu hie hz (by rw [hsz]; omega) (by rw [hsz]; omega) ?_ (h _ _ ((Vals.new w e vs h2).more (by simp)) ((Below.refl _ w).alloc (Nat.le_refl _) _))
  rw [hp]
  simp only [hsz]
  exact Go.Great.fill_flat vs _ h1 (by simp)
/-- append(s, make([]T, m)...) onto what the call owns -/
theorem op_append_zeros (i : Nat) (d : Option Tmp) {o : Oper} {a : Act} {w : World} {K : Act → World → Prop} {s x : Operand} (ts tn : TypeId) (hi : ops[i]? = some o) (hd : o.dst = d) (hw : Region.wanted o (yielded ops a.tmps) = true)
    (ho : o.op = .call { callee := .builtin .append, args := #[s, x], argTypes := #[ts, tn] }) (base : Nat) (e : TypeId) (k kn kq : IntKind) (bytes : Nat) (ht : P.underlying ts = some (.slice e)) (htn : P.underlying tn = some (.int kn))
    (hinfo : (P.info? e).map (fun i => (i.zero, i.size, i.bytes)) = some (some (.int k 0), 1, bytes)) (v : Value) (zs : List Int) (m : Nat) (hs : a.eval s = v) (hx : a.eval x = .int kq (m : Int)) (hown : Mem.Own w base e k v zs)
    (hlen : zs.length + m ≤ 17592186044416) (hby : bytes ≤ 8) (hbase : base ≤ w.heap.size)
    (h : ∀ v' w', Mem.Own w' base e k v' (zs ++ List.replicate m 0) → w.grownBy w' v.ownBlock → K (a.put d v') w') : wpOp P ops Q i K a w := by
  subst hd
  refine op_wp i hi hw ?_
  obtain ⟨v', w', hrun, h2, h3, _⟩ := run_append_zeros (P := P) w base ts tn o.type e k kn kq bytes ht htn hinfo v zs hown m hlen hby hbase
  exact Lib.wp_append_run w s x ts tn ho v _ hs hx v' w' hrun (h v' w' h2 h3)
theorem op_store_Row (i : Nat) (d : Option Tmp) {o : Oper} {a : Act} {w : World} {K : Act → World → Prop} (ty : TypeId) {x y : Operand} (g : Nat) (t : TypeId) (k : IntKind) (old zs : List Int) (hi : ops[i]? = some o) (hd : o.dst = d) (hw : Region.wanted o (yielded ops a.tmps) = true)
    (ho : o.op = .store ty x y) (hx : a.eval x = .pointer (some ⟨g, 0, none⟩)) (hy : a.eval y = .agg (arr k zs)) (hrow : Row w g t k old) (n : Nat) (hsz : (P.info? ty).map (·.size) = some n) (hn : zs.length = n) (ho' : old.length = n)
    (h : K (a.put d undef) (w.setRow g (arr k zs))) : wpOp P ops Q i K a w := by
  subst hd
  refine op_wp i hi hw ?_
  unfold Oper.wp execOp
  simp only [ho, hx, hy, Instr.storeAt, Instr.sureAddr, Sem.run_bind, Sem.run_pure, Result.andThen_ok, run_storeVar_row w g t ty _ (arr k zs) hrow.2 (by rw [hsz, arr_size, hn]) (by simp [arr, ho', hn]) (arr_one k zs)]
  exact h

variable {ρ : Operand → Value} {o : Oper}
theorem y_move {x : Operand} {v : Value} (ho : o.op = .move x) (hv : ρ x = v) : ∀ w, S w → (execOp ρ o).run P w = .ok (.value v) w := fun w _ => by simp [execOp, ho, hv]
theorem y_assign {x : Operand} {v : Value} (ho : o.op = .assign x) (hv : ρ x = v) : ∀ w, S w → (execOp ρ o).run P w = .ok (.value v) w := fun w _ => by simp [execOp, ho, hv]
theorem y_pick {c x y : Operand} {v : Value} (ho : o.op = .pick c x y) (hc : ρ c = .bool true) (hv : ρ x = v) : ∀ w, S w → (execOp ρ o).run P w = .ok (.value v) w := fun w _ => by simp [execOp, ho, hv, hc, asBool]
theorem y_slice {t : TypeId} {x : Operand} {lo hi mx : Option Operand} {v : Value} (ho : o.op = .slice t x lo hi mx) (hr : ∀ w, (Instr.sliceAt t (ρ x) (lo.map ρ) (hi.map ρ) (mx.map ρ)).run P w = .ok v w) : ∀ w, S w → (execOp ρ o).run P w = .ok (.value v) w :=
  fun w _ => by simp [execOp, ho, hr w]
theorem y_bin {op : BinOp} {t ty : TypeId} {x y : Operand} {u v r : Value} (ho : o.op = .binOp op t x y ty) (hx : ρ x = u) (hy : ρ y = v) (hg : ∀ w, (eqGuard op t x y u v).run P w = .ok () w) (hr : ∀ w, (binOp op t u v).run P w = .ok r w) : ∀ w, S w → (execOp ρ o).run P w = .ok (.value r) w :=
  fun w _ => by simp [execOp, ho, hx, hy, hg w, hr w]
/-- two arrays of the same numbers -/
theorem y_eql {t e ty : TypeId} {x y : Operand} {k : IntKind} {zs : List Int} {n : Nat} (ho : o.op = .binOp .eql t x y ty) (hx : ρ x = .agg (arr k zs)) (hy : ρ y = .agg (arr k zs)) (hq : P.eqGuardType P.depth t = false) (ht : P.underlying t = some (.array n e)) (he : P.underlying e = some (.int k)) (hs : (P.info? e).map (·.size) = some 1) (hn : zs.length = n) :
    ∀ w, S w → (execOp ρ o).run P w = .ok (.value (.bool true)) w := y_bin ho hx hy (fun w => by simp [eqGuard, hq]) (fun w => eql_arr w t e n k zs ht he hs hn)
theorem y_load_Row {ty : TypeId} {x : Operand} {g n : Nat} {t e : TypeId} {k : IntKind} {zs : List Int} (ho : o.op = .load ty x) (hx : ρ x = .pointer (some ⟨g, 0, none⟩)) (hu : P.underlying ty = some (.array n e)) (hi : (P.info? ty).map (·.size) = some n) (hn : zs.length = n)
    (hr : ∀ w, S w → Row w g t k zs) : ∀ w, S w → (execOp ρ o).run P w = .ok (.value (.agg (arr k zs))) w := fun w hw => by
  simp only [execOp, ho, hx, Instr.loadAt, Instr.sureAddr, Sem.run_bind, Sem.run_pure, Result.andThen_ok, run_loadVar_row w g t ty (arr k zs) (0, 0) _ (hr w hw).2 hu rfl (by rw [hi, arr_size, hn])]
end
section
variable {P : Program} {S : World → Prop} {ρ : Operand → Value} {o : Oper}
theorem y_int {op : BinOp} {t ty : TypeId} {x y : Operand} {k : IntKind} {a b r : Int} (ho : o.op = .binOp op t x y ty) (hx : ρ x = .int k a) (hy : ρ y = .int k b) (hr : ∀ w : World, (binOp op t (.int k a) (.int k b)).run P w = .ok (.int k r) w) :
    ∀ w, S w → (execOp ρ o).run P w = .ok (.value (.int k r)) w := y_bin ho hx hy (fun w => by cases op <;> simp [eqGuard]) hr
theorem run_quo (t : TypeId) (k : IntKind) {a b r : Int} (hb : b ≠ 0) (hr : k.wrap (a.tdiv b) = r) (w : World) : (binOp .quo t (.int k a) (.int k b)).run P w = .ok (.int k r) w := by simp [binOp, Op.intDiv, hb, hr]
theorem run_rem (t : TypeId) (k : IntKind) {a b r : Int} (hb : b ≠ 0) (hr : a.tmod b = r) (w : World) : (binOp .rem t (.int k a) (.int k b)).run P w = .ok (.int k r) w := by simp [binOp, Op.intDiv, hb, hr]
theorem run_sub (t : TypeId) (k : IntKind) {a b r : Int} (hr : k.wrap (a - b) = r) (w : World) : (binOp .sub t (.int k a) (.int k b)).run P w = .ok (.int k r) w := by simp [binOp, Op.intArith, hr]
theorem run_add (t : TypeId) (k : IntKind) {a b r : Int} (hr : k.wrap (a + b) = r) (w : World) : (binOp .add t (.int k a) (.int k b)).run P w = .ok (.int k r) w := by simp [binOp, Op.intArith, hr]
theorem y_convert {src dst : TypeId} {x : Operand} {k k' : IntKind} {a r : Int} (ho : o.op = .convert src dst x) (hx : ρ x = .int k a) (hs : (P.underlying src).isSome = true) (hd : P.underlying dst = some (.int k')) (hr : k'.wrap a = r) :
    ∀ w, S w → (execOp ρ o).run P w = .ok (.value (.int k' r)) w := fun w _ => by
  have h := run_convert_int (P := P) w src dst k a hs
  have e : P.intKind dst = k' := by simp [Program.intKind, hd]
  simp [execOp, ho, hx, h, hd, hr, e]
theorem y_len {t : TypeId} {x : Operand} {A : Option Addr} {n c : Nat} (ho : o.op = .call { callee := .builtin .len, args := #[x], argTypes := #[t] }) (hx : ρ x = .slice A n c) (ht : P.underlying t = some (.slice (P.elem t))) :
    ∀ w, S w → (execOp ρ o).run P w = .ok (.value (.int .i64 (n : Int))) w := fun w _ => by
  have h := run_len_slice (P := P) w t o.type A n c ht
  unfold execOp
  simp [ho, resolve, invoke, builtin, hx, h, goInt]
end
/-- an operation over numbers, by what it runs to -/
theorem y_run {P : Program} {S : World → Prop} {ρ : Operand → Value} {o : Oper} {v : Value} (h : ∀ w, (execOp ρ o).run P w = .ok (.value v) w) : ∀ w, S w → (execOp ρ o).run P w = .ok (.value v) w := fun w _ => h w
end Go.Proofs.YtebcejncjljmhaaDoor.Held
namespace Go.Proofs.YtebcejncjljmhaaDoor.Range
open Go.RowKit
set_option linter.unusedVariables false

/-- what is said does not mind a change of whatever lies at B or beyond -/
def Far {β : Type} (B : Nat) (J : β → World → Prop) : Prop :=
  ∀ s W W' row, J s W → W.grownBy W' row → (∀ r, row = some r → B ≤ r) → J s W'

theorem Far.alloc {β : Type} {B : Nat} {J : β → World → Prop} (h : Far B J) {s : β} {W : World} (o : Obj) (hs : J s W) : J s (W.alloc o) :=
  h s W _ none hs (World.grownBy_alloc W o none) (fun r e => by cases e)
theorem Far.put {β : Type} {B : Nat} {J : β → World → Prop} (h : Far B J) {s : β} {W : World} {l : Nat} (o : Obj) (hs : J s W) (hl : B ≤ l) : J s (W.putObj l o) :=
  h s W _ (some l) hs (grownBy_putObj' W l o) (fun r e => by cases e; exact hl)
theorem Far.below {β : Type} {B : Nat} {J : β → World → Prop} (h : Far B J) {s : β} {W W' : World} (hs : J s W) (hb : Below B W W') (hB : B ≤ W.heap.size) (hone : ∃ r, B ≤ r ∧ W.grownBy W' (some r)) : J s W' := by
  obtain ⟨r, hr, hg⟩ := hone
  exact h s W W' (some r) hs hg (fun q e => by cases e; exact hr)

/-- the iterator hands out just xs, one by one; Kp: what a round keeps -/
def SeqFar {α : Type} (F : Fence) (n : Nat) (P : Program) (g : Nat) (lb : Array Value) (encs : α → Array Value) (Kp : World → World → Prop) (xs : List α) (w : World) : Prop :=
  ∀ (l : Nat) (J : List α → World → Prop) (W : World), Below w.heap.size w W → Far W.heap.size J →
    (∀ pre x W1, J pre W1 → (pre ++ [x]) <+: xs → YieldAt F (n - 1) P l (encs x) W1 fun e W' => e = .returned (.bool true) ∧ J (pre ++ [x]) W' ∧ Kp W1 W') →
    J [] W → CallsIn F n P g (#[.func (.yield l) #[] #[]] ++ lb) W fun e W' => (∃ v, e = .returned v) ∧ J xs W'

/-- how a round's body ends: it goes on -/
def goesOn (R : World → Prop) : Exit → Act → World → Prop
  | .normal, _, W' => R W'
  | _, _, _ => False

variable {F : Fence} {n : Nat} {P : Program}

theorem wpIn_rangeFunc_far {α : Type} {g : Operand} {ps : Array Tmp} {assign body : Code} {Q : Exit → Act → World → Prop} {a : Act} {w : World}
    (hro : F.round = none) (h1 : 1 ≤ n) {gf : Nat} {lb : Array Value} (hg : a.eval g = .func (.func gf) #[] lb) (hFg : F.fn gf) (eg : ∀ args w, (callFunc gf args).run P w = .ok (.enter gf args) w)
    {encs : α → Array Value} {Kp : World → World → Prop} {xs : List α} {w0 : World} (hseq : SeqFar F (n - 1) P gf lb encs Kp xs w0)
    (hKt : ∀ {A B C : World}, Kp A B → Kp B C → Kp A C) (hKb : ∀ (W : World) (l : Nat) (o o' : Obj), w.heap.size ≤ l → W.heap[l]? = some o → o.isCells = false → o.isWalk = false → Kp W (W.putObj l o'))
    (hb0 : Below w0.heap.size w0 w) (hps : ∀ x, (encs x).size = ps.size)
    (I : List α → World → Prop) (hI : Far w.heap.size I) (h0 : I [] w)
    (Ib : α → Act → List α → World → Prop) (hIb : ∀ x a', OwnFrom w.heap.size (Ib x a'))
    (hassign : ∀ (l : Nat) (pre : List α) (x : α) (W : World) (K : Act → World → Prop), I pre W → (pre ++ [x]) <+: xs → w.heap.size ≤ W.heap.size → (∀ a' W', KeepsOthers W W' → Kp W W' → Ib x a' pre W' → K a' W') →
      assign.wpIn (F.inRound l) (n - 1 - 1) P (Exit.then K (fun _ _ _ => False)) { tmps := (ps.zip (encs x)).foldl (fun t (p, v) => t.setIfInBounds p v) a.tmps, defers := [] } W)
    (hbody : ∀ (l : Nat) (pre : List α) (x : α) (a' : Act) (W : World), Ib x a' pre W → (pre ++ [x]) <+: xs → w.heap.size ≤ W.heap.size →
      body.wpIn (F.inRound l) (n - 1 - 1) P (goesOn fun W' => KeepsOthers W W' ∧ Kp W W' ∧ I (pre ++ [x]) W') a' W)
    (hdone : ∀ (D : Nat) (W : World), w.heap.size ≤ D → I xs W → W.heap[D]? = some (.deferred (some [])) → Q .normal { a with defers := { target := .collected D, args := #[] } :: a.defers } W) :
    (Code.rangeFunc g ps assign body).wpIn F n P Q a w := by
  refine wpIn_rangeFunc fun fn hfn => ?_
  rw [hro]
  -- the record of the loop, and the block of the rounds' deferred calls, behind all that lay
  let rec0 : LoopState → Loop := fun st => { state := st, pending := none, fn := fn, tmps := a.tmps, params := ps, assign := assign, body := body, defers := w.heap.size }
  let W1 : World := (w.alloc (.deferred (some []))).alloc (.loop (rec0 .ready))
  have hz1 : W1.heap.size = w.heap.size + 2 := by simp [W1]
  have hl1 : W1.heap[w.heap.size + 1]? = some (.loop (rec0 .ready)) := by
    have e := World.alloc_heap_new (w.alloc (.deferred (some []))) (.loop (rec0 .ready))
    rwa [World.size_alloc] at e
  have hd1 : W1.heap[w.heap.size]? = some (.deferred (some [])) := (Below.heap_alloc _ _ _ (by simp)).trans (World.alloc_heap_new w _)
  have hi1 : I [] W1 := hI.alloc _ (hI.alloc _ h0)
  have hb1 : Below w0.heap.size w0 W1 := hb0.trans ((((Below.refl _ w).alloc (Nat.le_refl _) _).alloc (by simp) _).mono hb0.size)
  refine ⟨w.heap.size + 1, [{ target := .collected w.heap.size, args := #[] }], W1, { target := .fn (.func gf) lb, args := #[.func (.yield (w.heap.size + 1)) #[] #[]] }, W1, gf,
    #[.func (.yield (w.heap.size + 1)) #[] #[]] ++ lb, W1, run_enterLoop_outer _ _ _ _ _, by simp only [resolve, hg]; simp [go_sem],
    fun f' hf' => by simp [Target.leads] at hf'; subst hf'; exact hFg, by simp [invoke, go_sem, eg], fun _ => h1, ?_⟩
  have kept : ∀ {A B : World} {row : Option Nat} (i : Nat) (o : Obj), i < W1.heap.size → A.heap[i]? = some o → A.grownBy B row → (∀ r, row = some r → W1.heap.size ≤ r) → B.heap[i]? = some o := by
    intro A B row i o hi ho hg' hr
    exact (hg'.block i (Array.getElem?_eq_some_iff.1 ho).1 (fun e => by have := hr i e.symm; omega)).trans ho
  refine (hseq (w.heap.size + 1) (fun pre W => I pre W ∧ W.heap[w.heap.size + 1]? = some (.loop (rec0 .ready)) ∧ W.heap[w.heap.size]? = some (.deferred (some []))) W1 hb1
    (fun s A B row hs hg' hr => ⟨hI s A B row hs.1 hg' (fun r e => by have := hr r e; omega), kept _ _ (by omega) hs.2.1 hg' hr, kept _ _ (by omega) hs.2.2 hg' hr⟩) ?_ ⟨hi1, hl1, hd1⟩).mono ?_
  · -- a round
    rintro pre x W ⟨hi, hl, hd⟩ hpre
    have hlt : w.heap.size + 1 < W.heap.size := (Array.getElem?_eq_some_iff.1 hl).1
    have hy := run_yield (P := P) (args := encs x) hl (hps x)
    refine ⟨fn, _, assign, body, hy, roundIn_of_wpIn hfn (hassign _ pre x W _ hi hpre (by omega) ?_)⟩
    intro a' W2 hk2 hp2 hib
    have hl2 := hk2.same _ _ hl rfl
    have hd2 := hk2.same _ _ hd rfl
    have hlt2 : w.heap.size + 1 < W2.heap.size := (Array.getElem?_eq_some_iff.1 hl2).1
    refine ⟨_, run_beginRound hl2 rfl, ?_⟩
    have hl3 : (W2.putObj (w.heap.size + 1) (.loop { rec0 .ready with state := .busy })).heap[w.heap.size + 1]? = some (.loop { rec0 .ready with state := .busy }) := World.putObj_heap_same hlt2
    have hd3 : (W2.putObj (w.heap.size + 1) (.loop { rec0 .ready with state := .busy })).heap[w.heap.size]? = some (.deferred (some [])) := (World.putObj_heap_other (by omega)).trans hd2
    have hp3 : Kp W (W2.putObj (w.heap.size + 1) (.loop { rec0 .ready with state := .busy })) := hKt hp2 (hKb _ _ _ _ (by omega) hl2 rfl rfl)
    refine wpIn_mono (hbody _ pre x a' _ ((hIb x a').putObj _ hib (by omega) hl2 rfl) hpre (by rw [World.putObj_size]; omega)) ?_
    intro e a3 W4 hp
    cases e with
    | normal =>
      obtain ⟨hk4, hp4, hi4⟩ := hp
      have hl4 := hk4.same _ _ hl3 rfl
      have hlt4 : w.heap.size + 1 < W4.heap.size := (Array.getElem?_eq_some_iff.1 hl4).1
      refine ⟨_, _, run_endRound (P := P) none hl4, rfl, ⟨hI.put _ hi4 (by omega), World.putObj_heap_same hlt4, (World.putObj_heap_other (by omega)).trans (hk4.same _ _ hd3 rfl)⟩, ?_⟩
      exact hKt (hKt hp3 hp4) (hKb _ _ _ _ (by omega) hl4 rfl rfl)
    | ret => exact hp.elim
    | exit id => exact hp.elim
    | goto t => exact hp.elim
    | panic ch => exact hp.elim
    | outgrown => exact hp.elim
  · -- behind the iterator
    rintro e W2 ⟨⟨v, rfl⟩, hi, hl, hd⟩
    refine ⟨none, _, run_endLoop (P := P) hl (by simp [rec0]), ?_⟩
    exact hdone _ _ (Nat.le_refl _) (hI.put _ hi (by omega)) ((World.putObj_heap_other (by omega)).trans hd)
end Go.Proofs.YtebcejncjljmhaaDoor.Range
namespace Go.Proofs.YtebcejncjljmhaaDoor.Range
open Go.RowKit
set_option linter.unusedVariables false

/-- the iterator hands out at_ 0, at_ 1, ..: till at_ has no more, or it is told to stop; Kp: what a round that goes on keeps; N: no round is come to from there on -/
def SeqStop {α : Type} (F : Fence) (n : Nat) (P : Program) (g : Nat) (lb : Array Value) (encs : α → Array Value) (Kp : World → World → Prop) (at_ : Nat → Option α) (w : World) : Prop :=
  ∀ (l : Nat) (J Jx : Nat → World → Prop) (N : Nat) (W : World), Below w.heap.size w W → Far W.heap.size J → Far W.heap.size Jx → (∀ k W1, J k W1 → k < N) →
    (∀ k x W1, J k W1 → at_ k = some x → YieldAt F (n - 1) P l (encs x) W1 fun e W' =>
      (e = .returned (.bool true) ∧ J (k + 1) W' ∧ Kp W1 W') ∨ (e = .returned (.bool false) ∧ Jx (k + 1) W')) →
    J 0 W → CallsIn F n P g (#[.func (.yield l) #[] #[]] ++ lb) W fun e W' => (∃ v, e = .returned v) ∧ ((∃ k, at_ k = none ∧ J k W') ∨ ∃ k, Jx k W')

theorem SeqStop.inRound {α : Type} {F : Fence} {n : Nat} {P : Program} {g : Nat} {lb : Array Value} {encs : α → Array Value} {Kp : World → World → Prop} {at_ : Nat → Option α} {w : World} (l : Nat)
    (h : SeqStop F n P g lb encs Kp at_ w) : SeqStop (F.inRound l) n P g lb encs Kp at_ w := h

/-- how a round's body ends: it goes on, or leaves by some jump -/
def stopPost (R : World → Prop) (X : Code → World → Prop) : Exit → Act → World → Prop
  | .normal, _, W' => R W'
  | .ret, _, W' => X .ret W'
  | .exit id, _, W' => X (.exit id) W'
  | .goto t, _, W' => X (.goto t) W'
  | _, _, _ => False

variable {F : Fence} {n : Nat} {P : Program}

theorem wpIn_rangeFunc_stop {α : Type} {g : Operand} {ps : Array Tmp} {assign body : Code} {Q : Exit → Act → World → Prop} {a : Act} {w : World}
    (hro : F.round = none) (h1 : 1 ≤ n) {gf : Nat} {lb : Array Value} (hg : a.eval g = .func (.func gf) #[] lb) (hFg : F.fn gf) (eg : ∀ args w, (callFunc gf args).run P w = .ok (.enter gf args) w)
    {encs : α → Array Value} {Kp : World → World → Prop} {at_ : Nat → Option α} {w0 : World} (hseq : SeqStop F (n - 1) P gf lb encs Kp at_ w0)
    (hKt : ∀ {A B C : World}, Kp A B → Kp B C → Kp A C) (hKb : ∀ (W : World) (l : Nat) (o o' : Obj), w.heap.size ≤ l → W.heap[l]? = some o → o.isCells = false → o.isWalk = false → Kp W (W.putObj l o'))
    (hb0 : Below w0.heap.size w0 w) (hps : ∀ x, (encs x).size = ps.size)
    (N : Nat) (I : Nat → World → Prop) (Ix : Code → Nat → World → Prop) (hI : Far w.heap.size I) (hIx : ∀ c, Far w.heap.size (Ix c)) (hN : ∀ k W, I k W → k < N) (h0 : I 0 w)
    (Ib : α → Act → Nat → World → Prop) (hIb : ∀ x a', OwnFrom w.heap.size (Ib x a'))
    (hassign : ∀ (l k : Nat) (x : α) (W : World) (K : Act → World → Prop), I k W → at_ k = some x → w.heap.size ≤ W.heap.size → (∀ a' W', KeepsOthers W W' → Kp W W' → Ib x a' k W' → K a' W') →
      assign.wpIn (F.inRound l) (n - 1 - 1) P (Exit.then K (fun _ _ _ => False)) { tmps := (ps.zip (encs x)).foldl (fun t (p, v) => t.setIfInBounds p v) a.tmps, defers := [] } W)
    (hbody : ∀ (l k : Nat) (x : α) (a' : Act) (W : World), w.heap.size ≤ l → (∃ r, W.heap[l]? = some (.loop r)) → Ib x a' k W → at_ k = some x → w.heap.size ≤ W.heap.size →
      body.wpIn (F.inRound l) (n - 1 - 1) P (stopPost (fun W' => KeepsOthers W W' ∧ Kp W W' ∧ I (k + 1) W') (fun c W' => KeepsOthers W W' ∧ Ix c (k + 1) W')) a' W)
    (hdone : ∀ (D k : Nat) (W : World), w.heap.size ≤ D → at_ k = none → I k W → W.heap[D]? = some (.deferred (some [])) → Q .normal { a with defers := { target := .collected D, args := #[] } :: a.defers } W)
    (hstop : ∀ (D : Nat) (c : Code) (k : Nat) (W : World), w.heap.size ≤ D → Ix c k W → W.heap[D]? = some (.deferred (some [])) → c.wpIn F n P Q { a with defers := { target := .collected D, args := #[] } :: a.defers } W) :
    (Code.rangeFunc g ps assign body).wpIn F n P Q a w := by
  refine wpIn_rangeFunc fun fn hfn => ?_
  rw [hro]
  let rec0 : LoopState → Option Code → Loop := fun st pe => { state := st, pending := pe, fn := fn, tmps := a.tmps, params := ps, assign := assign, body := body, defers := w.heap.size }
  let W1 : World := (w.alloc (.deferred (some []))).alloc (.loop (rec0 .ready none))
  have hz1 : W1.heap.size = w.heap.size + 2 := by simp [W1]
  have hl1 : W1.heap[w.heap.size + 1]? = some (.loop (rec0 .ready none)) := by
    have e := World.alloc_heap_new (w.alloc (.deferred (some []))) (.loop (rec0 .ready none))
    rwa [World.size_alloc] at e
  have hd1 : W1.heap[w.heap.size]? = some (.deferred (some [])) := (Below.heap_alloc _ _ _ (by simp)).trans (World.alloc_heap_new w _)
  have hi1 : I 0 W1 := hI.alloc _ (hI.alloc _ h0)
  have hb1 : Below w0.heap.size w0 W1 := hb0.trans ((((Below.refl _ w).alloc (Nat.le_refl _) _).alloc (by simp) _).mono hb0.size)
  refine ⟨w.heap.size + 1, [{ target := .collected w.heap.size, args := #[] }], W1, { target := .fn (.func gf) lb, args := #[.func (.yield (w.heap.size + 1)) #[] #[]] }, W1, gf,
    #[.func (.yield (w.heap.size + 1)) #[] #[]] ++ lb, W1, run_enterLoop_outer _ _ _ _ _, by simp only [resolve, hg]; simp [go_sem],
    fun f' hf' => by simp [Target.leads] at hf'; subst hf'; exact hFg, by simp [invoke, go_sem, eg], fun _ => h1, ?_⟩
  have kept : ∀ {A B : World} {row : Option Nat} (i : Nat) (o : Obj), i < W1.heap.size → A.heap[i]? = some o → A.grownBy B row → (∀ r, row = some r → W1.heap.size ≤ r) → B.heap[i]? = some o := by
    intro A B row i o hi ho hg' hr
    exact (hg'.block i (Array.getElem?_eq_some_iff.1 ho).1 (fun e => by have := hr i e.symm; omega)).trans ho
  refine (hseq (w.heap.size + 1) (fun k W => I k W ∧ W.heap[w.heap.size + 1]? = some (.loop (rec0 .ready none)) ∧ W.heap[w.heap.size]? = some (.deferred (some [])))
    (fun k W => ∃ c, Ix c k W ∧ W.heap[w.heap.size + 1]? = some (.loop (rec0 .done (some c))) ∧ W.heap[w.heap.size]? = some (.deferred (some []))) N W1 hb1
    (fun s A B row hs hg' hr => ⟨hI s A B row hs.1 hg' (fun r e => by have := hr r e; omega), kept _ _ (by omega) hs.2.1 hg' hr, kept _ _ (by omega) hs.2.2 hg' hr⟩)
    (fun s A B row hs hg' hr => by
      obtain ⟨c, h1, h2, h3⟩ := hs
      exact ⟨c, hIx c s A B row h1 hg' (fun r e => by have := hr r e; omega), kept _ _ (by omega) h2 hg' hr, kept _ _ (by omega) h3 hg' hr⟩)
    (fun k W h => hN k W h.1) ?_ ⟨hi1, hl1, hd1⟩).mono ?_
  · -- a round
    rintro k x W ⟨hi, hl, hd⟩ hat
    have hlt : w.heap.size + 1 < W.heap.size := (Array.getElem?_eq_some_iff.1 hl).1
    have hy := run_yield (P := P) (args := encs x) hl (hps x)
    refine ⟨fn, _, assign, body, hy, roundIn_of_wpIn hfn (hassign _ k x W _ hi hat (by omega) ?_)⟩
    intro a' W2 hk2 hp2 hib
    have hl2 := hk2.same _ _ hl rfl
    have hd2 := hk2.same _ _ hd rfl
    have hlt2 : w.heap.size + 1 < W2.heap.size := (Array.getElem?_eq_some_iff.1 hl2).1
    refine ⟨_, run_beginRound hl2 rfl, ?_⟩
    have hl3 : (W2.putObj (w.heap.size + 1) (.loop { rec0 .ready none with state := .busy })).heap[w.heap.size + 1]? = some (.loop { rec0 .ready none with state := .busy }) := World.putObj_heap_same hlt2
    have hd3 : (W2.putObj (w.heap.size + 1) (.loop { rec0 .ready none with state := .busy })).heap[w.heap.size]? = some (.deferred (some [])) := (World.putObj_heap_other (by omega)).trans hd2
    have hp3 : Kp W (W2.putObj (w.heap.size + 1) (.loop { rec0 .ready none with state := .busy })) := hKt hp2 (hKb _ _ _ _ (by omega) hl2 rfl rfl)
    refine wpIn_mono (hbody _ k x a' _ (by omega) ⟨_, hl3⟩ ((hIb x a').putObj _ hib (by omega) hl2 rfl) hat (by rw [World.putObj_size]; omega)) ?_
    intro e a3 W4 hp
    have fin : ∀ (jump : Code), KeepsOthers (W2.putObj (w.heap.size + 1) (.loop { rec0 .ready none with state := .busy })) W4 → Ix jump (k + 1) W4 →
        ∃ v w', (Instr.endRound (w.heap.size + 1) (some jump)).run P W4 = .ok v w' ∧ Ending.returned v = .returned (.bool false) ∧
          ∃ c, Ix c (k + 1) w' ∧ w'.heap[w.heap.size + 1]? = some (.loop (rec0 .done (some c))) ∧ w'.heap[w.heap.size]? = some (.deferred (some [])) := fun jump hk4 hi4 => by
      have hl4 := hk4.same _ _ hl3 rfl
      have hlt4 : w.heap.size + 1 < W4.heap.size := (Array.getElem?_eq_some_iff.1 hl4).1
      exact ⟨_, _, run_endRound (P := P) (some jump) hl4, rfl, jump, (hIx _).put _ hi4 (by omega), World.putObj_heap_same hlt4, (World.putObj_heap_other (by omega)).trans (hk4.same _ _ hd3 rfl)⟩
    cases e with
    | normal =>
      obtain ⟨hk4, hp4, hi4⟩ := hp
      have hl4 := hk4.same _ _ hl3 rfl
      have hlt4 : w.heap.size + 1 < W4.heap.size := (Array.getElem?_eq_some_iff.1 hl4).1
      refine ⟨_, _, run_endRound (P := P) none hl4, .inl ⟨rfl, ⟨hI.put _ hi4 (by omega), World.putObj_heap_same hlt4, (World.putObj_heap_other (by omega)).trans (hk4.same _ _ hd3 rfl)⟩, ?_⟩⟩
      exact hKt (hKt hp3 hp4) (hKb _ _ _ _ (by omega) hl4 rfl rfl)
    | ret => obtain ⟨v, w', hr, e1, e2⟩ := fin .ret hp.1 hp.2; exact ⟨v, w', hr, .inr ⟨e1, e2⟩⟩
    | exit id => obtain ⟨v, w', hr, e1, e2⟩ := fin (.exit id) hp.1 hp.2; exact ⟨v, w', hr, .inr ⟨e1, e2⟩⟩
    | goto t => obtain ⟨v, w', hr, e1, e2⟩ := fin (.goto t) hp.1 hp.2; exact ⟨v, w', hr, .inr ⟨e1, e2⟩⟩
    | panic ch => exact hp.elim
    | outgrown => exact hp.elim
  · -- behind the iterator
    rintro e W2 ⟨⟨v, rfl⟩, (⟨k, hk, hi, hl, hd⟩ | ⟨k, c, hi, hl, hd⟩)⟩
    · exact ⟨none, _, run_endLoop (P := P) hl (by simp [rec0]), hdone _ k _ (Nat.le_refl _) hk (hI.put _ hi (by omega)) ((World.putObj_heap_other (by omega)).trans hd)⟩
    · exact ⟨some c, _, run_endLoop (P := P) hl (by simp [rec0]), hstop _ c k _ (Nat.le_refl _) ((hIx c).put _ hi (by omega)) ((World.putObj_heap_other (by omega)).trans hd)⟩

/-- the same within a round of another loop, l₀ -/
theorem wpIn_rangeFunc_stopN {α : Type} {g : Operand} {ps : Array Tmp} {assign body : Code} {Q : Exit → Act → World → Prop} {a : Act} {w : World}
    {l₀ : Nat} {r₀ : Loop} (hro : F.round = some l₀) (hl₀ : w.heap[l₀]? = some (.loop r₀)) (h1 : 1 ≤ n) {gf : Nat} {lb : Array Value} (hg : a.eval g = .func (.func gf) #[] lb) (hFg : F.fn gf) (eg : ∀ args w, (callFunc gf args).run P w = .ok (.enter gf args) w)
    {encs : α → Array Value} {Kp : World → World → Prop} {at_ : Nat → Option α} {w0 : World} (hseq : SeqStop F (n - 1) P gf lb encs Kp at_ w0)
    (hKt : ∀ {A B C : World}, Kp A B → Kp B C → Kp A C) (hKb : ∀ (W : World) (l : Nat) (o o' : Obj), w.heap.size ≤ l → W.heap[l]? = some o → o.isCells = false → o.isWalk = false → Kp W (W.putObj l o'))
    (hb0 : Below w0.heap.size w0 w) (hps : ∀ x, (encs x).size = ps.size)
    (N : Nat) (I : Nat → World → Prop) (Ix : Code → Nat → World → Prop) (hI : Far w.heap.size I) (hIx : ∀ c, Far w.heap.size (Ix c)) (hN : ∀ k W, I k W → k < N) (h0 : I 0 w)
    (Ib : α → Act → Nat → World → Prop) (hIb : ∀ x a', OwnFrom w.heap.size (Ib x a'))
    (hassign : ∀ (l k : Nat) (x : α) (W : World) (K : Act → World → Prop), I k W → at_ k = some x → w.heap.size ≤ W.heap.size → (∀ a' W', KeepsOthers W W' → Kp W W' → Ib x a' k W' → K a' W') →
      assign.wpIn (F.inRound l) (n - 1 - 1) P (Exit.then K (fun _ _ _ => False)) { tmps := (ps.zip (encs x)).foldl (fun t (p, v) => t.setIfInBounds p v) a.tmps, defers := [] } W)
    (hbody : ∀ (l k : Nat) (x : α) (a' : Act) (W : World), w.heap.size ≤ l → (∃ r, W.heap[l]? = some (.loop r)) → Ib x a' k W → at_ k = some x → w.heap.size ≤ W.heap.size →
      body.wpIn (F.inRound l) (n - 1 - 1) P (stopPost (fun W' => KeepsOthers W W' ∧ Kp W W' ∧ I (k + 1) W') (fun c W' => KeepsOthers W W' ∧ Ix c (k + 1) W')) a' W)
    (hdone : ∀ (k : Nat) (W : World), at_ k = none → I k W → Q .normal a W)
    (hstop : ∀ (c : Code) (k : Nat) (W : World), Ix c k W → c.wpIn F n P Q a W) :
    (Code.rangeFunc g ps assign body).wpIn F n P Q a w := by
  refine wpIn_rangeFunc fun fn hfn => ?_
  rw [hro]
  let rec0 : LoopState → Option Code → Loop := fun st pe => { state := st, pending := pe, fn := fn, tmps := a.tmps, params := ps, assign := assign, body := body, defers := r₀.defers }
  let W1 : World := w.alloc (.loop (rec0 .ready none))
  have hz1 : W1.heap.size = w.heap.size + 1 := by simp [W1]
  have hl1 : W1.heap[w.heap.size]? = some (.loop (rec0 .ready none)) := World.alloc_heap_new w _
  have hi1 : I 0 W1 := hI.alloc _ h0
  have hb1 : Below w0.heap.size w0 W1 := hb0.trans (((Below.refl _ w).alloc (Nat.le_refl _) _).mono hb0.size)
  refine ⟨w.heap.size, [], W1, { target := .fn (.func gf) lb, args := #[.func (.yield w.heap.size) #[] #[]] }, W1, gf,
    #[.func (.yield w.heap.size) #[] #[]] ++ lb, W1, run_enterLoop_inner hl₀ _ _ _ _ _, by simp only [resolve, hg]; simp [go_sem],
    fun f' hf' => by simp [Target.leads] at hf'; subst hf'; exact hFg, by simp [invoke, go_sem, eg], fun _ => h1, ?_⟩
  have kept : ∀ {A B : World} {row : Option Nat} (i : Nat) (o : Obj), i < W1.heap.size → A.heap[i]? = some o → A.grownBy B row → (∀ r, row = some r → W1.heap.size ≤ r) → B.heap[i]? = some o := by
    intro A B row i o hi ho hg' hr
    exact (hg'.block i (Array.getElem?_eq_some_iff.1 ho).1 (fun e => by have := hr i e.symm; omega)).trans ho
  refine (hseq w.heap.size (fun k W => I k W ∧ W.heap[w.heap.size]? = some (.loop (rec0 .ready none)))
    (fun k W => ∃ c, Ix c k W ∧ W.heap[w.heap.size]? = some (.loop (rec0 .done (some c)))) N W1 hb1
    (fun s A B row hs hg' hr => ⟨hI s A B row hs.1 hg' (fun r e => by have := hr r e; omega), kept _ _ (by omega) hs.2 hg' hr⟩)
    (fun s A B row hs hg' hr => by
      obtain ⟨c, h1, h2⟩ := hs
      exact ⟨c, hIx c s A B row h1 hg' (fun r e => by have := hr r e; omega), kept _ _ (by omega) h2 hg' hr⟩)
    (fun k W h => hN k W h.1) ?_ ⟨hi1, hl1⟩).mono ?_
  · rintro k x W ⟨hi, hl⟩ hat
    have hlt : w.heap.size < W.heap.size := (Array.getElem?_eq_some_iff.1 hl).1
    have hy := run_yield (P := P) (args := encs x) hl (hps x)
    refine ⟨fn, _, assign, body, hy, roundIn_of_wpIn hfn (hassign _ k x W _ hi hat (by omega) ?_)⟩
    intro a' W2 hk2 hp2 hib
    have hl2 := hk2.same _ _ hl rfl
    have hlt2 : w.heap.size < W2.heap.size := (Array.getElem?_eq_some_iff.1 hl2).1
    refine ⟨_, run_beginRound hl2 rfl, ?_⟩
    have hl3 : (W2.putObj w.heap.size (.loop { rec0 .ready none with state := .busy })).heap[w.heap.size]? = some (.loop { rec0 .ready none with state := .busy }) := World.putObj_heap_same hlt2
    have hp3 : Kp W (W2.putObj w.heap.size (.loop { rec0 .ready none with state := .busy })) := hKt hp2 (hKb _ _ _ _ (Nat.le_refl _) hl2 rfl rfl)
    refine wpIn_mono (hbody _ k x a' _ (Nat.le_refl _) ⟨_, hl3⟩ ((hIb x a').putObj _ hib (Nat.le_refl _) hl2 rfl) hat (by rw [World.putObj_size]; omega)) ?_
    intro e a3 W4 hp
    have fin : ∀ (jump : Code), KeepsOthers (W2.putObj w.heap.size (.loop { rec0 .ready none with state := .busy })) W4 → Ix jump (k + 1) W4 →
        ∃ v w', (Instr.endRound w.heap.size (some jump)).run P W4 = .ok v w' ∧ Ending.returned v = .returned (.bool false) ∧
          ∃ c, Ix c (k + 1) w' ∧ w'.heap[w.heap.size]? = some (.loop (rec0 .done (some c))) := fun jump hk4 hi4 => by
      have hl4 := hk4.same _ _ hl3 rfl
      have hlt4 : w.heap.size < W4.heap.size := (Array.getElem?_eq_some_iff.1 hl4).1
      exact ⟨_, _, run_endRound (P := P) (some jump) hl4, rfl, jump, (hIx _).put _ hi4 (Nat.le_refl _), World.putObj_heap_same hlt4⟩
    cases e with
    | normal =>
      obtain ⟨hk4, hp4, hi4⟩ := hp
      have hl4 := hk4.same _ _ hl3 rfl
      have hlt4 : w.heap.size < W4.heap.size := (Array.getElem?_eq_some_iff.1 hl4).1
      refine ⟨_, _, run_endRound (P := P) none hl4, .inl ⟨rfl, ⟨hI.put _ hi4 (Nat.le_refl _), World.putObj_heap_same hlt4⟩, ?_⟩⟩
      exact hKt (hKt hp3 hp4) (hKb _ _ _ _ (Nat.le_refl _) hl4 rfl rfl)
    | ret => obtain ⟨v, w', hr, e1, e2⟩ := fin .ret hp.1 hp.2; exact ⟨v, w', hr, .inr ⟨e1, e2⟩⟩
    | exit id => obtain ⟨v, w', hr, e1, e2⟩ := fin (.exit id) hp.1 hp.2; exact ⟨v, w', hr, .inr ⟨e1, e2⟩⟩
    | goto t => obtain ⟨v, w', hr, e1, e2⟩ := fin (.goto t) hp.1 hp.2; exact ⟨v, w', hr, .inr ⟨e1, e2⟩⟩
    | panic ch => exact hp.elim
    | outgrown => exact hp.elim
  · rintro e W2 ⟨⟨v, rfl⟩, (⟨k, hk, hi, hl⟩ | ⟨k, c, hi, hl⟩)⟩
    · exact ⟨none, _, run_endLoop (P := P) hl (by simp [rec0]), hdone k _ hk (hI.put _ hi (Nat.le_refl _))⟩
    · exact ⟨some c, _, run_endLoop (P := P) hl (by simp [rec0]), hstop c k _ ((hIx c).put _ hi (Nat.le_refl _))⟩
end Go.Proofs.YtebcejncjljmhaaDoor.Range
namespace Go.Proofs.YtebcejncjljmhaaDoor.Mem
open Go.RowKit Go.Proofs.YtebcejncjljmhaaDoor.Range
set_option linter.unusedVariables false

section
variable {F : Fence} {n : Nat} {P : Program} {ops : Array Oper} {rest : List Oper} {o : Oper} {a : Act} {w : World} {Q : Exit → Act → World → Prop}
theorem wpListIn_load_Row (hw : Region.wanted o (yielded ops a.tmps) = true) (ty : TypeId) (x : Operand) (ho : o.op = .load ty x) (g : Nat) (hx : a.eval x = .pointer (some ⟨g, 0, none⟩)) (t : TypeId) (k : IntKind) (zs : List Int) (hr : Row w g t k zs)
    (m : Nat) (e : TypeId) (hu : P.underlying ty = some (.array m e)) (hi : (P.info? ty).map (·.size) = some m) (hn : zs.length = m)
    (h : wpListIn F n P ops Q rest (a.put o.dst (.agg (arr k zs))) w) : wpListIn F n P ops Q (o :: rest) a w := by
  refine wpListIn_step fun K hK => ?_
  rw [if_pos hw]
  unfold Oper.wpIn
  refine ⟨fun f hf => by simp [Oper.about, ho] at hf, ?_⟩
  rw [Oper.semAt_plain F _ _ (by rw [ho]; intro c hc'; cases hc')]
  unfold execOp
  simp only [ho, hx, Instr.loadAt, Instr.sureAddr, Sem.run_bind, Sem.run_pure, Result.andThen_ok, run_loadVar_row w g t ty (arr k zs) (0, 0) _ hr.2 hu rfl (by rw [hi, arr_size, hn])]
  exact hK _ _ h
theorem wpListIn_load_arr (hw : Region.wanted o (yielded ops a.tmps) = true) (ty : TypeId) (x : Operand) (ho : o.op = .load ty x) (g : Nat) (hx : a.eval x = .pointer (some ⟨g, 0, none⟩)) (t : TypeId) (fr : Nat × Nat) (k : IntKind) (zs : List Int) (hr : w.heap[g]? = some (.cells (arr k zs) t fr))
    (m : Nat) (e : TypeId) (hu : P.underlying ty = some (.array m e)) (hi : (P.info? ty).map (·.size) = some m) (hn : zs.length = m)
    (h : wpListIn F n P ops Q rest (a.put o.dst (.agg (arr k zs))) w) : wpListIn F n P ops Q (o :: rest) a w := by
  refine wpListIn_step fun K hK => ?_
  rw [if_pos hw]
  unfold Oper.wpIn
  refine ⟨fun f hf => by simp [Oper.about, ho] at hf, ?_⟩
  rw [Oper.semAt_plain F _ _ (by rw [ho]; intro c hc'; cases hc')]
  unfold execOp
  simp only [ho, hx, Instr.loadAt, Instr.sureAddr, Sem.run_bind, Sem.run_pure, Result.andThen_ok, run_loadVar_row w g t ty (arr k zs) fr _ hr hu rfl (by rw [hi, arr_size, hn])]
  exact hK _ _ h
theorem wpListIn_store_Row (hw : Region.wanted o (yielded ops a.tmps) = true) (ty : TypeId) (x y : Operand) (ho : o.op = .store ty x y) (g : Nat) (hx : a.eval x = .pointer (some ⟨g, 0, none⟩)) (t : TypeId) (k : IntKind) (old zs : List Int) (hy : a.eval y = .agg (arr k zs))
    (hr : Row w g t k old) (m : Nat) (hi : (P.info? ty).map (·.size) = some m) (hn : zs.length = m) (ho' : old.length = m)
    (h : wpListIn F n P ops Q rest (a.put o.dst undef) (w.setRow g (arr k zs))) : wpListIn F n P ops Q (o :: rest) a w := by
  refine wpListIn_step fun K hK => ?_
  rw [if_pos hw]
  unfold Oper.wpIn
  refine ⟨fun f hf => by simp [Oper.about, ho] at hf, ?_⟩
  rw [Oper.semAt_plain F _ _ (by rw [ho]; intro c hc'; cases hc')]
  unfold execOp
  simp only [ho, hx, hy, Instr.storeAt, Instr.sureAddr, Sem.run_bind, Sem.run_pure, Result.andThen_ok, run_storeVar_row w g t ty _ (arr k zs) hr.2 (by rw [hi, arr_size, hn]) (by simp [arr, ho', hn]) (arr_one k zs)]
  exact hK _ _ h
theorem wpListIn_copy_Row (hw : Region.wanted o (yielded ops a.tmps) = true) (d s : Operand) (dT sT : TypeId) (ho : o.op = .call { callee := .builtin .copy, args := #[d, s], argTypes := #[dT, sT] }) (e : TypeId) (hu : P.underlying dT = some (.slice e)) (hsz : (P.info? e).map (·.size) = some 1)
    (g off dLen dCap : Nat) (A : Option Addr) (sLen sCap : Nat) (hd : a.eval d = .slice (some ⟨g, off, none⟩) dLen dCap) (hs : a.eval s = .slice A sLen sCap)
    (t : TypeId) (k : IntKind) (cur xs : List Int) (hr : Row w g t k cur) (hx : 0 < sLen → ∃ b o2, A = some ⟨b, o2, none⟩ ∧ ∀ i, i < sLen → w.cell? ⟨b, o2 + i, none⟩ = some (.int k (xs.getD i 0))) (hxl : xs.length = sLen)
    (m : Nat) (hm : m = min sLen dLen) (h0 : 0 < m) (hfit : off + m ≤ cur.length)
    (h : wpListIn F n P ops Q rest (a.put o.dst (.int .i64 (m : Int))) (w.setRow g (arr k (cur.take off ++ (xs.take m ++ cur.drop (off + m)))))) : wpListIn F n P ops Q (o :: rest) a w := by
  have hml : m ≤ sLen := by omega
  obtain ⟨b, o2, rfl, hc⟩ := hx (by omega)
  have hlen : ((xs.take m).map (Value.int k)).length = m := by simp [hxl, hml]
  have hrun := run_copy_row (P := P) w dT sT o.type e g off dLen dCap ⟨b, o2, none⟩ sLen sCap (arr k cur) t ((xs.take m).map (Value.int k)) hu hsz hr.2 (by rw [hlen, hm])
    (fun j v hv => by
      have hj : j < m := by have := (List.getElem?_eq_some_iff.1 hv).1; omega
      have e1 : (Addr.mk b o2 none).add j = ⟨b, o2 + j, none⟩ := by unfold Addr.add; split <;> simp_all
      rw [e1, hc j (by omega), ← hv]
      simp [List.getD_eq_getElem?_getD, hj, show j < xs.length by omega])
    (by rw [hlen, arr_size]; exact hfit) (by intro v hv; obtain ⟨z, _, rfl⟩ := List.mem_map.1 hv; rfl)
  have hcells : ((arr k cur).toList.take off ++ (xs.take m).map (Value.int k) ++ (arr k cur).toList.drop (off + ((xs.take m).map (Value.int k)).length)).toArray = arr k (cur.take off ++ (xs.take m ++ cur.drop (off + m))) := by
    rw [hlen]
    simp [arr, List.map_take, List.map_drop]
  rw [hcells, hlen] at hrun
  refine wpListIn_step fun K hK => ?_
  rw [if_pos hw]
  unfold Oper.wpIn
  refine ⟨?_, ?_⟩
  · simp [Oper.about, ho, resolve, Target.leads, Sem.run_pure]
  · rw [Oper.semAt_plain F _ _ (by rw [ho]; intro c hc'; cases hc')]
    simp [execOp, ho, resolve, invoke, builtin, hd, hs, hrun, Result.andThen]
    exact hK _ _ h
end

/-- of the blocks of cells, at most those of S are not as they were -/
structure Only (S : Nat → Prop) (w w' : World) : Prop where
  size : w.heap.size ≤ w'.heap.size
  block : ∀ (i : Nat) (o : Obj), ¬ S i → w.heap[i]? = some o → o.isCells = true → w'.heap[i]? = some o
section
variable {S S' : Nat → Prop} {w w' w'' : World}
theorem Only.refl (S : Nat → Prop) (w : World) : Only S w w := ⟨Nat.le_refl _, fun _ _ _ h _ => h⟩
theorem Only.trans (h : Only S w w') (k : Only S w' w'') : Only S w w'' := ⟨Nat.le_trans h.size k.size, fun i o hi ho hc => k.block i o hi (h.block i o hi ho hc) hc⟩
theorem Only.mono (h : Only S w w') (hS : ∀ i, S i → S' i) : Only S' w w' := ⟨h.size, fun i o hi => h.block i o (fun e => hi (hS i e))⟩
theorem Only.of_grown {row : Option Nat} (hg : w.grownBy w' row) (hr : ∀ r, row = some r → S r) : Only S w w' :=
  ⟨hg.size, fun i o hi ho _ => (hg.block i (Array.getElem?_eq_some_iff.1 ho).1 (fun e => hi (hr i e.symm))).trans ho⟩
theorem Only.of_below (h : Below w.heap.size w w') : Only S w w' := ⟨h.size, fun i o _ ho _ => (h.block i (Array.getElem?_eq_some_iff.1 ho).1).trans ho⟩
theorem Only.put (W : World) (l : Nat) (o o' : Obj) (h : W.heap[l]? = some o) (hc : o.isCells = false) : Only S W (W.putObj l o') :=
  ⟨by simp, fun i q _ hq hqc => by
    by_cases e : i = l
    · subst e; rw [h] at hq; cases hq; rw [hc] at hqc; cases hqc
    · exact (World.putObj_heap_other e).trans hq⟩
theorem Only.cell (h : Only S w w') {p : Addr} {v : Value} (hp : ¬ S p.block) (hc : w.cell? p = some v) : w'.cell? p = some v := by
  obtain ⟨o, ho, hcs⟩ := cells_of_cell hc
  exact (World.cell?_of_block ((h.block _ o hp ho hcs).trans ho.symm)).trans hc
theorem Only.row (h : Only S w w') {g : Nat} {t : TypeId} {k : IntKind} {zs : List Int} (hg : ¬ S g) (hr : Row w g t k zs) : Row w' g t k zs := ⟨hr.1, h.block g _ hg hr.2 rfl⟩

/-- a slice that reads as numbers, at a block that is none of S -/
def IntsN (w : World) (k : IntKind) (S : Nat → Prop) (A : Option Addr) (n : Nat) (zs : List Int) : Prop :=
  zs.length = n ∧ (∀ z ∈ zs, (Lit.int k z).wf = true) ∧ (0 < n → ∃ b off, A = some ⟨b, off, none⟩ ∧ ¬ S b ∧ ∀ i, i < n → w.cell? ⟨b, off + i, none⟩ = some (.int k (zs.getD i 0)))
theorem IntsN.only {k : IntKind} {A : Option Addr} {n : Nat} {zs : List Int} (h : IntsN w k S A n zs) (ho : Only S w w') : IntsN w' k S A n zs :=
  ⟨h.1, h.2.1, fun hn => by
    obtain ⟨b, off, e, hb, hc⟩ := h.2.2 hn
    exact ⟨b, off, e, hb, fun i hi => ho.cell (p := ⟨b, off + i, none⟩) hb (hc i hi)⟩⟩
theorem IntsN.of {k : IntKind} {A : Option Addr} {n B : Nat} {zs : List Int} (h : Ints w k B A n zs) (hB : ∀ b, b < B → ¬ S b) : IntsN w k S A n zs :=
  ⟨h.1, h.2.1, fun hn => by
    obtain ⟨b, off, e, hb, hc⟩ := h.2.2 hn
    exact ⟨b, off, e, hB b hb, hc⟩⟩
theorem IntsN.row {t : TypeId} {k : IntKind} {g : Nat} {zs : List Int} (h : Row w g t k zs) (hg : ¬ S g) : IntsN w k S (some ⟨g, 0, none⟩) zs.length zs :=
  ⟨rfl, h.1, fun _ => ⟨g, 0, rfl, hg, fun i hi => by rw [Nat.zero_add]; exact h.cell hi⟩⟩
/-- what is left of it behind its first m -/
theorem IntsN.cut {k : IntKind} {b off n m cap : Nat} {zs : List Int} (h : IntsN w k S (some ⟨b, off, none⟩) n zs) (hm : m ≤ n) (hc : n ≤ cap) :
    IntsN w k S (if cap = m then some ⟨b, off, none⟩ else some ⟨b, off + m, none⟩) (n - m) (zs.drop m) := by
  refine ⟨by simp [h.1], fun z hz => h.2.1 z (List.mem_of_mem_drop hz), fun hn => ?_⟩
  obtain ⟨b', off', e, hb, hcell⟩ := h.2.2 (by omega)
  injection e with e
  injection e with e1 e2
  subst e1
  subst e2
  rw [if_neg (by omega)]
  refine ⟨b, off + m, rfl, hb, fun i hi => ?_⟩
  rw [Nat.add_assoc, hcell (m + i) (by omega)]
  simp [List.getD_eq_getElem?_getD, List.getElem?_drop]
end
end Go.Proofs.YtebcejncjljmhaaDoor.Mem
namespace Go.Proofs.YtebcejncjljmhaaDoor.Mem
open Go.RowKit Go.Shelf
set_option linter.unusedVariables false

/-- numbers laid over numbers, from place off on -/
def laidOver (cur : List Int) (off : Nat) (xs : List Int) : List Int := cur.take off ++ (xs ++ cur.drop (off + xs.length))
theorem laidOver_length (cur : List Int) (off : Nat) (xs : List Int) (h : off + xs.length ≤ cur.length) : (laidOver cur off xs).length = cur.length := by simp [laidOver]; omega
theorem laidOver_nil (cur : List Int) (off : Nat) : laidOver cur off [] = cur := by simp [laidOver]
theorem laidOver_mem {cur xs : List Int} {off : Nat} {z : Int} (h : z ∈ laidOver cur off xs) : z ∈ cur ∨ z ∈ xs := by
  rcases List.mem_append.1 h with h | h
  · exact .inl (List.mem_of_mem_take h)
  · rcases List.mem_append.1 h with h | h
    · exact .inr h
    · exact .inl (List.mem_of_mem_drop h)
theorem laidOver_get (cur : List Int) (off : Nat) (xs : List Int) (h : off + xs.length ≤ cur.length) (i : Nat) :
    (laidOver cur off xs).getD i 0 = if off ≤ i ∧ i < off + xs.length then xs.getD (i - off) 0 else cur.getD i 0 := by
  have ht : (cur.take off).length = off := by simp; omega
  simp only [laidOver, List.getD_eq_getElem?_getD]
  by_cases h1 : i < off
  · rw [List.getElem?_append_left (by omega), if_neg (by omega), List.getElem?_take, if_pos h1]
  · rw [List.getElem?_append_right (by omega), ht]
    by_cases h2 : i < off + xs.length
    · rw [List.getElem?_append_left (by omega), if_pos (by omega)]
    · rw [List.getElem?_append_right (by omega), if_neg (by omega), List.getElem?_drop]
      congr 2
      omega

theorem wpList_copy_Row {P : Program} {ops : Array Oper} {rest : List Oper} {o : Oper} {a : Act} {w : World} {Q : Exit → Act → World → Prop}
    (hgd : o.guard = none) (d s : Operand) (dT sT : TypeId) (ho : o.op = .call { callee := .builtin .copy, args := #[d, s], argTypes := #[dT, sT] }) (e : TypeId) (hu : P.underlying dT = some (.slice e)) (hsz : (P.info? e).map (·.size) = some 1)
    (g off dLen dCap : Nat) (B : Nat) (A : Option Addr) (sLen sCap : Nat) (hd : a.eval d = .slice (some ⟨g, off, none⟩) dLen dCap) (hs : a.eval s = .slice A sLen sCap)
    (t : TypeId) (k : IntKind) (cur xs : List Int) (hr : Row w g t k cur) (hx : Ints w k B A sLen xs) (hfit : off + dLen ≤ cur.length)
    (h : ∀ w', Row w' g t k (laidOver cur off (xs.take (min sLen dLen))) → w.grownBy w' (some g) → Hid (w'.heap.size = w.heap.size) → wpList P ops Q rest (a.put o.dst (.int .i64 ((min sLen dLen : Nat) : Int))) w') : wpList P ops Q (o :: rest) a w := by
  obtain ⟨m, hm⟩ : ∃ m, min sLen dLen = m := ⟨_, rfl⟩
  rw [hm] at h
  have hlen : (xs.take m).length = m := by rw [List.length_take, hx.1]; omega
  by_cases h0 : m = 0
  · subst h0
    refine wpList_copy_nothing hgd d s dT sT ho e hu hsz _ A dLen dCap sLen sCap hd hs hm ?_
    exact h w (by rw [List.take_zero, laidOver_nil]; exact hr) (World.grownBy.refl _ _) (Lib.hid rfl)
  · obtain ⟨b, o2, rfl, _, hc⟩ := hx.2.2 (by omega)
    refine wpList_copy_own hgd d s dT sT ho e hu hsz g off dLen dCap ⟨b, o2, none⟩ sLen sCap hd hs (cur.map (Value.int k)).toArray t hr.2 ((xs.take m).map (Value.int k)) (by rw [List.length_map, hlen]; exact hm.symm)
      (fun j v hv => ?_) (by simp [hx.1]; omega) (by intro v hv; obtain ⟨z, _, rfl⟩ := List.mem_map.1 hv; rfl) ?_
    · have hj : j < m := by
        have := (List.getElem?_eq_some_iff.1 hv).1
        rw [List.length_map, hlen] at this
        exact this
      have e1 : (Addr.mk b o2 none).add j = ⟨b, o2 + j, none⟩ := by unfold Addr.add; split <;> simp_all
      rw [e1, hc j (by omega), ← hv]
      simp [List.getD_eq_getElem?_getD, hj, show j < xs.length by have := hx.1; omega]
    · have hcells : (((cur.map (Value.int k)).toArray.toList.take off ++ ((xs.take m).map (Value.int k) ++ (cur.map (Value.int k)).toArray.toList.drop (off + ((xs.take m).map (Value.int k)).length)))).toArray = arr k (laidOver cur off (xs.take m)) := by
        rw [List.length_map, hlen]
        simp [arr, laidOver, List.map_take, List.map_drop, hlen]
      rw [hcells, List.length_map, hlen]
      exact h _ (hr.setRow (fun z hz => by
        rcases laidOver_mem hz with h1 | h1
        · exact hr.1 z h1
        · exact hx.2.1 z (List.mem_of_mem_take h1))) (grown_setRow _ _ _) (Lib.hid (by simp))

section
variable {F : Fence} {n : Nat} {P : Program} {ops : Array Oper} {rest : List Oper} {o : Oper} {a : Act} {w : World} {Q : Exit → Act → World → Prop}
theorem run_alloc_arr (ty : TypeId) (k : IntKind) (m : Nat) (hz : (P.info? ty).bind (·.zero) = some (.agg (arr k (List.replicate m 0)))) (v : Value) :
    (Instr.alloc ty true v).run P w = .ok (.pointer (some ⟨w.heap.size, 0, none⟩)) (w.alloc (.cells (arr k (List.replicate m 0)) ty)) := by
  cases hi : P.info? ty with
  | none => simp [hi] at hz
  | some i =>
    simp only [hi, Option.bind_some] at hz
    simp [Instr.alloc, zeroValue, typeInfo, hi, hz, newVar, newRow, Value.cells]
theorem zeros_wf (k : IntKind) (m : Nat) : ∀ z ∈ List.replicate m (0 : Int), (Lit.int k z).wf = true := fun z hz => by rw [List.eq_of_mem_replicate hz]; cases k <;> decide
/-- a new array of zeros -/
theorem wpList_alloc_Row (hgd : o.guard = none) (ty : TypeId) (ho : o.op = .alloc ty) (k : IntKind) (m : Nat) (hz : (P.info? ty).bind (·.zero) = some (.agg (arr k (List.replicate m 0))))
    (h : ∀ w', Row w' w.heap.size ty k (List.replicate m 0) → w.grownBy w' none → Hid (w'.heap.size = w.heap.size + 1) → wpList P ops Q rest (a.put o.dst (.pointer (some ⟨w.heap.size, 0, none⟩))) w') : wpList P ops Q (o :: rest) a w := by
  refine wpList_plain hgd fun K hK => ?_
  unfold Oper.wp execOp
  simp only [ho, run_alloc_arr ty k m hz, Sem.run_bind, Sem.run_pure, Result.andThen_ok]
  exact hK _ _ (h _ (Row.new w ty (zeros_wf k m)) (World.grownBy_alloc w _ none) (Lib.hid (by simp)))
theorem wpListIn_alloc_Row (hw : Region.wanted o (yielded ops a.tmps) = true) (ty : TypeId) (ho : o.op = .alloc ty) (k : IntKind) (m : Nat) (hz : (P.info? ty).bind (·.zero) = some (.agg (arr k (List.replicate m 0))))
    (h : ∀ w', Row w' w.heap.size ty k (List.replicate m 0) → w.grownBy w' none → Hid (w'.heap.size = w.heap.size + 1) → wpListIn F n P ops Q rest (a.put o.dst (.pointer (some ⟨w.heap.size, 0, none⟩))) w') : wpListIn F n P ops Q (o :: rest) a w := by
  refine wpListIn_step fun K hK => ?_
  rw [if_pos hw]
  unfold Oper.wpIn
  refine ⟨fun f hf => by simp [Oper.about, ho] at hf, ?_⟩
  rw [Oper.semAt_plain F _ _ (by rw [ho]; intro c hc'; cases hc')]
  unfold execOp
  simp only [ho, run_alloc_arr ty k m hz, Sem.run_bind, Sem.run_pure, Result.andThen_ok]
  exact hK _ _ (h _ (Row.new w ty (zeros_wf k m)) (World.grownBy_alloc w _ none) (Lib.hid (by simp)))
/-- an array that came in by value, in a box of its own -/
theorem wpList_box_Row (hgd : o.guard = none) (ty : TypeId) (x : Operand) (ho : o.op = .box ty x) (k : IntKind) (zs : List Int) (hx : a.eval x = .agg (arr k zs)) (hwf : ∀ z ∈ zs, (Lit.int k z).wf = true)
    (h : ∀ w', Row w' w.heap.size ty k zs → w.grownBy w' none → Hid (w'.heap.size = w.heap.size + 1) → wpList P ops Q rest (a.put o.dst (.pointer (some ⟨w.heap.size, 0, none⟩))) w') : wpList P ops Q (o :: rest) a w := by
  refine wpList_plain hgd fun K hK => ?_
  unfold Oper.wp execOp
  simp only [ho, hx, Sem.run_bind, Instr.box, newVar, newRow, run_newObj_alloc, Sem.run_pure, Result.andThen_ok]
  exact hK _ _ (h _ (Row.new w ty hwf) (World.grownBy_alloc w _ none) (Lib.hid (by simp)))
theorem wpListIn_box_Row (hw : Region.wanted o (yielded ops a.tmps) = true) (ty : TypeId) (x : Operand) (ho : o.op = .box ty x) (k : IntKind) (zs : List Int) (hx : a.eval x = .agg (arr k zs)) (hwf : ∀ z ∈ zs, (Lit.int k z).wf = true)
    (h : ∀ w', Row w' w.heap.size ty k zs → w.grownBy w' none → Hid (w'.heap.size = w.heap.size + 1) → wpListIn F n P ops Q rest (a.put o.dst (.pointer (some ⟨w.heap.size, 0, none⟩))) w') : wpListIn F n P ops Q (o :: rest) a w := by
  refine wpListIn_step fun K hK => ?_
  rw [if_pos hw]
  unfold Oper.wpIn
  refine ⟨fun f hf => by simp [Oper.about, ho] at hf, ?_⟩
  rw [Oper.semAt_plain F _ _ (by rw [ho]; intro c hc'; cases hc')]
  unfold execOp
  simp only [ho, hx, Sem.run_bind, Instr.box, newVar, newRow, run_newObj_alloc, Sem.run_pure, Result.andThen_ok]
  exact hK _ _ (h _ (Row.new w ty hwf) (World.grownBy_alloc w _ none) (Lib.hid (by simp)))
theorem wpList_store_RowTo (hgd : o.guard = none) (ty : TypeId) (x y : Operand) (ho : o.op = .store ty x y) (g : Nat) (hx : a.eval x = .pointer (some ⟨g, 0, none⟩)) (t : TypeId) (k : IntKind) (old zs : List Int) (hy : a.eval y = .agg (arr k zs))
    (hr : Row w g t k old) (m : Nat) (hi : (P.info? ty).map (·.size) = some m) (hn : zs.length = m) (ho' : old.length = m) (hwf : ∀ z ∈ zs, (Lit.int k z).wf = true)
    (h : ∀ w', Row w' g t k zs → w.grownBy w' (some g) → Hid (w'.heap.size = w.heap.size) → wpList P ops Q rest (a.put o.dst undef) w') : wpList P ops Q (o :: rest) a w :=
  wpList_store_Row hgd ty x y ho g hx t k old zs hy hr m hi hn ho' (h _ (hr.setRow hwf) (grown_setRow _ _ _) (Lib.hid (by simp)))
theorem wpListIn_store_RowTo (hw : Region.wanted o (yielded ops a.tmps) = true) (ty : TypeId) (x y : Operand) (ho : o.op = .store ty x y) (g : Nat) (hx : a.eval x = .pointer (some ⟨g, 0, none⟩)) (t : TypeId) (k : IntKind) (old zs : List Int) (hy : a.eval y = .agg (arr k zs))
    (hr : Row w g t k old) (m : Nat) (hi : (P.info? ty).map (·.size) = some m) (hn : zs.length = m) (ho' : old.length = m) (hwf : ∀ z ∈ zs, (Lit.int k z).wf = true)
    (h : ∀ w', Row w' g t k zs → w.grownBy w' (some g) → Hid (w'.heap.size = w.heap.size) → wpListIn F n P ops Q rest (a.put o.dst undef) w') : wpListIn F n P ops Q (o :: rest) a w :=
  wpListIn_store_Row hw ty x y ho g hx t k old zs hy hr m hi hn ho' (h _ (hr.setRow hwf) (grown_setRow _ _ _) (Lib.hid (by simp)))
end
/-- a whole array as a slice -/
theorem run_slice_arr_all {P : Program} (t e : TypeId) (n g : Nat) (w : World) (ht : P.underlying t = some (.array n e)) (hs : (P.info? e).map (·.size) = some 1) (hn : 0 < n) :
    (Instr.sliceAt t (.pointer (some ⟨g, 0, none⟩)) none none none).run P w = .ok (.slice (some ⟨g, 0, none⟩) n n) w := by
  have he : P.elem t = e := by simp [Program.elem, ht]
  have hl : P.arrayLen t = n := by simp [Program.arrayLen, ht]
  have ht' : P.underlying t = some (.array (P.arrayLen t) (P.elem t)) := by rw [he, hl]; exact ht
  obtain ⟨inf, hi, h1⟩ := Option.map_eq_some_iff.1 hs
  rw [run_sliceAt_array_all w t ⟨g, 0, none⟩ ht', he, hl]
  have hz : (sizeOf e).run P w = .ok 1 w := by simp [sizeOf, typeInfo, hi, h1]
  rw [hz]
  simp [Result.andThen, slicedAt, Addr.add]
end Go.Proofs.YtebcejncjljmhaaDoor.Mem
namespace Go.Proofs.YtebcejncjljmhaaDoor.Held
open Go.RowKit
set_option linter.unusedVariables false

/-- every activation may run; r: of which round -/
def wideR (r : Option Nat) : Fence := { Fence.wide with round := r }
theorem wideR_none : wideR none = Fence.wide := rfl
theorem wideR_some (l : Nat) : wideR (some l) = Fence.wide.inRound l := rfl

section
variable {P : Program} {ops : Array Oper} {Q : Exit → Act → World → Prop} {n : Nat} {r : Option Nat}
theorem calls_wideR {f : FuncId} {args : Array Value} {w : World} {R : Ending → World → Prop} (h : Calls P f args w R) : CallsIn (wideR r) n P f args w R :=
  (callsIn_wide (n := n)).2 h
theorem rows_wideR {row : String} {args : Array Value} {w : World} {R : Value → World → Prop} (h : Rows P row args w R) : RowsIn (wideR r) n P row args w R := fun c cs _ => by
  obtain ⟨v, w', hR, hs⟩ := h c cs
  exact ⟨v, w', hR, stepsIn_wide.2 hs⟩
theorem opIn_of_op {o : Oper} (ho : ∀ c, o.op ≠ .defer c) {K : Act → World → Prop} {a : Act} {w : World} (h : o.wp P a w K Q) : o.wpIn (wideR r) n P a w K Q := by
  refine ⟨fun _ _ => trivial, ?_⟩
  rw [Oper.semAt_plain (wideR r) _ _ ho]
  unfold Oper.wp at h
  generalize (execOp a.eval o).run P w = x at h
  cases x with
  | ok y w' =>
    cases y with
    | value v => exact h
    | skip => exact h
    | «defer» d => exact h
    | enter f args =>
      refine ⟨fun hd => absurd (show false = true from hd) (by simp), (calls_wideR (r := r) h).mono fun e w'' he => ?_⟩
      cases e <;> exact he
    | row row args => exact ⟨fun hd => absurd (show false = true from hd) (by simp), rows_wideR h⟩
    | _ => exact h.elim
  | halt y w' => cases y <;> exact h
def noDefer (ops : Array Oper) : Bool := ops.all fun o => match o.op with | .defer _ => false | _ => true
theorem noDefer_spec (h : noDefer ops = true) {i : Nat} {o : Oper} (hi : ops[i]? = some o) : ∀ c, o.op ≠ .defer c := by
  intro c e
  have hlt := (Array.getElem?_eq_some_iff.1 hi).1
  have := (Array.all_eq_true.1 h) i hlt
  rw [(Array.getElem?_eq_some_iff.1 hi).2, e] at this
  cases this
theorem opsIn_of_op (hd : noDefer ops = true) (hq : ∀ a w, ¬ Q .outgrown a w) {i : Nat} {K : Act → World → Prop} {a : Act} {w : World} (h : wpOp P ops Q i K a w) : wpOpIn (wideR r) n P ops Q i K a w := by
  unfold wpOp at h
  unfold wpOpIn
  cases hi : ops[i]? with
  | none => simpa only [hi] using h
  | some o =>
    simp only [hi] at h ⊢
    split
    · rename_i hw
      simp only [hw, if_true] at h
      rcases h with h | ⟨_, a', w', hl⟩
      · exact opIn_of_op (noDefer_spec hd hi) h
      · exact (hq _ _ hl).elim
    · rename_i hw
      simp only [hw] at h
      exact ⟨fun _ _ => trivial, h⟩
theorem anyIn_of_any {md : Region.Mode} (hd : noDefer ops = true) (hq : ∀ a w, ¬ Q .outgrown a w) : ∀ (fuel : Nat) (listed : Array Bool) (a : Act) (w : World), wpAny P md ops Q fuel listed a w → wpAnyIn (wideR r) n P md ops Q fuel listed a w
  | 0, _, _, _, h => h
  | fuel + 1, _, _, _, h => ⟨h.1, fun i hi => wpOpIn_mono (fun a' w' h' => anyIn_of_any hd hq fuel _ a' w' h') (opsIn_of_op hd hq (h.2 i hi))⟩
theorem listIn_of_list (hd : noDefer ops = true) (hq : ∀ a w, ¬ Q .outgrown a w) : ∀ (l : List Oper) (a : Act) (w : World), (∀ o ∈ l, ∀ c, o.op ≠ .defer c) → wpList P ops Q l a w → wpListIn (wideR r) n P ops Q l a w
  | [], _, _, _, h => h
  | o :: rest, a, w, hl, h => by
    unfold wpList at h
    unfold wpListIn
    split
    · rename_i hw
      simp only [hw, if_true] at h
      rcases h with h | ⟨_, a', w', hx⟩
      · exact Oper.wpIn_mono (fun a' w' h' => listIn_of_list hd hq rest a' w' (fun o ho => hl o (List.mem_cons_of_mem _ ho)) h') (opIn_of_op (hl o List.mem_cons_self) h)
      · exact (hq _ _ hx).elim
    · rename_i hw
      simp only [hw] at h
      exact ⟨fun _ _ => trivial, listIn_of_list hd hq rest _ w (fun o ho => hl o (List.mem_cons_of_mem _ ho)) h⟩

/-- a region that draws its order, within a round or an iterator -/
theorem wpIn_region_heldR {F : Fence} (hF : F = wideR r) {S : World → Prop} {id : Nat} {a : Act} {w : World} (hm : P.follows .mixedOrders = true) (hd : noDefer ops = true) (hq : ∀ a w, ¬ Q .outgrown a w)
    (h : wpAnyH P .any ops Q S ops.size (Array.replicate ops.size false) a { w with drawn := w.drawn + 1 }) : (Code.region id ops true).wpIn F n P Q a w := by
  subst hF
  exact wpIn_region_any hm (anyIn_of_any hd hq _ _ _ _ (wpAny_of_held _ _ _ _ h))
/-- a region of one order, within a round or an iterator -/
theorem wpIn_region_plainR {F : Fence} (hF : F = wideR r) {id : Nat} {l : List Oper} {a : Act} {w : World} (hd : noDefer l.toArray = true) (hq : ∀ a w, ¬ Q .outgrown a w)
    (h : wpList P l.toArray Q l a w) : (Code.region id l.toArray false).wpIn F n P Q a w := by
  subst hF
  refine wpIn_region_lit (listIn_of_list hd hq l a w (fun o ho c e => ?_) h)
  obtain ⟨i, hi, rfl⟩ := List.mem_iff_getElem.1 ho
  exact noDefer_spec hd (i := i) (o := l[i]) (by simp [hi]) c e
end

section
variable {P : Program} {ops : Array Oper} {Q : Exit → Act → World → Prop} {S : World → Prop}
/-- a load, carried out -/
theorem op_load (i : Nat) (d : Option Tmp) {o : Oper} {a : Act} {w : World} {K : Act → World → Prop} (ty : TypeId) {x : Operand} (p : Addr) (v : Value) (hi : ops[i]? = some o) (hd : o.dst = d) (hw : Region.wanted o (yielded ops a.tmps) = true)
    (ho : o.op = .load ty x) (hx : a.eval x = .pointer (some p)) (hr : (loadVar ty p).run P w = .ok v w) (h : K (a.put d v) w) : wpOp P ops Q i K a w := by
  subst hd
  refine op_wp i hi hw ?_
  unfold Oper.wp execOp
  simp only [ho, hx, Instr.loadAt, Instr.sureAddr, Sem.run_bind, Sem.run_pure, Result.andThen_ok, hr]
  exact h
/-- a new array of zeros -/
theorem op_alloc_Row (i : Nat) (d : Option Tmp) {o : Oper} {a : Act} {w : World} {K : Act → World → Prop} (ty : TypeId) (k : IntKind) (m : Nat) (hi : ops[i]? = some o) (hd : o.dst = d) (hw : Region.wanted o (yielded ops a.tmps) = true)
    (ho : o.op = .alloc ty) (hz : (P.info? ty).bind (·.zero) = some (.agg (Mem.arr k (List.replicate m 0))))
    (h : ∀ g w', Mem.Row w' g ty k (List.replicate m 0) → Below w.heap.size w w' → Hid (w.heap.size ≤ g) → K (a.put d (.pointer (some ⟨g, 0, none⟩))) w') : wpOp P ops Q i K a w := by
  subst hd
  refine op_wp i hi hw ?_
  unfold Oper.wp execOp
  simp only [ho, Mem.run_alloc_arr ty k m hz, Sem.run_bind, Sem.run_pure, Result.andThen_ok]
  exact h _ _ (Mem.Row.new w ty (Mem.zeros_wf k m)) ((Below.refl _ w).alloc (Nat.le_refl _) _) (Lib.hid (Nat.le_refl _))
end
end Go.Proofs.YtebcejncjljmhaaDoor.Held
namespace Go.Proofs.YtebcejncjljmhaaDoor.Held
open Go.RowKit
/-- a type of one cell that is neither a struct nor an array -/
def plainT (P : Program) (ty : TypeId) : Bool := match P.underlying ty with | some (.struct _) => false | some (.array _ _) => false | some _ => true | none => false
theorem run_loadVar_cell {P : Program} (ty : TypeId) (p : Addr) (w : World) (v : Value) (hp : plainT P ty = true) (hc : w.cell? p = some v) : (loadVar ty p).run P w = .ok v w := by
  unfold plainT at hp
  cases hu : P.underlying ty with
  | none => rw [hu] at hp; cases hp
  | some d =>
    rw [hu] at hp
    cases d <;> first | (cases hp; done) | simp [loadVar, isAgg, run_underlying hu, Sem.run_bind, Result.andThen, hc]
section
variable {P : Program} {S : World → Prop} {ρ : Operand → Value} {o : Oper}
theorem y_load {ty : TypeId} {x : Operand} {p : Addr} {v : Value} (ho : o.op = .load ty x) (hx : ρ x = .pointer (some p)) (hp : plainT P ty = true) (hc : ∀ w, S w → w.cell? p = some v) : ∀ w, S w → (execOp ρ o).run P w = .ok (.value v) w := fun w hw => by
  simp only [execOp, ho, hx, Instr.loadAt, Instr.sureAddr, Sem.run_bind, Sem.run_pure, Result.andThen_ok, run_loadVar_cell ty p w v hp (hc w hw)]
end
/-- a whole array stored, the new world a letter -/
theorem op_store_RowL {P : Program} {ops : Array Oper} {Q : Exit → Act → World → Prop} (i : Nat) (d : Option Tmp) {o : Oper} {a : Act} {w : World} {K : Act → World → Prop} (ty : TypeId) {x y : Operand} (g : Nat) (t : TypeId) (k : IntKind) (old zs : List Int) (hi : ops[i]? = some o) (hd : o.dst = d) (hw : Region.wanted o (yielded ops a.tmps) = true)
    (ho : o.op = .store ty x y) (hx : a.eval x = .pointer (some ⟨g, 0, none⟩)) (hy : a.eval y = .agg (Mem.arr k zs)) (hrow : Mem.Row w g t k old) (n : Nat) (hsz : (P.info? ty).map (·.size) = some n) (hn : zs.length = n) (ho' : old.length = n) (hwf : ∀ z ∈ zs, (Lit.int k z).wf = true)
    (h : ∀ w', Mem.Row w' g t k zs → w.grownBy w' (some g) → K (a.put d undef) w') : wpOp P ops Q i K a w :=
  op_store_Row i d ty g t k old zs hi hd hw ho hx hy hrow n hsz hn ho' (h _ (hrow.setRow hwf) (Mem.grown_setRow _ _ _))
/-- numbers, as the values of a list -/
theorem ints_of_vals {w : World} {B : Nat} {A : Option Addr} {n : Nat} {k : IntKind} {zs : List Int} (h : Mem.Vals w B A n (zs.map (Value.int k))) (hwf : ∀ z ∈ zs, (Lit.int k z).wf = true) : Mem.Ints w k B A n zs :=
  ⟨by simpa using h.1, hwf, fun h0 => by
    obtain ⟨b, off, e, hb, hc⟩ := h.2.2 h0
    refine ⟨b, off, e, hb, fun i hi => ?_⟩
    have hl : i < zs.length := by have := h.1; simp at this; omega
    rw [hc i hi]
    simp [List.getD_eq_getElem?_getD, hl]⟩
end Go.Proofs.YtebcejncjljmhaaDoor.Held
namespace Go.Proofs.YtebcejncjljmhaaDoor.Held
open Go.RowKit Go.Proofs.YtebcejncjljmhaaDoor.Mem
set_option linter.unusedVariables false

theorem run_slice_arr_h {P : Program} (t e : TypeId) (n g h : Nat) (w : World) (ht : P.underlying t = some (.array n e)) (hs : (P.info? e).map (·.size) = some 1) (h0 : 0 < n) (hn : h ≤ n) :
    (Instr.sliceAt t (.pointer (some ⟨g, 0, none⟩)) none (some (.int .i64 (h : Int))) none).run P w = .ok (.slice (some ⟨g, 0, none⟩) h n) w := by
  have hz : (sizeOf e).run P w = .ok 1 w := by
    cases hq : P.info? e with
    | none => simp [hq] at hs
    | some q => simp [hq] at hs; simp [sizeOf, typeInfo, hq, hs]
  have ea : (Addr.mk g 0 none).add 0 = ⟨g, 0, none⟩ := by unfold Addr.add; split <;> simp_all
  simp [Instr.sliceAt, Instr.sureAddr, run_underlying ht, Instr.sliceBounds, run_sliceBound, hz, Sem.run_bind, Result.andThen, ea, (by omega : (h : Int) ≤ n)]

section
variable {P : Program} {S : World → Prop} {ρ : Operand → Value} {o : Oper}
theorem y_min {x y : Operand} {k : IntKind} {a b r : Int} {ts : Array TypeId} (ho : o.op = .call { callee := .builtin .min, args := #[x, y], argTypes := ts }) (hx : ρ x = .int k a) (hy : ρ y = .int k b) (hr : (if b < a then b else a) = r) :
    ∀ w, S w → (execOp ρ o).run P w = .ok (.value (.int k r)) w := fun w _ => by
  unfold execOp
  simp [ho, resolve, invoke, builtin, hx, hy, run_min_int2, hr]
end

section
variable {P : Program} {ops : Array Oper} {Q : Exit → Act → World → Prop}
theorem op_append_fits (i : Nat) (d : Option Tmp) {o : Oper} {a : Act} {w : World} {K : Act → World → Prop} {s x : Operand} (ts : TypeId) (hi : ops[i]? = some o) (hd : o.dst = d) (hw : Region.wanted o (yielded ops a.tmps) = true)
    (ho : o.op = .call { callee := .builtin .append, args := #[s, x], argTypes := #[ts, ts] }) (base : Nat) (e : TypeId) (k : IntKind) (bytes : Nat) (ht : P.underlying ts = some (.slice e))
    (hinfo : (P.info? e).map (fun i => (i.zero, i.size, i.bytes)) = some (some (.int k 0), 1, bytes)) (g cap len : Nat) (zs : List Int) (hs : a.eval s = .slice (some ⟨g, 0, none⟩) len cap) (hl : zs.length = len)
    (hown : Mem.Own w base e k (.slice (some ⟨g, 0, none⟩) len cap) zs) (B : Nat) (A : Option Addr) (m c : Nat) (xs : List Int) (hx : a.eval x = .slice A m c) (hr : Ints w k B A m xs) (L : Nat) (hL : len + m = L) (hfit : L ≤ cap)
    (h : ∀ w', Mem.Own w' base e k (.slice (some ⟨g, 0, none⟩) L cap) (zs ++ xs) → w.grownBy w' (some g) → K (a.put d (.slice (some ⟨g, 0, none⟩) L cap)) w') : wpOp P ops Q i K a w := by
  subst hd
  subst hl
  subst hL
  refine op_wp i hi hw ?_
  obtain ⟨w', hrun, h2, h3⟩ := run_append_ints_fits (P := P) w base ts o.type e k bytes ht hinfo g cap zs hown B A m c xs hr hfit
  exact Lib.wp_append_run w s x ts ts ho _ _ hs hx _ w' hrun (h w' h2 h3)
/-- a store of a value of one cell into a box -/
theorem op_store_box (i : Nat) (d : Option Tmp) {o : Oper} {a : Act} {w : World} {K : Act → World → Prop} (ty : TypeId) {x y : Operand} (g : Nat) (t : TypeId) (old v : Value) (hi : ops[i]? = some o) (hd : o.dst = d) (hw : Region.wanted o (yielded ops a.tmps) = true)
    (ho : o.op = .store ty x y) (hx : a.eval x = .pointer (some ⟨g, 0, none⟩)) (hy : a.eval y = v) (hb : w.heap[g]? = some (.cells #[old] t (0, 0))) (hsz : (P.info? ty).map (·.size) = some 1) (h1 : v.cells = #[v]) (ho1 : v.oneCell' = true)
    (h : ∀ w', w'.heap[g]? = some (.cells #[v] t (0, 0)) → w.grownBy w' (some g) → K (a.put d undef) w') : wpOp P ops Q i K a w := by
  subst hd
  refine op_wp i hi hw ?_
  have hz : (sizeOf ty).run P w = .ok 1 w := by
    cases hq : P.info? ty with
    | none => simp [hq] at hsz
    | some q => simp [hq] at hsz; simp [sizeOf, typeInfo, hq, hsz]
  have ea : (Addr.mk g 0 none).add 0 = ⟨g, 0, none⟩ := by unfold Addr.add; split <;> simp_all
  have hrun : (storeVar ty ⟨g, 0, none⟩ v).run P w = .ok () (w.setCell ⟨g, 0, none⟩ v) := by
    simp [storeVar, hz, h1, Sem.run_bind, Result.andThen, storeCells, run_store P w _ v _ ho1, ea, cell_of_one hb, free_of_one hb]
  unfold Oper.wp execOp
  simp only [ho, hx, hy, Instr.storeAt, Instr.sureAddr, Sem.run_bind, Sem.run_pure, Result.andThen_ok, hrun]
  exact h _ (one_setCell hb) (grown_setCell _ _ _ _)
end

section
variable {F : Fence} {n : Nat} {P : Program} {ops : Array Oper} {rest : List Oper} {o : Oper} {a : Act} {w : World} {Q : Exit → Act → World → Prop}
/-- a value of one cell in a box of its own, the new world a letter -/
theorem wpListIn_box_cell (hw : Region.wanted o (yielded ops a.tmps) = true) (ty : TypeId) (x : Operand) (ho : o.op = .box ty x) (v : Value) (hx : a.eval x = v) (h1 : v.cells = #[v])
    (h : ∀ w', w'.heap[w.heap.size]? = some (.cells #[v] ty (0, 0)) → w.grownBy w' none → Hid (w'.heap.size = w.heap.size + 1) → wpListIn F n P ops Q rest (a.put o.dst (.pointer (some ⟨w.heap.size, 0, none⟩))) w') : wpListIn F n P ops Q (o :: rest) a w := by
  refine wpListIn_step fun K hK => ?_
  rw [if_pos hw]
  unfold Oper.wpIn
  refine ⟨fun f hf => by simp [Oper.about, ho] at hf, ?_⟩
  rw [Oper.semAt_plain F _ _ (by rw [ho]; intro c hc'; cases hc')]
  unfold execOp
  simp only [ho, hx, Sem.run_bind, Instr.box, newVar, newRow, run_newObj_alloc, Sem.run_pure, Result.andThen_ok, h1]
  exact hK _ _ (h _ (heap_alloc_new w _) (World.grownBy_alloc w _ none) (Lib.hid (by simp)))
theorem wpList_box_cell (hgd : o.guard = none) (ty : TypeId) (x : Operand) (ho : o.op = .box ty x) (v : Value) (hx : a.eval x = v) (h1 : v.cells = #[v])
    (h : ∀ w', w'.heap[w.heap.size]? = some (.cells #[v] ty (0, 0)) → w.grownBy w' none → Hid (w'.heap.size = w.heap.size + 1) → wpList P ops Q rest (a.put o.dst (.pointer (some ⟨w.heap.size, 0, none⟩))) w') : wpList P ops Q (o :: rest) a w := by
  refine wpList_plain hgd fun K hK => ?_
  unfold Oper.wp execOp
  simp only [ho, hx, Sem.run_bind, Instr.box, newVar, newRow, run_newObj_alloc, Sem.run_pure, Result.andThen_ok, h1]
  exact hK _ _ (h _ (heap_alloc_new w _) (World.grownBy_alloc w _ none) (Lib.hid (by simp)))
theorem run_alloc_one {P : Program} (ty : TypeId) (z : Value) (hz : (P.info? ty).bind (·.zero) = some z) (h1 : z.cells = #[z]) (v : Value) (w : World) :
    (Instr.alloc ty true v).run P w = .ok (.pointer (some ⟨w.heap.size, 0, none⟩)) (w.alloc (.cells #[z] ty)) := by
  cases hi : P.info? ty with
  | none => simp [hi] at hz
  | some i =>
    simp only [hi, Option.bind_some] at hz
    simp [Instr.alloc, zeroValue, typeInfo, hi, hz, newVar, newRow, h1]
/-- a new variable of one cell, the new world a letter -/
theorem wpListIn_alloc_cell (hw : Region.wanted o (yielded ops a.tmps) = true) (ty : TypeId) (ho : o.op = .alloc ty) (z : Value) (hz : (P.info? ty).bind (·.zero) = some z) (h1 : z.cells = #[z])
    (h : ∀ w', w'.heap[w.heap.size]? = some (.cells #[z] ty (0, 0)) → w.grownBy w' none → Hid (w'.heap.size = w.heap.size + 1) → wpListIn F n P ops Q rest (a.put o.dst (.pointer (some ⟨w.heap.size, 0, none⟩))) w') : wpListIn F n P ops Q (o :: rest) a w := by
  refine wpListIn_step fun K hK => ?_
  rw [if_pos hw]
  unfold Oper.wpIn
  refine ⟨fun f hf => by simp [Oper.about, ho] at hf, ?_⟩
  rw [Oper.semAt_plain F _ _ (by rw [ho]; intro c hc'; cases hc')]
  unfold execOp
  simp only [ho, run_alloc_one ty z hz h1, Sem.run_bind, Sem.run_pure, Result.andThen_ok]
  exact hK _ _ (h _ (heap_alloc_new w _) (World.grownBy_alloc w _ none) (Lib.hid (by simp)))
theorem run_store_box {P : Program} {w : World} (ty : TypeId) (g : Nat) (t : TypeId) (old v : Value) (hb : w.heap[g]? = some (.cells #[old] t (0, 0))) (hsz : (P.info? ty).map (·.size) = some 1) (h1 : v.cells = #[v]) (ho1 : v.oneCell' = true) :
    (storeVar ty ⟨g, 0, none⟩ v).run P w = .ok () (w.setCell ⟨g, 0, none⟩ v) := by
  have hz : (sizeOf ty).run P w = .ok 1 w := by
    cases hq : P.info? ty with
    | none => simp [hq] at hsz
    | some q => simp [hq] at hsz; simp [sizeOf, typeInfo, hq, hsz]
  have ea : (Addr.mk g 0 none).add 0 = ⟨g, 0, none⟩ := by unfold Addr.add; split <;> simp_all
  simp [storeVar, hz, h1, Sem.run_bind, Result.andThen, storeCells, run_store P w _ v _ ho1, ea, cell_of_one hb, free_of_one hb]
/-- a store into a box, the new world a letter -/
theorem wpListIn_store_box (hw : Region.wanted o (yielded ops a.tmps) = true) (ty : TypeId) (x y : Operand) (ho : o.op = .store ty x y) (g : Nat) (hx : a.eval x = .pointer (some ⟨g, 0, none⟩)) (t : TypeId) (old v : Value) (hy : a.eval y = v)
    (hb : w.heap[g]? = some (.cells #[old] t (0, 0))) (hsz : (P.info? ty).map (·.size) = some 1) (h1 : v.cells = #[v]) (ho1 : v.oneCell' = true)
    (h : ∀ w', w'.heap[g]? = some (.cells #[v] t (0, 0)) → w.grownBy w' (some g) → wpListIn F n P ops Q rest (a.put o.dst undef) w') : wpListIn F n P ops Q (o :: rest) a w := by
  refine wpListIn_step fun K hK => ?_
  rw [if_pos hw]
  unfold Oper.wpIn
  refine ⟨fun f hf => by simp [Oper.about, ho] at hf, ?_⟩
  rw [Oper.semAt_plain F _ _ (by rw [ho]; intro c hc'; cases hc')]
  unfold execOp
  simp only [ho, hx, hy, Instr.storeAt, Instr.sureAddr, Sem.run_bind, Sem.run_pure, Result.andThen_ok, run_store_box ty g t old v hb hsz h1 ho1]
  exact hK _ _ (h _ (one_setCell hb) (grown_setCell _ _ _ _))
end

/-- a round's one variable, in its slot -/
theorem zip_one (p : Tmp) (v : Value) (t : Array Value) : ((#[p].zip #[v]).foldl (fun t (p, v) => t.setIfInBounds p v) t) = t.setIfInBounds p v := by simp
theorem zip_two (p q : Tmp) (u v : Value) (t : Array Value) : ((#[p, q].zip #[u, v]).foldl (fun t (p, v) => t.setIfInBounds p v) t) = (t.setIfInBounds p u).setIfInBounds q v := by simp

/-- what lies in a block of cells stays at a step that turns none -/
theorem ne_of_cells {w : World} {g : Nat} {cs : Array Value} {t : TypeId} {fr : Nat × Nat} {row : Option Nat} (h : w.heap[g]? = some (.cells cs t fr)) (hr : ∀ r, row = some r → ∃ o : Obj, w.heap[r]? = some o ∧ o.isCells = false) : some g ≠ row := fun e => by
  obtain ⟨o, ho, hc⟩ := hr g e.symm
  rw [h] at ho
  cases ho
  cases hc
theorem keep_cells {w w' : World} {g : Nat} {cs : Array Value} {t : TypeId} {fr : Nat × Nat} {row : Option Nat} (h : w.heap[g]? = some (.cells cs t fr)) (hg : w.grownBy w' row) (hr : some g ≠ row) : w'.heap[g]? = some (.cells cs t fr) :=
  (hg.block g (Array.getElem?_eq_some_iff.1 h).1 hr).trans h
theorem _root_.Go.Proofs.YtebcejncjljmhaaDoor.Mem.Own.cells_ {w : World} {base : Nat} {t : TypeId} {k : IntKind} {g n c : Nat} {zs : List Int} (h : Mem.Own w base t k (.slice (some ⟨g, 0, none⟩) n c) zs) : ∃ cs, w.heap[g]? = some (.cells cs t (0, 0)) := by
  rcases h.2.2 with ⟨e, _⟩ | ⟨g', cap, cur, e, _, hgg, _⟩
  · cases e
  · injection e with e1
    injection e1 with e1
    injection e1 with e1
    subst e1
    exact ⟨cur, hgg⟩
theorem others_of_grown {w w' : World} {g : Nat} {cs : Array Value} {t : TypeId} {fr : Nat × Nat} (h : w.heap[g]? = some (.cells cs t fr)) (hg : w.grownBy w' (some g)) : KeepsOthers w w' := KeepsOthers.of_grownBy hg (fun j o e ho => by cases e; rw [h] at ho; cases ho; rfl)
theorem others_of_new {w w' : World} (hg : w.grownBy w' none) : KeepsOthers w w' := KeepsOthers.of_grownBy hg (fun j o e ho => by cases e)
end Go.Proofs.YtebcejncjljmhaaDoor.Held
