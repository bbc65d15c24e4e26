/-
  Values that are slices and read as texts: no program here.
  The functions of package dominohelp on bytes, each by its contract.
  SHA-256 as plain functions on lists of numbers, and what is true of them: no program here.
  The small functions of package sha and of the document's own, each by its contract: what it returns for any numbers.
  The functions split and fold of package sha, each by its contract.
  A table of numbers of 32 bits, at a package-level variable's block, and what a row's condition on it gives: no program here.
  The function fold of package sha by its contract.
-/
import Derived.Test.YtjelacblnjbfgaaGreatDoorB1
import Derived.Test.YtjelacblnjbfgaaGreatDoorRows
import Derived.WalkKit
import Derived.OpenShut
import Derived.Laws.BitsAllLaws
import Derived.WalkLawsBesides
import Derived.IntWalk
import Derived.Lib.LaidTab
import Derived.LaidMore
import Derived.Stop.Joined
import Derived.Stop.LaidErr
import Derived.StillTailTactics
set_option linter.unusedVariables false
namespace Go.Proofs.YtjelacblnjbfgaaGreatDoor.Sha
open Go.RowKit Mem
def Texts (w : World) (B : Nat) (vs : List Value) (xss : List (List Int)) : Prop :=
  vs.length = xss.length ∧ ∀ i, i < vs.length → ∃ A n c, vs.getD i undef = .slice A n c ∧ n ≤ c ∧ c ≤ maxLen ∧ Ints w .u8 B A n (xss.getD i [])
section
variable {w w' : World} {B B' : Nat} {vs us : List Value} {xss yss : List (List Int)}
theorem Texts.below (h : Texts w B vs xss) (hb : Below B w w') : Texts w' B vs xss := ⟨h.1, fun i hi => by obtain ⟨A, n, c, e, h1, h2, hh⟩ := h.2 i hi; exact ⟨A, n, c, e, h1, h2, hh.below hb⟩⟩
theorem Texts.more (h : Texts w B vs xss) (hB : B ≤ B') : Texts w B' vs xss := ⟨h.1, fun i hi => by obtain ⟨A, n, c, e, h1, h2, hh⟩ := h.2 i hi; exact ⟨A, n, c, e, h1, h2, hh.more hB⟩⟩
theorem Texts.keep (h : Texts w B vs xss) (hk : ∀ p : Addr, p.block < B → w'.cell? p = w.cell? p) : Texts w' B vs xss := ⟨h.1, fun i hi => by obtain ⟨A, n, c, e, h1, h2, hh⟩ := h.2 i hi; exact ⟨A, n, c, e, h1, h2, hh.keep hk⟩⟩
theorem Texts.nil (w : World) (B : Nat) : Texts w B [] [] := ⟨rfl, fun i hi => by simp at hi⟩
theorem Texts.append (h : Texts w B vs xss) (k : Texts w B us yss) : Texts w B (vs ++ us) (xss ++ yss) := by
  refine ⟨by simp [h.1, k.1], fun i hi => ?_⟩
  by_cases q : i < vs.length
  · have := h.2 i q
    simp only [List.getD_eq_getElem?_getD] at this ⊢
    rw [List.getElem?_append_left q, List.getElem?_append_left (by rw [← h.1]; exact q)]
    exact this
  · rw [List.length_append] at hi
    have := k.2 (i - vs.length) (by omega)
    simp only [List.getD_eq_getElem?_getD] at this ⊢
    rw [List.getElem?_append_right (by omega), List.getElem?_append_right (by rw [← h.1]; omega), ← h.1]
    exact this
theorem Texts.one {A : Option Addr} {n c : Nat} {xs : List Int} (h : Ints w .u8 B A n xs) (h1 : n ≤ c) (h2 : c ≤ maxLen) : Texts w B [.slice A n c] [xs] :=
  ⟨rfl, fun i hi => by
    have : i = 0 := by simpa using hi
    subst this
    exact ⟨A, n, c, rfl, h1, h2, h⟩⟩
theorem Texts.one_cell (h : Texts w B vs xss) : ∀ v ∈ vs, v.oneCell' = true := fun v hv => by
  obtain ⟨i, hi, rfl⟩ := List.mem_iff_getElem.1 hv
  obtain ⟨A, n, c, e, _⟩ := h.2 i hi
  rw [List.getD_eq_getElem?_getD, List.getElem?_eq_getElem hi] at e
  simp only [Option.getD_some] at e
  rw [e]; rfl
end
theorem flat_take (xss : List (List Int)) {k : Nat} (h : k < xss.length) : (xss.take (k + 1)).flatten.length = (xss.take k).flatten.length + (xss.getD k []).length := by
  rw [List.take_add_one, List.getElem?_eq_getElem h, List.flatten_append, List.length_append]
  simp [List.getD_eq_getElem?_getD, h]
theorem flat_le (xss : List (List Int)) (k : Nat) : (xss.take k).flatten.length ≤ xss.flatten.length := by
  have := congrArg List.length (congrArg List.flatten (List.take_append_drop k xss))
  rw [List.flatten_append, List.length_append] at this
  omega
theorem flat_get : ∀ (yss : List (List Int)) (k : Nat), k < yss.length → yss.getD k [] = (yss.flatten.drop (yss.take k).flatten.length).take (yss.getD k []).length
  | [], k, h => by simp at h
  | ys :: yss, 0, _ => by simp
  | ys :: yss, k + 1, h => by
    have := flat_get yss k (by simpa using h)
    simp only [List.getD_cons_succ, List.take_succ_cons, List.flatten_cons, List.length_append] at this ⊢
    rw [List.drop_append, List.drop_of_length_le (by omega), List.nil_append]
    have e : ys.length + (yss.take k).flatten.length - ys.length = (yss.take k).flatten.length := by omega
    rw [e]
    exact this
def lenV : Value → Nat
  | .slice _ n _ => n
  | _ => 0
end Go.Proofs.YtjelacblnjbfgaaGreatDoor.Sha
namespace Go.Proofs.YtjelacblnjbfgaaGreatDoor.Help
open Go.RowKit Mem
theorem info_u8 : (Tryz.prog.info? 5).map (fun i => (i.zero, i.size, i.bytes)) = some (some (.int .u8 0), 1, 1) := by kernel_rfl
def Still (w w' : World) : Prop := ∃ m, w' = w.drewN m
section
variable {w w' w'' : World}
theorem Still.refl (w : World) : Still w w := ⟨0, rfl⟩
theorem Still.drewN (h : Still w w') (n : Nat) : Still w (w'.drewN n) := by obtain ⟨m, rfl⟩ := h; exact ⟨m + n, by simp⟩
theorem Still.trans (h : Still w w') (k : Still w' w'') : Still w w'' := by obtain ⟨m, rfl⟩ := h; obtain ⟨n, rfl⟩ := k; exact ⟨m + n, by simp⟩
theorem Still.below (h : Still w w') (B : Nat) : Below B w w' := by obtain ⟨m, rfl⟩ := h; exact below_drewN (Below.refl _ _) m
theorem Still.size (h : Still w w') : w'.heap.size = w.heap.size := by obtain ⟨m, rfl⟩ := h; rfl
theorem Still.cell (h : Still w w') (p : Addr) : w'.cell? p = w.cell? p := by obtain ⟨m, rfl⟩ := h; rfl
theorem Still.heap (h : Still w w') : w'.heap = w.heap := by obtain ⟨m, rfl⟩ := h; rfl
theorem Still.ints (h : Still w w') {k : IntKind} {B n : Nat} {A : Option Addr} {zs : List Int} (hi : Ints w k B A n zs) : Ints w' k B A n zs := hi.below (h.below B)
theorem Still.own (h : Still w w') {base : Nat} {t : TypeId} {k : IntKind} {v : Value} {zs : List Int} (hi : Mem.Own w base t k v zs) : Mem.Own w' base t k v zs := hi.below (h.below _)
end
theorem take_step {xs ys : List Int} {k : Nat} (hx : k < xs.length) (hy : k < ys.length) (h : xs.take k = ys.take k) (e : xs.getD k 0 = ys.getD k 0) : xs.take (k + 1) = ys.take (k + 1) := by
  rw [List.take_add_one, List.take_add_one, h]
  simp only [List.getD_eq_getElem?_getD, List.getElem?_eq_getElem hx, List.getElem?_eq_getElem hy, Option.getD_some] at e
  rw [List.getElem?_eq_getElem hx, List.getElem?_eq_getElem hy, e]
end Go.Proofs.YtjelacblnjbfgaaGreatDoor.Help
namespace Go.Proofs.YtjelacblnjbfgaaGreatDoor.Sum
open Go.RowKit
def R32 (x : Int) : Prop := 0 ≤ x ∧ x < 4294967296
def addI (x y : Int) : Int := (x + y) % 4294967296
def rotI (x : Int) (n : Nat) : Int := bits .or .u32 (x / 2 ^ n) (x * 2 ^ (32 - n) % 4294967296)
def xorI (x y : Int) : Int := bits .xor .u32 x y
def andI (x y : Int) : Int := bits .and .u32 x y
def bigI (x : Int) (p q r : Nat) : Int := xorI (xorI (rotI x p) (rotI x q)) (rotI x r)
def smallI (x : Int) (p q r : Nat) : Int := xorI (xorI (rotI x p) (rotI x q)) (x / 2 ^ r)
def chI (e f g : Int) : Int := xorI g (andI e (xorI f g))
def majI (a b c : Int) : Int := xorI (xorI (andI a b) (andI a c)) (andI b c)
theorem r32_add (x y : Int) : R32 (addI x y) := by unfold R32 addI; omega
theorem r32_bits (o : BinOp) (x y : Int) : R32 (bits o .u32 x y) := by
  have h := wf_bits o .u32 x y
  simp [Lit.wf, IntKind.min, IntKind.max, IntKind.signed, IntKind.bits] at h
  unfold R32
  omega
theorem r32_rot (x : Int) (n : Nat) : R32 (rotI x n) := r32_bits _ _ _
theorem r32_shr {x : Int} (h : R32 x) (n : Nat) : R32 (x / 2 ^ n) := by
  unfold R32 at *
  have h1 : (0 : Int) < 2 ^ n := Int.pow_pos (by omega)
  refine ⟨Int.ediv_nonneg h.1 (by omega), ?_⟩
  have := Int.ediv_le_self (2 ^ n) h.1
  omega
theorem or_comm32 {x y : Int} (hx : R32 x) (hy : R32 y) : bits .or .u32 x y = bits .or .u32 y x := by
  rw [u32_or x y hx.1 hx.2 hy.1 hy.2, u32_or y x hy.1 hy.2 hx.1 hx.2, Nat.or_comm]
theorem ch_eq {x y z : Int} (hx : R32 x) (hy : R32 y) (hz : R32 z) : bits .xor .u32 (bits .and .u32 x y) (bits .and .u32 (4294967295 - x) z) = chI x y z := by
  unfold chI xorI andI
  have n1 : R32 (4294967295 - x) := by unfold R32 at *; omega
  have a1 := r32_bits .and x y
  have a2 := r32_bits .and (4294967295 - x) z
  have a3 := r32_bits .xor y z
  have a4 := r32_bits .and x (bits .xor .u32 y z)
  rw [u32_xor _ _ a1.1 a1.2 a2.1 a2.2, u32_xor _ _ hz.1 hz.2 a4.1 a4.2, u32_and _ _ hx.1 hx.2 hy.1 hy.2, u32_and _ _ n1.1 n1.2 hz.1 hz.2, u32_and _ _ hx.1 hx.2 a3.1 a3.2, u32_xor _ _ hy.1 hy.2 hz.1 hz.2]
  simp only [Int.toNat_natCast]
  congr 1
  obtain ⟨a, rfl⟩ := Int.eq_ofNat_of_zero_le hx.1
  obtain ⟨b, rfl⟩ := Int.eq_ofNat_of_zero_le hy.1
  obtain ⟨c, rfl⟩ := Int.eq_ofNat_of_zero_le hz.1
  unfold R32 at hx hy hz
  have e : (4294967295 - (a : Int)).toNat = 2 ^ 32 - (a + 1) := by omega
  rw [e]
  simp only [Int.toNat_natCast]
  apply Nat.eq_of_testBit_eq
  intro i
  simp only [Nat.testBit_xor, Nat.testBit_and, Nat.testBit_two_pow_sub_succ (show a < 2 ^ 32 by omega)]
  by_cases hi : i < 32
  · simp only [hi, decide_true, Bool.true_and]
    cases a.testBit i <;> cases b.testBit i <;> cases c.testBit i <;> rfl
  · have hc : c.testBit i = false := Nat.testBit_lt_two_pow (Nat.lt_of_lt_of_le (show c < 2 ^ 32 by omega) (Nat.pow_le_pow_right (by omega) (by omega)))
    have ha : a.testBit i = false := Nat.testBit_lt_two_pow (Nat.lt_of_lt_of_le (show a < 2 ^ 32 by omega) (Nat.pow_le_pow_right (by omega) (by omega)))
    simp [hc, ha]
theorem not32 {x : Int} (h : R32 x) : bits .xor .u32 4294967295 x = 4294967295 - x := by
  rw [u32_xor _ _ (by omega) (by omega) h.1 h.2]
  obtain ⟨a, rfl⟩ := Int.eq_ofNat_of_zero_le h.1
  unfold R32 at h
  have e : (4294967295 : Int).toNat = 2 ^ 32 - 1 := rfl
  rw [e, Int.toNat_natCast]
  have e2 : ((2 ^ 32 - 1) ^^^ a) = 2 ^ 32 - (a + 1) := by
    apply Nat.eq_of_testBit_eq
    intro i
    simp only [Nat.testBit_xor, Nat.testBit_two_pow_sub_one, Nat.testBit_two_pow_sub_succ (show a < 2 ^ 32 by omega)]
    by_cases hi : i < 32
    · simp [hi]
    · have ha : a.testBit i = false := Nat.testBit_lt_two_pow (Nat.lt_of_lt_of_le (show a < 2 ^ 32 by omega) (Nat.pow_le_pow_right (by omega) (by omega)))
      simp [hi, ha]
  rw [e2]
  omega
theorem ch_eq' {x y z : Int} (hx : R32 x) (hy : R32 y) (hz : R32 z) : bits .xor .u32 (bits .and .u32 x y) (bits .and .u32 (bits .xor .u32 4294967295 x) z) = chI x y z := by
  rw [not32 hx, ch_eq hx hy hz]
def K : List Int := [0x428a2f98, 0x71374491, 0xb5c0fbcf, 0xe9b5dba5, 0x3956c25b, 0x59f111f1, 0x923f82a4, 0xab1c5ed5,
  0xd807aa98, 0x12835b01, 0x243185be, 0x550c7dc3, 0x72be5d74, 0x80deb1fe, 0x9bdc06a7, 0xc19bf174,
  0xe49b69c1, 0xefbe4786, 0x0fc19dc6, 0x240ca1cc, 0x2de92c6f, 0x4a7484aa, 0x5cb0a9dc, 0x76f988da,
  0x983e5152, 0xa831c66d, 0xb00327c8, 0xbf597fc7, 0xc6e00bf3, 0xd5a79147, 0x06ca6351, 0x14292967,
  0x27b70a85, 0x2e1b2138, 0x4d2c6dfc, 0x53380d13, 0x650a7354, 0x766a0abb, 0x81c2c92e, 0x92722c85,
  0xa2bfe8a1, 0xa81a664b, 0xc24b8b70, 0xc76c51a3, 0xd192e819, 0xd6990624, 0xf40e3585, 0x106aa070,
  0x19a4c116, 0x1e376c08, 0x2748774c, 0x34b0bcb5, 0x391c0cb3, 0x4ed8aa4a, 0x5b9cca4f, 0x682e6ff3,
  0x748f82ee, 0x78a5636f, 0x84c87814, 0x8cc70208, 0x90befffa, 0xa4506ceb, 0xbef9a3f7, 0xc67178f2]
def H0 : List Int := [0x6a09e667, 0xbb67ae85, 0x3c6ef372, 0xa54ff53a, 0x510e527f, 0x9b05688c, 0x1f83d9ab, 0x5be0cd19]
def nextW (ws : List Int) : Int := addI (addI (addI (smallI (ws.getD (ws.length - 2) 0) 17 19 10) (ws.getD (ws.length - 7) 0)) (smallI (ws.getD (ws.length - 15) 0) 7 18 3)) (ws.getD (ws.length - 16) 0)
def sched : Nat → List Int → List Int
  | 0, ws => ws
  | n + 1, ws => sched n (ws ++ [nextW ws])
def round (k w : Int) : List Int → List Int
  | [a, b, c, d, e, f, g, h] => [addI (addI (addI (addI (addI h (bigI e 6 11 25)) (chI e f g)) k) w) (addI (bigI a 2 13 22) (majI a b c)), a, b, c, addI d (addI (addI (addI (addI h (bigI e 6 11 25)) (chI e f g)) k) w), e, f, g]
  | v => v
def rounds (W : List Int) : Nat → List Int → List Int
  | 0, v => v
  | t + 1, v => round (K.getD t 0) (W.getD t 0) (rounds W t v)
def word (bs : List Int) (t : Nat) : Int := ((bs.getD (4 * t) 0 * 256 + bs.getD (4 * t + 1) 0) * 256 + bs.getD (4 * t + 2) 0) * 256 + bs.getD (4 * t + 3) 0
def words (bs : List Int) : List Int := (List.range 16).map (word bs)
def W (bs : List Int) : List Int := sched 48 (words bs)
def sumUp (h v : List Int) : List Int := (List.range 8).map fun i => addI (h.getD i 0) (v.getD i 0)
def block (h bs : List Int) : List Int := sumUp h (rounds (W bs) 64 h)
def blocksI (m : List Int) : Nat → List Int
  | 0 => H0
  | n + 1 => block (blocksI m n) ((m.drop (64 * n)).take 64)
def outB (h : List Int) : List Int := (List.range 32).map fun i => h.getD (i / 4) 0 / 2 ^ (24 - 8 * (i % 4)) % 256
def padI (n : Nat) : List Int := 128 :: (List.replicate ((119 - n % 64) % 64) 0 ++ (List.range 8).map fun i => ((8 * n : Nat) : Int) / 2 ^ (56 - 8 * i) % 256)
def sha (m : List Int) : List Int := outB (blocksI (m ++ padI m.length) ((m.length + (padI m.length).length) / 64))
theorem sched_length : ∀ (n : Nat) (ws : List Int), (sched n ws).length = ws.length + n
  | 0, ws => rfl
  | n + 1, ws => by rw [sched, sched_length n]; simp; omega
theorem sched_old : ∀ (n : Nat) (ws : List Int) (t : Nat), t < ws.length → (sched n ws).getD t 0 = ws.getD t 0
  | 0, ws, t, _ => rfl
  | n + 1, ws, t, h => by
    rw [sched, sched_old n _ t (by simp; omega)]
    simp only [List.getD_eq_getElem?_getD]
    rw [List.getElem?_append_left h]
theorem sched_new : ∀ (n : Nat) (ws : List Int) (t : Nat), 16 ≤ ws.length → ws.length ≤ t → t < ws.length + n →
    (sched n ws).getD t 0 = addI (addI (addI (smallI ((sched n ws).getD (t - 2) 0) 17 19 10) ((sched n ws).getD (t - 7) 0)) (smallI ((sched n ws).getD (t - 15) 0) 7 18 3)) ((sched n ws).getD (t - 16) 0)
  | 0, ws, t, _, h1, h2 => by omega
  | n + 1, ws, t, h0, h1, h2 => by
    rw [sched]
    by_cases h : t = ws.length
    · subst h
      rw [sched_old n _ _ (by simp), sched_old n _ _ (by simp; omega), sched_old n _ _ (by simp; omega), sched_old n _ _ (by simp; omega), sched_old n _ _ (by simp; omega)]
      have e : ∀ k, k < ws.length → (ws ++ [nextW ws]).getD k 0 = ws.getD k 0 := fun k hk => by
        simp only [List.getD_eq_getElem?_getD]; rw [List.getElem?_append_left hk]
      rw [e (ws.length - 2) (by omega), e (ws.length - 7) (by omega), e (ws.length - 15) (by omega), e (ws.length - 16) (by omega)]
      simp [nextW]
    · exact sched_new n _ t (by simp; omega) (by simp; omega) (by simp; omega)
theorem words_length (bs : List Int) : (words bs).length = 16 := by simp [words]
theorem W_length (bs : List Int) : (W bs).length = 64 := by unfold W; rw [sched_length, words_length]
theorem W_word (bs : List Int) {t : Nat} (h : t < 16) : (W bs).getD t 0 = word bs t := by
  unfold W
  rw [sched_old _ _ _ (by rw [words_length]; exact h)]
  simp [words, List.getD_eq_getElem?_getD, h]
theorem W_next (bs : List Int) {t : Nat} (h : 16 ≤ t) (h' : t < 64) :
    (W bs).getD t 0 = addI (addI (addI (smallI ((W bs).getD (t - 2) 0) 17 19 10) ((W bs).getD (t - 7) 0)) (smallI ((W bs).getD (t - 15) 0) 7 18 3)) ((W bs).getD (t - 16) 0) :=
  sched_new 48 (words bs) t (by rw [words_length]; omega) (by rw [words_length]; omega) (by rw [words_length]; omega)
def Bs (bs : List Int) : Prop := ∀ z ∈ bs, 0 ≤ z ∧ z ≤ 255
theorem Bs.at_ {bs : List Int} (h : Bs bs) (i : Nat) : 0 ≤ bs.getD i 0 ∧ bs.getD i 0 ≤ 255 := by
  rw [List.getD_eq_getElem?_getD]
  by_cases hi : i < bs.length
  · rw [List.getElem?_eq_getElem hi]; exact h _ (List.getElem_mem hi)
  · rw [List.getElem?_eq_none (by omega)]; simp
theorem r32_word {bs : List Int} (h : Bs bs) (t : Nat) : R32 (word bs t) := by
  have a := h.at_ (4 * t)
  have b := h.at_ (4 * t + 1)
  have c := h.at_ (4 * t + 2)
  have d := h.at_ (4 * t + 3)
  unfold R32 word
  omega
theorem r32_W {bs : List Int} (h : Bs bs) (t : Nat) : R32 ((W bs).getD t 0) := by
  by_cases h1 : t < 16
  · rw [W_word bs h1]; exact r32_word h t
  · by_cases h2 : t < 64
    · rw [W_next bs (by omega) h2]; exact r32_add _ _
    · rw [List.getD_eq_getElem?_getD, List.getElem?_eq_none (by rw [W_length]; omega)]
      simp [R32]
theorem K_length : K.length = 64 := rfl
theorem r32_K (t : Nat) : R32 (K.getD t 0) := by
  have h : ∀ z ∈ K, R32 z := by unfold R32; decide +kernel
  rw [List.getD_eq_getElem?_getD]
  by_cases hi : t < K.length
  · rw [List.getElem?_eq_getElem hi]; exact h _ (List.getElem_mem hi)
  · rw [List.getElem?_eq_none (by omega)]; simp [R32]
theorem roll (w s0 w9 s1 : Int) : addI w (addI (addI s0 w9) s1) = addI (addI (addI s1 w9) s0) w := by unfold addI; omega
def Eight (v : List Int) : Prop := v.length = 8 ∧ ∀ z ∈ v, R32 z
theorem Eight.out {v : List Int} (h : Eight v) : ∃ a b c d e f g k, v = [a, b, c, d, e, f, g, k] ∧ R32 a ∧ R32 b ∧ R32 c ∧ R32 d ∧ R32 e ∧ R32 f ∧ R32 g ∧ R32 k := by
  obtain ⟨hl, hr⟩ := h
  match v, hl, hr with
  | [a, b, c, d, e, f, g, k], _, hr => exact ⟨a, b, c, d, e, f, g, k, rfl, hr _ (by simp), hr _ (by simp), hr _ (by simp), hr _ (by simp), hr _ (by simp), hr _ (by simp), hr _ (by simp), hr _ (by simp)⟩
theorem Eight.round {v : List Int} (h : Eight v) (k w : Int) : Eight (round k w v) := by
  obtain ⟨a, b, c, d, e, f, g, i, rfl, ha, hb, hc, hd, he, hf, hg, hi⟩ := h.out
  refine ⟨rfl, fun z hz => ?_⟩
  simp only [Sum.round, List.mem_cons, List.mem_nil_iff, or_false] at hz
  rcases hz with rfl | rfl | rfl | rfl | rfl | rfl | rfl | rfl
  · exact r32_add _ _
  · exact ha
  · exact hb
  · exact hc
  · exact r32_add _ _
  · exact he
  · exact hf
  · exact hg
theorem Eight.rounds {v : List Int} (h : Eight v) (W : List Int) : ∀ t, Eight (rounds W t v)
  | 0 => h
  | t + 1 => (Eight.rounds h W t).round _ _
theorem Eight.sumUp (h v : List Int) : Eight (sumUp h v) := ⟨by simp [Sum.sumUp], fun z hz => by
  simp only [Sum.sumUp, List.mem_map] at hz
  obtain ⟨i, _, rfl⟩ := hz
  exact r32_add _ _⟩
theorem eight_H0 : Eight H0 := ⟨rfl, by unfold R32; decide +kernel⟩
theorem eight_blocks (m : List Int) : ∀ n, Eight (blocksI m n)
  | 0 => eight_H0
  | n + 1 => Eight.sumUp _ _
theorem pad_length (n : Nat) : (padI n).length = 9 + (119 - n % 64) % 64 := by simp [padI]; omega
theorem pad_whole (n : Nat) : (n + (padI n).length) % 64 = 0 := by rw [pad_length]; omega
theorem out_length (h : List Int) : (outB h).length = 32 := by simp [outB]
theorem out_bytes (h : List Int) : Bs (outB h) := fun z hz => by
  simp only [outB, List.mem_map] at hz
  obtain ⟨i, _, rfl⟩ := hz
  omega
theorem sha_length (m : List Int) : (sha m).length = 32 := out_length _
theorem sha_bytes (m : List Int) : Bs (sha m) := out_bytes _
theorem pad_bytes (n : Nat) : Bs (padI n) := fun z hz => by
  simp only [padI, List.mem_cons, List.mem_append, List.mem_replicate, List.mem_map] at hz
  rcases hz with rfl | ⟨_, rfl⟩ | ⟨i, _, rfl⟩
  · omega
  · omega
  · omega
end Go.Proofs.YtjelacblnjbfgaaGreatDoor.Sum
namespace Go.Proofs.YtjelacblnjbfgaaGreatDoor.Sha
open Go.RowKit Mem Help Go.Proofs.YtjelacblnjbfgaaGreatDoor.Sum
theorem mask31 : ∀ p : Fin 32, ((2 ^ 64 - p.val) &&& 31) = (32 - p.val) % 32 := by decide +kernel
theorem rot_any (x : Int) (p : Nat) (w : World) (hx : R32 x) (hk : 1 ≤ p) (hk' : p ≤ 31) :
    Calls Tryz.prog 118 #[.int .u32 x, .int .i64 (-(p : Int))] w fun e w' => e = .returned (.int .u32 (rotI x p)) ∧ w = w' := by
  have h1 : IntKind.u64.wrap (-(p : Int)) = 18446744073709551616 - p := by rw [IntKind.wrap_u64]; omega
  have h2 : bits .and .u64 (18446744073709551616 - (p : Int)) 31 = 32 - (p : Int) := by
    rw [u64_and _ _ (by omega) (by omega) (by omega) (by omega)]
    have e := mask31 ⟨p, by omega⟩
    have e1 : (18446744073709551616 - (p : Int)).toNat = 2 ^ 64 - p := by omega
    have e2 : (31 : Int).toNat = 31 := rfl
    rw [e1, e2]
    simp only at e
    rw [e]
    omega
  have e3 : 32 - (32 - p) = p := by omega
  have H : Hid (bits .or .u32 (x * 2 ^ (32 - p) % 4294967296) (x / 2 ^ (32 - (32 - p))) = rotI x p) := Lib.hid (by
    rw [e3]
    exact or_comm32 ⟨by omega, by omega⟩ (r32_shr hx p))
  clear e3
  go_enter Tryz.func118, Tryz.ntmps118
  go_wp2
  go_ret
  exact ⟨ret_int H.out, rfl⟩
theorem rturn_any (x : Int) (p : Nat) (w : World) (hx : R32 x) (hk : 1 ≤ p) (hk' : p ≤ 31) :
    Calls Tryz.prog 117 #[.int .u32 x, .int .i64 (p : Int)] w fun e w' => e = .returned (.int .u32 (rotI x p)) ∧ w = w' := by
  go_enter Tryz.func117, Tryz.ntmps117
  go_wp2
  go_ret
  exact ⟨rfl, rfl⟩
theorem rturn_i (x P : Int) (w : World) (hx : R32 x) (hk : 1 ≤ P) (hk' : P ≤ 31) :
    Calls Tryz.prog 117 #[.int .u32 x, .int .i64 P] w fun e w' => e = .returned (.int .u32 (rotI x P.toNat)) ∧ w = w' := by
  obtain ⟨p, rfl⟩ := Int.eq_ofNat_of_zero_le (show 0 ≤ P by omega)
  exact rturn_any x p w hx (by omega) (by omega)
theorem turned_any (x : Int) (p q r : Nat) (w : World) (hx : R32 x) (hp : 1 ≤ p ∧ p ≤ 31) (hq : 1 ≤ q ∧ q ≤ 31) (hr : 1 ≤ r ∧ r ≤ 31) :
    Calls Tryz.prog 128 #[.int .u32 x, .int .i64 (p : Int), .int .i64 (q : Int), .int .i64 (r : Int)] w fun e w' => e = .returned (.int .u32 (bigI x p q r)) ∧ w = w' := by
  go_enter Tryz.func128, Tryz.ntmps128
  go_wp2_with fail
  refine (rot_any x p _ hx hp.1 hp.2).mono ?_
  rintro e w' ⟨rfl, rfl⟩
  go_wp2_with fail
  refine (rot_any x q _ hx hq.1 hq.2).mono ?_
  rintro e w' ⟨rfl, rfl⟩
  go_wp2_with fail
  refine (rot_any x r _ hx hr.1 hr.2).mono ?_
  rintro e w' ⟨rfl, rfl⟩
  go_wp2_with fail
  go_ret
  exact ⟨rfl, rfl⟩
theorem shifted_any (x : Int) (p q r : Nat) (w : World) (hx : R32 x) (hp : 1 ≤ p ∧ p ≤ 31) (hq : 1 ≤ q ∧ q ≤ 31) (hr : 1 ≤ r ∧ r ≤ 31) :
    Calls Tryz.prog 131 #[.int .u32 x, .int .i64 (p : Int), .int .i64 (q : Int), .int .u64 (r : Int)] w fun e w' => e = .returned (.int .u32 (smallI x p q r)) ∧ w = w' := by
  have hx1 := hx.1
  have hx2 := hx.2
  go_enter Tryz.func131, Tryz.ntmps131
  go_wp2_with fail
  refine (rot_any x p _ hx hp.1 hp.2).mono ?_
  rintro e w' ⟨rfl, rfl⟩
  go_wp2_with fail
  refine (rot_any x q _ hx hq.1 hq.2).mono ?_
  rintro e w' ⟨rfl, rfl⟩
  go_wp2_with fail
  go_ret
  exact ⟨rfl, rfl⟩
theorem choice_any (x y z : Int) (w : World) :
    Calls Tryz.prog 129 #[.int .u32 x, .int .u32 y, .int .u32 z] w fun e w' => e = .returned (.int .u32 (chI x y z)) ∧ w = w' := by
  go_enter Tryz.func129, Tryz.ntmps129
  go_wp2
  go_ret
  exact ⟨rfl, rfl⟩
theorem majority_any (x y z : Int) (w : World) :
    Calls Tryz.prog 130 #[.int .u32 x, .int .u32 y, .int .u32 z] w fun e w' => e = .returned (.int .u32 (majI x y z)) ∧ w = w' := by
  go_enter Tryz.func130, Tryz.ntmps130
  go_wp2
  go_ret
  exact ⟨rfl, rfl⟩
end Go.Proofs.YtjelacblnjbfgaaGreatDoor.Sha
namespace Go.Proofs.YtjelacblnjbfgaaGreatDoor.Sha
open Go.RowKit Mem Help Go.Proofs.YtjelacblnjbfgaaGreatDoor.Sum
theorem ix_u8_64 (bs : List Int) (i : Nat) (w : World) (hn : bs.length = 64) (hi : i < 64) : (Instr.index 88 (.agg (arr .u8 bs)) (.int .i64 (i : Int))).run Tryz.prog w = .ok (.int .u8 (bs.getD i 0)) w :=
  run_index_arr _ 5 64 .u8 bs i w Tryz.underlying88 (by kernel_rfl) (by kernel_rfl) hn hi
theorem info_64 : (Tryz.prog.info? 88).map (·.size) = some 64 := by kernel_rfl
theorem info_16 : (Tryz.prog.info? 125).map (·.size) = some 16 := by kernel_rfl
theorem info_8 : (Tryz.prog.info? 151).map (·.size) = some 8 := by kernel_rfl
def part (bs : List Int) (k j : Nat) : Int :=
  if k ≤ 4 * j then 0 else if k = 4 * j + 1 then bs.getD (4 * j) 0 else if k = 4 * j + 2 then bs.getD (4 * j) 0 * 256 + bs.getD (4 * j + 1) 0
  else if k = 4 * j + 3 then (bs.getD (4 * j) 0 * 256 + bs.getD (4 * j + 1) 0) * 256 + bs.getD (4 * j + 2) 0 else word bs j
def parts (bs : List Int) (k : Nat) : List Int := (List.range 16).map (part bs k)
theorem parts_length (bs : List Int) (k : Nat) : (parts bs k).length = 16 := by simp [parts]
theorem parts_get (bs : List Int) (k : Nat) {j : Nat} (h : j < 16) : (parts bs k).getD j 0 = part bs k j := by simp [parts, List.getD_eq_getElem?_getD, h]
theorem parts_start (bs : List Int) : parts bs 0 = [0, 0, 0, 0, 0, 0, 0, 0, 0, 0, 0, 0, 0, 0, 0, 0] := by
  unfold parts
  have : part bs 0 = fun _ => 0 := by funext j; unfold part; rw [if_pos (by omega)]
  rw [this]; rfl
theorem parts_end (bs : List Int) : parts bs 64 = words bs := by
  unfold parts words
  apply List.map_congr_left
  intro j hj
  have hj := List.mem_range.1 hj
  unfold part
  rw [if_neg (by omega), if_neg (by omega), if_neg (by omega), if_neg (by omega)]
theorem part_bound {bs : List Int} (h : Bs bs) {k j : Nat} (hk : k / 4 = j) : 0 ≤ part bs k j ∧ part bs k j < 16777216 := by
  have a := h.at_ (4 * j)
  have b := h.at_ (4 * j + 1)
  have c := h.at_ (4 * j + 2)
  unfold part
  split
  · omega
  · split
    · omega
    · split
      · omega
      · split
        · omega
        · omega
theorem part_step {bs : List Int} {k j : Nat} (hk : k / 4 = j) : part bs (k + 1) j = part bs k j * 256 + bs.getD k 0 := by
  have hc : k = 4 * j ∨ k = 4 * j + 1 ∨ k = 4 * j + 2 ∨ k = 4 * j + 3 := by omega
  unfold part word
  rcases hc with rfl | rfl | rfl | rfl
  · rw [if_neg (by omega), if_pos (by omega), if_pos (by omega)]; omega
  · rw [if_neg (by omega), if_neg (by omega), if_pos (by omega), if_neg (by omega), if_pos (by omega)]
  · rw [if_neg (by omega), if_neg (by omega), if_neg (by omega), if_pos (by omega), if_neg (by omega), if_neg (by omega), if_pos (by omega)]
  · rw [if_neg (by omega), if_neg (by omega), if_neg (by omega), if_neg (by omega), if_neg (by omega), if_neg (by omega), if_neg (by omega), if_pos (by omega)]
theorem part_other {bs : List Int} {k j : Nat} (hk : k / 4 ≠ j) : part bs (k + 1) j = part bs k j := by
  unfold part
  by_cases h1 : k < 4 * j
  · rw [if_pos (by omega), if_pos (by omega)]
  · rw [if_neg (by omega), if_neg (by omega), if_neg (by omega), if_neg (by omega), if_neg (by omega), if_neg (by omega), if_neg (by omega), if_neg (by omega)]
theorem parts_step {bs : List Int} (h : Bs bs) {k : Nat} (hk : k < 64) :
    parts bs (k + 1) = (parts bs k).set (k / 4) (bits .or .u32 (part bs k (k / 4) * 256) (bs.getD k 0)) := by
  have pb := part_bound h (rfl : k / 4 = k / 4)
  have b := h.at_ k
  have e : bits .or .u32 (part bs k (k / 4) * 256) (bs.getD k 0) = part bs (k + 1) (k / 4) := by
    rw [part_step rfl]
    have hw : ∀ n : Int, 0 ≤ n → n < 2 ^ 32 → IntKind.u32.wrap n = n := fun n h1 h2 => by rw [IntKind.wrap_u32]; omega
    rw [bits_join .u32 32 (by decide) hw 8 _ _ (by omega) (by omega) (by omega) (by omega) (by omega) (by omega)]
  rw [e]
  apply List.ext_getElem?
  intro i
  by_cases hi : i < 16
  · rw [List.getElem?_set]
    by_cases hj : k / 4 = i
    · rw [if_pos hj, if_pos (by rw [parts_length]; omega)]
      subst hj
      simp [parts, hi]
    · rw [if_neg hj]
      simp [parts, hi, part_other hj]
  · rw [List.getElem?_eq_none (by rw [parts_length]; omega), List.getElem?_eq_none (by rw [List.length_set, parts_length]; omega)]
theorem wf_u32 {x : Int} (h : R32 x) : (Lit.int .u32 x).wf = true := by
  unfold R32 at h
  simp [Lit.wf, IntKind.min, IntKind.max, IntKind.signed, IntKind.bits]
  omega
theorem r32_words {bs : List Int} (h : Bs bs) : ∀ z ∈ words bs, (Lit.int .u32 z).wf = true := fun z hz => by
  simp only [words, List.mem_map] at hz
  obtain ⟨t, _, rfl⟩ := hz
  exact wf_u32 (r32_word h t)
set_option maxRecDepth 100000 in
theorem split_any (bs : List Int) (w : World) (hb : Bs bs) (hl : bs.length = 64) :
    Calls Tryz.prog 127 #[.agg (arr .u8 bs)] w fun e w' => e = .returned (.agg (arr .u32 (words bs))) ∧ Below w.heap.size w w' := by
  have hbw : ∀ z ∈ bs, (Lit.int .u8 z).wf = true := fun z hz => by have := hb z hz; simp [Lit.wf, IntKind.min, IntKind.max, IntKind.signed, IntKind.bits]; omega
  have HL := Lib.hid hl
  clear hl
  have R0 : ∀ (w : World), Row (w.alloc (.cells (arr .u8 bs) 88)) w.heap.size 88 .u8 bs := fun w => Row.new w _ hbw
  go_enter Tryz.func127, Tryz.ntmps127
  go_wp2_with (refine wpList_load_Row rfl 88 _ rfl w.heap.size rfl 88 .u8 bs (((R0 w).alloc _).alloc _) 64 5 Tryz.underlying88 info_64 HL.out ?_)
  have hbel : Below w.heap.size w _ := (((Below.refl _ w).alloc (Nat.le_refl _) (.cells (arr .u8 bs) 88)).alloc (by simp) (.cells (arr .u32 [0, 0, 0, 0, 0, 0, 0, 0, 0, 0, 0, 0, 0, 0, 0, 0]) 125)).alloc (by simp; omega) (.cells (arr .u32 [0, 0, 0, 0, 0, 0, 0, 0, 0, 0, 0, 0, 0, 0, 0, 0]) 125)
  have hz16 : ∀ z ∈ ([0, 0, 0, 0, 0, 0, 0, 0, 0, 0, 0, 0, 0, 0, 0, 0] : List Int), (Lit.int .u32 z).wf = true := by decide
  have hr1 := (Row.new (w.alloc (.cells (arr .u8 bs) 88)) 125 hz16).alloc (.cells (arr .u32 [0, 0, 0, 0, 0, 0, 0, 0, 0, 0, 0, 0, 0, 0, 0, 0]) 125)
  have hr2 := Row.new ((w.alloc (.cells (arr .u8 bs) 88)).alloc (.cells (arr .u32 [0, 0, 0, 0, 0, 0, 0, 0, 0, 0, 0, 0, 0, 0, 0, 0]) 125)) 125 hz16
  rw [World.size_alloc] at hr1
  rw [World.size_alloc, World.size_alloc] at hr2
  go_loopw [7] (fun i wr => ∃ k : Nat, k ≤ 64 ∧ i = .int .i64 k ∧ Below w.heap.size w wr ∧ Row wr (w.heap.size + 1) 125 .u32 [0, 0, 0, 0, 0, 0, 0, 0, 0, 0, 0, 0, 0, 0, 0, 0] ∧ Row wr (w.heap.size + 1 + 1) 125 .u32 (parts bs k)) (fun i _ => 64 - (intOf i).toNat)
  case atStart => exact ⟨0, by omega, rfl, hbel, hr1, by rw [parts_start]; exact hr2⟩
  case round =>
    clear hbel hr1 hr2
    obtain ⟨k, hk, rfl, hbl, hq1, hq2⟩ := hrel
    by_cases hlt : k < 64
    · have hidx := fun W => ix_u8_64 bs k W HL.out hlt
      have hc : wr.cell? ⟨w.heap.size + 1 + 1, k / 4, none⟩ = some (.int .u32 (part bs k (k / 4))) := by
        rw [hq2.cell (by rw [parts_length]; omega), parts_get _ _ (by omega)]
      have hf := hq2.frozen (k / 4)
      have HS := Lib.hid (show Row (wr.setCell ⟨w.heap.size + 1 + 1, k / 4, none⟩ (.int .u32 (bits .or .u32 (part bs k (k / 4) * 256) (bs.getD k 0)))) (w.heap.size + 1 + 1) 125 .u32 (parts bs (k + 1)) by
        rw [parts_step hb hlt]; exact hq2.set _ (wf_bits _ _ _ _))
      have pb := part_bound hb (rfl : k / 4 = k / 4)
      have hbb := hb.at_ k
      have hlt' : (k : Int) < 64 := by omega
      have hk0 : (0 : Int) ≤ (k : Int) := by omega
      generalize part bs k (k / 4) = x at hc HS pb
      generalize bs.getD k 0 = y at hidx HS hbb
      go_wp2_with fail
      go_roundw
      case rel => exact ⟨k + 1, by omega, by go_num, hbl.setCell (by simp; omega) _, hq1.other (by simp) _, HS.out⟩
      case measure => simp [intOf]; omega
    · have hk64 : k = 64 := by omega
      subst hk64
      rw [parts_end] at hq2
      go_wp2_with (first
        | (refine wpList_load_Row rfl 125 _ rfl (w.heap.size + 1 + 1) rfl 125 .u32 (words bs) hq2 16 57 Tryz.underlying125 info_16 (words_length bs) ?_)
        | (refine wpList_store_Row rfl 125 _ _ rfl (w.heap.size + 1) rfl 125 .u32 _ (words bs) rfl hq1 16 info_16 (words_length bs) rfl ?_))
      have hq3 := hq1.setRow (r32_words hb)
      refine bodyPost_ret (v := .agg (arr .u32 (words bs))) (results_Row rfl _ _ (w.heap.size + 1) _ _ _ rfl hq3 16 57 Tryz.underlying125 info_16 (words_length bs)) rfl ?_
      exact ⟨rfl, hbl.grown (grown_setRow _ _ _) hbl.size (fun r e => by cases e; omega)⟩
end Go.Proofs.YtjelacblnjbfgaaGreatDoor.Sha
namespace Go.Proofs.YtjelacblnjbfgaaGreatDoor.Sha
open Go.RowKit Mem
def Tab (w : World) (g : Nat) (zs : List Int) : Prop := ∃ t fr, w.heap[g]? = some (.cells (arr .u32 zs) t fr)
section
variable {w w' : World} {g : Nat} {zs : List Int}
theorem Tab.lt (h : Tab w g zs) : g < w.heap.size := by obtain ⟨t, fr, h⟩ := h; exact (Array.getElem?_eq_some_iff.1 h).1
theorem Tab.below {B : Nat} (h : Tab w g zs) (hb : Below B w w') (hg : g < B) : Tab w' g zs := by obtain ⟨t, fr, h⟩ := h; exact ⟨t, fr, (hb.block g hg).trans h⟩
theorem Tab.cell (h : Tab w g zs) {i : Nat} (hi : i < zs.length) : w.cell? ⟨g, i, none⟩ = some (.int .u32 (zs.getD i 0)) := by
  obtain ⟨t, fr, h⟩ := h
  rw [cell_of_row w g i _ t fr h, arr_get _ _ hi]
end
theorem tab_of_var {w : World} {name : String} {g : Nat} {zs : List Int} (hg : Tryz.prog.globalNamed name = some g) (h : Lib.TabIs Tryz.prog w name .u32 zs) : Tab w g zs := by
  unfold Lib.TabIs World.var? at h
  rw [hg, Option.bind_some] at h
  cases hb : w.heap[g]? with
  | none => rw [hb] at h; cases h
  | some o =>
    rw [hb] at h
    cases o with
    | cells cs t fr => simp only [Option.some.injEq] at h; exact ⟨t, fr, by rw [hb, h]; rfl⟩
    | _ => cases h
end Go.Proofs.YtjelacblnjbfgaaGreatDoor.Sha
namespace Go.Proofs.YtjelacblnjbfgaaGreatDoor.Sha
open Go.RowKit Mem Help Go.Proofs.YtjelacblnjbfgaaGreatDoor.Sum
def Rolled (bs : List Int) (k : Nat) (nx : List Int) : Prop := nx.length = 16 ∧ ∀ j, min k 48 ≤ j → j < min k 48 + 16 → nx.getD (j % 16) 0 = (W bs).getD j 0
theorem Rolled.start (bs : List Int) : Rolled bs 0 (words bs) := ⟨words_length bs, fun j _ h => by
  rw [W_word bs (by omega), Nat.mod_eq_of_lt (by omega)]
  simp [words, List.getD_eq_getElem?_getD, show j < 16 by omega]⟩
theorem Rolled.cur {bs : List Int} {k : Nat} {nx : List Int} (h : Rolled bs k nx) (hk : k < 64) : nx.getD (k % 16) 0 = (W bs).getD k 0 := h.2 k (by omega) (by omega)
theorem Rolled.late {bs : List Int} {k : Nat} {nx : List Int} (h : Rolled bs k nx) (hk : 48 ≤ k) : Rolled bs (k + 1) nx := ⟨h.1, fun j h1 h2 => h.2 j (by omega) (by omega)⟩
theorem Rolled.step {bs : List Int} {k : Nat} {nx : List Int} (h : Rolled bs k nx) (hk : k < 48) :
    Rolled bs (k + 1) (nx.set (k % 16) (addI (nx.getD (k % 16) 0) (addI (addI (smallI (nx.getD ((k % 16 + 1) % 16) 0) 7 18 3) (nx.getD ((k % 16 + 9) % 16) 0)) (smallI (nx.getD ((k % 16 + 14) % 16) 0) 17 19 10)))) := by
  have e0 := h.2 k (by omega) (by omega)
  have e1 := h.2 (k + 1) (by omega) (by omega)
  have e9 := h.2 (k + 9) (by omega) (by omega)
  have e14 := h.2 (k + 14) (by omega) (by omega)
  have m1 : (k % 16 + 1) % 16 = (k + 1) % 16 := by omega
  have m9 : (k % 16 + 9) % 16 = (k + 9) % 16 := by omega
  have m14 : (k % 16 + 14) % 16 = (k + 14) % 16 := by omega
  rw [m1, m9, m14, e0, e1, e9, e14, roll]
  have hn := W_next bs (t := k + 16) (by omega) (by omega)
  simp only [show k + 16 - 2 = k + 14 by omega, show k + 16 - 7 = k + 9 by omega, show k + 16 - 15 = k + 1 by omega, show k + 16 - 16 = k by omega] at hn
  rw [← hn]
  refine ⟨by rw [List.length_set]; exact h.1, fun j h1 h2 => ?_⟩
  by_cases hj : j = k + 16
  · subst hj
    have : (k + 16) % 16 = k % 16 := by omega
    rw [this]
    simp [List.getD_eq_getElem?_getD, h.1, show k % 16 < 16 by omega]
  · rw [← h.2 j (by omega) (by omega)]
    have : k % 16 ≠ j % 16 := by omega
    simp [List.getD_eq_getElem?_getD, this]
theorem row_still {w w' : World} (h : Still w w') {g : Nat} {t : TypeId} {k : IntKind} {zs : List Int} (hr : Row w g t k zs) : Row w' g t k zs := ⟨hr.1, by rw [h.heap]; exact hr.2⟩
theorem tab_still {w w' : World} (h : Still w w') {g : Nat} {zs : List Int} (hr : Tab w g zs) : Tab w' g zs := by unfold Tab; rw [h.heap]; exact hr
theorem tab_set {w : World} {g : Nat} {zs : List Int} (hr : Tab w g zs) {p : Addr} (hp : g ≠ p.block) (v : Value) : Tab (w.setCell p v) g zs := by
  obtain ⟨t, fr, h⟩ := hr
  exact ⟨t, fr, (heap_setCell_other w p g v hp).trans h⟩
theorem sum_e (x3 x7 A C kk ww : Int) : addI x3 (addI (addI (addI (addI x7 A) C) kk) ww) = (x3 + (x7 + A + C + kk + ww)) % 4294967296 := by unfold addI; omega
theorem sum_a (x7 A C kk ww s0 mj : Int) : addI (addI (addI (addI (addI x7 A) C) kk) ww) (addI s0 mj) = (x7 + A + C + kk + ww + (s0 + mj)) % 4294967296 := by unfold addI; omega
def sumPart (h v : List Int) (k : Nat) : List Int := (List.range 8).map fun i => if i < k then addI (h.getD i 0) (v.getD i 0) else h.getD i 0
theorem sumPart_length (h v : List Int) (k : Nat) : (sumPart h v k).length = 8 := by simp [sumPart]
theorem sumPart_get (h v : List Int) {k i : Nat} (hi : i < 8) : (sumPart h v k).getD i 0 = if i < k then addI (h.getD i 0) (v.getD i 0) else h.getD i 0 := by simp [sumPart, List.getD_eq_getElem?_getD, hi]
theorem sumPart_end (h v : List Int) : sumPart h v 8 = sumUp h v := by
  unfold sumPart sumUp
  apply List.map_congr_left
  intro i hi
  rw [if_pos (List.mem_range.1 hi)]
theorem sumPart_start {h : List Int} (v : List Int) (hl : h.length = 8) : sumPart h v 0 = h := by
  apply List.ext_getElem (by rw [sumPart_length, hl])
  intro i h1 h2
  simp [sumPart, List.getD_eq_getElem?_getD, h2]
theorem sumPart_step (h v : List Int) {k : Nat} (hk : k < 8) : sumPart h v (k + 1) = (sumPart h v k).set k (addI (h.getD k 0) (v.getD k 0)) := by
  apply List.ext_getElem (by rw [List.length_set, sumPart_length, sumPart_length])
  intro i h1 h2
  rw [List.getElem_set]
  by_cases e : k = i
  · subst e
    simp [sumPart]
  · rw [if_neg e]
    simp only [sumPart, List.getElem_map, List.getElem_range]
    by_cases q : i < k
    · rw [if_pos (by omega), if_pos q]
    · rw [if_neg (by omega), if_neg q]
theorem still_of {P : Program} {f : FuncId} {args : Array Value} {w : World} {v : Value} (h : Calls P f args w fun e w' => e = .returned v ∧ w = w') : Calls P f args w fun e w' => e = .returned v ∧ w' = w :=
  h.mono fun _ _ ⟨a, b⟩ => ⟨a, b.symm⟩
set_option maxRecDepth 100000 in
set_option maxHeartbeats 1000000 in
theorem fold_any (v bs : List Int) (w : World) (hv : Eight v) (hb : Bs bs) (hl : bs.length = 64) (hT : Tab w 3 Sum.K) :
    Calls Tryz.prog 122 #[.agg (arr .u32 v), .agg (arr .u8 bs)] w fun e w' => e = .returned (.agg (arr .u32 (Sum.block v bs))) ∧ Below w.heap.size w w' := by
  have hbw : ∀ z ∈ bs, (Lit.int .u8 z).wf = true := fun z hz => by have := hb z hz; simp [Lit.wf, IntKind.min, IntKind.max, IntKind.signed, IntKind.bits]; omega
  have hvw : ∀ z ∈ v, (Lit.int .u32 z).wf = true := fun z hz => wf_u32 (hv.2 z hz)
  have hz8 : ∀ z ∈ ([0, 0, 0, 0, 0, 0, 0, 0] : List Int), (Lit.int .u32 z).wf = true := by decide
  have HL := Lib.hid hl
  have HV := Lib.hid hv.1
  clear hl
  have r0 := ((Row.new w 151 hvw).alloc (.cells (arr .u8 bs) 88)).alloc (.cells (arr .u32 [0, 0, 0, 0, 0, 0, 0, 0]) 151)
  have r1 := (Row.new (w.alloc (.cells (arr .u32 v) 151)) 88 hbw).alloc (.cells (arr .u32 [0, 0, 0, 0, 0, 0, 0, 0]) 151)
  have r2 := Row.new ((w.alloc (.cells (arr .u32 v) 151)).alloc (.cells (arr .u8 bs) 88)) 151 hz8
  have hb0 : Below w.heap.size w (((w.alloc (.cells (arr .u32 v) 151)).alloc (.cells (arr .u8 bs) 88)).alloc (.cells (arr .u32 [0, 0, 0, 0, 0, 0, 0, 0]) 151)) :=
    (((Below.refl _ w).alloc (Nat.le_refl _) _).alloc (by simp) _).alloc (by simp; omega) _
  rw [World.size_alloc] at r1
  rw [World.size_alloc, World.size_alloc] at r2
  go_enter Tryz.func122, Tryz.ntmps122
  go_wp2
  go_step3
  go_wp2_with (refine wpList_load_Row rfl 88 _ rfl (w.heap.size + 1) rfl 88 .u8 bs r1 64 5 Tryz.underlying88 info_64 HL.out ?_)
  refine (split_any bs _ hb HL.out).mono ?_
  rintro e w4 ⟨rfl, hb4⟩
  have k0 := r0.below hb4 (by simp; omega)
  have k1 := r1.below hb4 (by simp)
  have k2 := r2.below hb4 (by simp)
  have b4 := hb0.trans (hb4.mono (by simp; omega))
  have s4 := hb4.size
  simp only [World.size_alloc] at s4
  have T4 : Tab w4 3 Sum.K := hT.below b4 hT.lt
  have G := hT.lt
  clear r0 r1 r2 hb0 hb4 hT hbw hvw
  have n5 := Row.new w4 125 (show ∀ z ∈ ([0, 0, 0, 0, 0, 0, 0, 0, 0, 0, 0, 0, 0, 0, 0, 0] : List Int), (Lit.int .u32 z).wf = true by decide)
  go_wp2_with (refine wpList_store_Row rfl 125 _ _ rfl w4.heap.size rfl 125 .u32 _ (words bs) rfl n5 16 info_16 (words_length bs) rfl ?_)
  have m5 := n5.setRow (r32_words hb)
  have m0 := (k0.alloc (.cells (arr .u32 [0, 0, 0, 0, 0, 0, 0, 0, 0, 0, 0, 0, 0, 0, 0, 0]) 125)).setRow_other (g' := w4.heap.size) (by omega) (arr .u32 (words bs))
  have m2 := (k2.alloc (.cells (arr .u32 [0, 0, 0, 0, 0, 0, 0, 0, 0, 0, 0, 0, 0, 0, 0, 0]) 125)).setRow_other (g' := w4.heap.size) (by omega) (arr .u32 (words bs))
  have b5 : Below w.heap.size w ((w4.alloc (.cells (arr .u32 [0, 0, 0, 0, 0, 0, 0, 0, 0, 0, 0, 0, 0, 0, 0, 0]) 125)).setRow w4.heap.size (arr .u32 (words bs))) := (b4.alloc (by omega) _).grown (grown_setRow _ _ _) (by simp; omega) (fun r e => by cases e; omega)
  have T5 : Tab ((w4.alloc (.cells (arr .u32 [0, 0, 0, 0, 0, 0, 0, 0, 0, 0, 0, 0, 0, 0, 0, 0]) 125)).setRow w4.heap.size (arr .u32 (words bs))) 3 Sum.K :=
    T4.below (B := w4.heap.size) (((Below.refl _ _).alloc (Nat.le_refl _) _).grown (grown_setRow _ _ _) (by simp) (fun r e => by cases e; omega)) T4.lt
  clear k0 k1 k2 n5 b4 T4
  obtain ⟨a, b, c, d, e, f, g, h, rfl, ra, rb, rc, rd, re, rf, rg, rh⟩ := hv.out
  have c0 := m0.cell (i := 0) (by simp)
  have c1 := m0.cell (i := 1) (by simp)
  have c2 := m0.cell (i := 2) (by simp)
  have c3 := m0.cell (i := 3) (by simp)
  have c4 := m0.cell (i := 4) (by simp)
  have c5 := m0.cell (i := 5) (by simp)
  have c6 := m0.cell (i := 6) (by simp)
  have c7 := m0.cell (i := 7) (by simp)
  simp only [List.getD_eq_getElem?_getD, List.getElem?_cons_zero, List.getElem?_cons_succ, Option.getD_some] at c0 c1 c2 c3 c4 c5 c6 c7
  obtain ⟨w5, hw5⟩ : ∃ w5, (w4.alloc (.cells (arr .u32 [0, 0, 0, 0, 0, 0, 0, 0, 0, 0, 0, 0, 0, 0, 0, 0]) 125)).setRow w4.heap.size (arr .u32 (words bs)) = w5 := ⟨_, rfl⟩
  have hww : (w4.alloc (Obj.cells #[Value.int IntKind.u32 0, Value.int IntKind.u32 0, Value.int IntKind.u32 0, Value.int IntKind.u32 0, Value.int IntKind.u32 0, Value.int IntKind.u32 0, Value.int IntKind.u32 0, Value.int IntKind.u32 0, Value.int IntKind.u32 0, Value.int IntKind.u32 0, Value.int IntKind.u32 0, Value.int IntKind.u32 0, Value.int IntKind.u32 0, Value.int IntKind.u32 0, Value.int IntKind.u32 0, Value.int IntKind.u32 0] 125)).setRow w4.heap.size (arr .u32 (words bs)) = w5 := hw5
  rw [hw5] at m5 m0 m2 b5 T5 c0 c1 c2 c3 c4 c5 c6 c7
  rw [hww]
  clear hw5 hww
  go_quiet (fail)
  go_wp2_with fail
  go_quiet (fail)
  go_wp2_with fail
  go_step3
  go_wp2_with fail
  generalize hw6 : (w5.drewN _).drewN _ = w6
  have m0 : Row w6 w.heap.size 151 .u32 [a, b, c, d, e, f, g, h] := by rw [← hw6]; exact m0
  have m2 : Row w6 (w.heap.size + 1 + 1) 151 .u32 [0, 0, 0, 0, 0, 0, 0, 0] := by rw [← hw6]; exact m2
  have m5 : Row w6 w4.heap.size 125 .u32 (words bs) := by rw [← hw6]; exact m5
  have b6 : Below w.heap.size w w6 := by rw [← hw6]; exact below_drewN (below_drewN b5 _) _
  have T6 : Tab w6 3 Sum.K := by rw [← hw6]; exact T5
  clear hw6 c0 c1 c2 c3 c4 c5 c6 c7 b5 T5
  generalize w4.heap.size = p5 at m5 s4 ⊢
  have hv8 := Lib.hid hv
  have RS := Lib.hid (Rolled.start bs)
  clear hv
  go_loopw [6, 7, 8, 9, 10, 11, 12, 13, 40] (fun a' b' c' d' e' f' g' h' i wr => ∃ k : Nat, k ≤ 64 ∧ i = .int .i64 k ∧ Below w.heap.size w wr ∧ Tab wr 3 Sum.K ∧ Row wr w.heap.size 151 .u32 [a, b, c, d, e, f, g, h] ∧
    Row wr (w.heap.size + 1 + 1) 151 .u32 [0, 0, 0, 0, 0, 0, 0, 0] ∧ (∃ nx, Row wr p5 125 .u32 nx ∧ Hid (Rolled bs k nx)) ∧
    ∃ x0 x1 x2 x3 x4 x5 x6 x7 : Int, Hid (Sum.rounds (Sum.W bs) k [a, b, c, d, e, f, g, h] = [x0, x1, x2, x3, x4, x5, x6, x7]) ∧ a' = .int .u32 x0 ∧ b' = .int .u32 x1 ∧ c' = .int .u32 x2 ∧ d' = .int .u32 x3 ∧ e' = .int .u32 x4 ∧ f' = .int .u32 x5 ∧ g' = .int .u32 x6 ∧ h' = .int .u32 x7)
    (fun _ _ _ _ _ _ _ _ i _ => 64 - (intOf i).toNat)
  case atStart => exact ⟨0, by omega, rfl, b6, T6, m0, m2, ⟨_, m5, RS⟩, _, _, _, _, _, _, _, _, Lib.hid rfl, rfl, rfl, rfl, rfl, rfl, rfl, rfl, rfl⟩
  case round =>
    clear m0 m2 m5 b6 T6 RS
    obtain ⟨k, hk, rfl, hbl, hT, q0, q2, ⟨nx, q5, hro⟩, x0, x1, x2, x3, x4, x5, x6, x7, hx, rfl, rfl, rfl, rfl, rfl, rfl, rfl, rfl⟩ := hrel
    have h8 := hv8.out.rounds (Sum.W bs) k
    rw [hx.out] at h8
    have rx : ∀ z ∈ [x0, x1, x2, x3, x4, x5, x6, x7], R32 z := h8.2
    simp only [List.mem_cons, List.mem_nil_iff, or_false, forall_eq_or_imp, forall_eq] at rx
    obtain ⟨y0, y1, y2, y3, y4, y5, y6, y7⟩ := rx
    clear h8
    by_cases hlt : k < 64
    · have HR := Lib.hid (show Sum.rounds (Sum.W bs) (k + 1) [a, b, c, d, e, f, g, h] = Sum.round (Sum.K.getD k 0) ((Sum.W bs).getD k 0) [x0, x1, x2, x3, x4, x5, x6, x7] by rw [Sum.rounds, hx.out])
      have rK := r32_K k
      have rW := r32_W hb k
      have hK := hT.cell (i := k) (by rw [K_length]; exact hlt)
      have hN := q5.cell (i := k % 16) (by rw [hro.out.1]; omega)
      rw [hro.out.cur hlt] at hN
      have hlt' : (k : Int) < 64 := by omega
      have hk0 : (0 : Int) ≤ (k : Int) := by omega
      generalize Sum.K.getD k 0 = kk at hK rK HR
      have hm : k % 16 < 16 := Nat.mod_lt _ (by omega)
      have EM := Lib.hid (show (k : Int) % 16 = ((k % 16 : Nat) : Int) by omega)
      by_cases h48 : k < 48
      · have HS := Lib.hid (hro.out.step h48)
        rw [hro.out.cur hlt] at HS
        have g1 := q5.cell (i := (k % 16 + 1) % 16) (by rw [hro.out.1]; omega)
        have g9 := q5.cell (i := (k % 16 + 9) % 16) (by rw [hro.out.1]; omega)
        have g14 := q5.cell (i := (k % 16 + 14) % 16) (by rw [hro.out.1]; omega)
        have fr := q5.frozen (k % 16)
        have z1 : R32 (nx.getD ((k % 16 + 1) % 16) 0) := by
          rw [show (k % 16 + 1) % 16 = (k + 1) % 16 by omega, hro.out.2 (k + 1) (by omega) (by omega)]; exact r32_W hb _
        have z14 : R32 (nx.getD ((k % 16 + 14) % 16) 0) := by
          rw [show (k % 16 + 14) % 16 = (k + 14) % 16 by omega, hro.out.2 (k + 14) (by omega) (by omega)]; exact r32_W hb _
        generalize (Sum.W bs).getD k 0 = ww at hN rW HR HS
        generalize nx.getD ((k % 16 + 1) % 16) 0 = e1 at g1 z1 HS
        generalize nx.getD ((k % 16 + 9) % 16) 0 = e9 at g9 HS
        generalize nx.getD ((k % 16 + 14) % 16) 0 = e14 at g14 z14 HS
        have h48' : ¬ (48 : Int) ≤ (k : Int) := by omega
        go_wp2_with fail
        go_quiet ((first | (go_at_call 128; exact quiet_same (turned_any x4 6 11 25 _ y4 (by omega) (by omega) (by omega))) | (go_at_call 129; exact quiet_same (choice_any x4 x5 x6 _))))
        go_wp2_with (first
          | (go_at_call 128; refine (turned_any x0 2 13 22 _ y0 (by omega) (by omega) (by omega)).mono ?_; rintro e w' ⟨rfl, rfl⟩)
          | (go_at_call 130; refine (majority_any x0 x1 x2 _).mono ?_; rintro e w' ⟨rfl, rfl⟩))
        rw [EM.out]
        generalize k % 16 = m at hN g1 g9 g14 fr hm HS
        go_quiet (fail)
        go_wp2_with fail
        generalize hw7 : (wr.drewN _).drewN _ = w7
        have hst : Still wr w7 := by rw [← hw7]; exact ((Still.refl _).drewN _).drewN _
        have g0' := (hst.cell _).trans hN
        have g9' := (hst.cell _).trans g9
        have fr' : w7.frozen? ⟨p5, m, none⟩ = false := by rw [← hw7]; exact fr
        clear hw7
        have hmi : (m : Int) < 16 := by omega
        have hm0 : (0 : Int) ≤ (m : Int) := by omega
        have w9 : (IntKind.i64.wrap ((m : Int) + 9)).tmod 16 = (((m + 9) % 16 : Nat) : Int) := by
          rw [IntWalk.i64_in _ (by omega), Int.tmod_eq_emod_of_nonneg (by omega)]; omega
        have hj : (m + 9) % 16 < 16 := by omega
        generalize (m + 9) % 16 = j at g9' HS w9 hj
        have hji : (j : Int) < 16 := by omega
        have hj0 : (0 : Int) ≤ (j : Int) := by omega
        have u1 : ∀ x y : Int, IntKind.u32.wrap (x + y) = addI x y := fun x y => by rw [IntKind.wrap_u32]; rfl
        go_still_tail 16, (by kernel_rfl)
        still_call (still_of (shifted_any e1 7 18 3 _ z1 (by omega) (by omega) (by omega)))
        repeat still_step
        still_call (still_of (shifted_any e14 17 19 10 _ z14 (by omega) (by omega) (by omega)))
        repeat still_step
        refine wpStill_nil ?_
        change wpList _ _ _ _ _ w7.drew
        clear u1 w9
        have hbl7 := hbl.trans (hst.below w.heap.size)
        have T7 := tab_still hst hT
        have q07 := row_still hst q0
        have q27 := row_still hst q2
        have q57 := row_still hst q5
        go_wp2_with fail
        go_roundw
        case rel =>
          refine ⟨k + 1, by omega, by go_num, (hbl7.setCell (by simp; omega) _).drew, tab_set T7 (by simp; omega) _, q07.other (by simp; omega) _, q27.other (by simp; omega) _, ⟨_, q57.set m (wf_u32 (r32_add _ _)), HS⟩, _, _, _, _, _, _, _, _, Lib.hid ?_, rfl, rfl, rfl, rfl, rfl, rfl, rfl, rfl⟩
          rw [HR.out]
          simp only [Sum.round, sum_e, sum_a]
        case measure => simp [intOf]; omega
      · have HS := Lib.hid (hro.out.late (k := k) (by omega))
        generalize (Sum.W bs).getD k 0 = ww at hN rW HR
        have h48' : (48 : Int) ≤ (k : Int) := by omega
        go_wp2_with fail
        go_quiet ((first | (go_at_call 128; exact quiet_same (turned_any x4 6 11 25 _ y4 (by omega) (by omega) (by omega))) | (go_at_call 129; exact quiet_same (choice_any x4 x5 x6 _))))
        go_wp2_with (first
          | (go_at_call 128; refine (turned_any x0 2 13 22 _ y0 (by omega) (by omega) (by omega)).mono ?_; rintro e w' ⟨rfl, rfl⟩)
          | (go_at_call 130; refine (majority_any x0 x1 x2 _).mono ?_; rintro e w' ⟨rfl, rfl⟩))
        go_roundw
        case rel =>
          refine ⟨k + 1, by omega, by go_num, below_drewN hbl _, hT, q0, q2, ⟨_, q5, HS⟩, _, _, _, _, _, _, _, _, Lib.hid ?_, rfl, rfl, rfl, rfl, rfl, rfl, rfl, rfl⟩
          rw [HR.out]
          simp only [Sum.round, sum_e, sum_a, Int.emod_add_emod, Int.add_emod_emod]
        case measure => simp [intOf]; omega
    · have hk64 : k = 64 := by omega
      subst hk64
      clear hro q5
      go_wp2_with fail
      have HB := Lib.hid (show sumUp [a, b, c, d, e, f, g, h] [x0, x1, x2, x3, x4, x5, x6, x7] = Sum.block [a, b, c, d, e, f, g, h] bs by unfold Sum.block; rw [hx.out])
      have Q0 : Row wr w.heap.size 151 .u32 (sumPart [a, b, c, d, e, f, g, h] [x0, x1, x2, x3, x4, x5, x6, x7] 0) := by rw [sumPart_start _ rfl]; exact q0
      clear q0 hx hv8 hT y0 y1 y2 y3 y4 y5 y6 y7
      go_loopw [119] (fun i ws => ∃ k : Nat, k ≤ 8 ∧ i = .int .i64 k ∧ Below w.heap.size w ws ∧ Row ws w.heap.size 151 .u32 (sumPart [a, b, c, d, e, f, g, h] [x0, x1, x2, x3, x4, x5, x6, x7] k) ∧
        Row ws (w.heap.size + 1 + 1) 151 .u32 [0, 0, 0, 0, 0, 0, 0, 0]) (fun i _ => 8 - (intOf i).toNat)
      case atStart => exact ⟨0, by omega, rfl, hbl, Q0, q2⟩
      case round =>
        clear Q0 q2 hbl
        obtain ⟨k, hk, rfl, hbl, q0, q2⟩ := hrel
        by_cases hlt : k < 8
        · have hidx : ∀ W, (Instr.index 151 (.agg #[.int .u32 x0, .int .u32 x1, .int .u32 x2, .int .u32 x3, .int .u32 x4, .int .u32 x5, .int .u32 x6, .int .u32 x7]) (.int .i64 (k : Int))).run Tryz.prog W = .ok (.int .u32 ([x0, x1, x2, x3, x4, x5, x6, x7].getD k 0)) W :=
            fun W => run_index_arr _ 57 8 .u32 [x0, x1, x2, x3, x4, x5, x6, x7] k W Tryz.underlying151 (by kernel_rfl) (by kernel_rfl) rfl hlt
          have hc := q0.cell (i := k) (by rw [sumPart_length]; exact hlt)
          rw [sumPart_get _ _ hlt, if_neg (by omega)] at hc
          have hf := q0.frozen k
          have HS := Lib.hid (show Row (wr.setCell ⟨w.heap.size, k, none⟩ (.int .u32 (addI ([a, b, c, d, e, f, g, h].getD k 0) ([x0, x1, x2, x3, x4, x5, x6, x7].getD k 0)))) w.heap.size 151 .u32 (sumPart [a, b, c, d, e, f, g, h] [x0, x1, x2, x3, x4, x5, x6, x7] (k + 1)) by
            rw [sumPart_step _ _ hlt]; exact q0.set _ (wf_u32 (r32_add _ _)))
          have hlt' : (k : Int) < 8 := by omega
          have hk0 : (0 : Int) ≤ (k : Int) := by omega
          generalize [a, b, c, d, e, f, g, h].getD k 0 = x at hc HS
          generalize [x0, x1, x2, x3, x4, x5, x6, x7].getD k 0 = y at hidx HS
          go_wp2_with fail
          go_roundw
          case rel => exact ⟨k + 1, by omega, by go_num, hbl.setCell (Nat.le_refl _) _, HS.out, q2.other (by simp; omega) _⟩
          case measure => simp [intOf]; omega
        · have hk8 : k = 8 := by omega
          subst hk8
          rw [sumPart_end, HB.out] at q0
          have L8 : (Sum.block [a, b, c, d, e, f, g, h] bs).length = 8 := (Eight.sumUp _ _).1
          have L8h := Lib.hid L8
          clear L8
          go_wp2_with (first
            | (refine wpList_load_Row rfl 151 _ rfl w.heap.size rfl 151 .u32 _ q0 8 57 Tryz.underlying151 info_8 L8h.out ?_)
            | (refine wpList_store_Row rfl 151 _ _ rfl (w.heap.size + 1 + 1) rfl 151 .u32 _ _ rfl q2 8 info_8 L8h.out rfl ?_))
          have q4 := q2.setRow q0.1
          try rw [Exit.noGoto_ret]
          refine bodyPost_ret (v := .agg (arr .u32 (Sum.block [a, b, c, d, e, f, g, h] bs))) (results_Row rfl _ _ (w.heap.size + 1 + 1) _ _ _ rfl q4 8 57 Tryz.underlying151 info_8 L8h.out) rfl ?_
          exact ⟨rfl, hbl.grown (grown_setRow _ _ _) hbl.size (fun r e => by cases e; omega)⟩
end Go.Proofs.YtjelacblnjbfgaaGreatDoor.Sha
