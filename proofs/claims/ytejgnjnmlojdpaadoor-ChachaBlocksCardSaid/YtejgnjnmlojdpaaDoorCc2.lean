/-
  What follows of ChaCha20 as plain functions: a quarter round turned back; bytes turned twice; a part from a whole block on. No program here. No conditions beyond those stated.
-/
import Derived.Test.YtejgnjnmlojdpaaDoorCc1
namespace Go.Proofs.YtejgnjnmlojdpaaDoor.Cc
open Go.Proofs.YtejgnjnmlojdpaaDoor.Sum
set_option linter.unusedVariables false

theorem xor_back {x y : Int} (hx : R32 x) (hy : R32 y) : xorI (xorI x y) y = x := by
  have h := r32_xor x y
  unfold xorI at *
  rw [u32_xor _ _ h.1 h.2 hy.1 hy.2, u32_xor _ _ hx.1 hx.2 hy.1 hy.2, Int.toNat_natCast, Nat.xor_assoc, Nat.xor_self, Nat.xor_zero]
  unfold R32 at hx
  omega
theorem sub_back {c d : Int} (hc : R32 c) : (addI c d - d) % 4294967296 = c := by unfold addI R32 at *; omega
/-- turned, on plain numbers -/
def rn (a m : Nat) : Nat := a / 2 ^ m ||| a * 2 ^ (32 - m) % 4294967296
theorem rot_nat {x : Int} (hx : R32 x) {m : Nat} (hm : m ≤ 32) : rotI x m = (rn x.toNat m : Nat) := by
  have h1 := r32_shr hx m
  obtain ⟨a, rfl⟩ := Int.eq_ofNat_of_zero_le hx.1
  have h2 : R32 ((a : Int) * 2 ^ (32 - m) % 4294967296) := ⟨by omega, by omega⟩
  unfold rotI rn
  rw [u32_or _ _ h1.1 h1.2 h2.1 h2.2]
  have e1 : ((a : Int) / 2 ^ m).toNat = a / 2 ^ m := by
    rw [show ((2 : Int) ^ m) = ((2 ^ m : Nat) : Int) by simp, ← Int.natCast_ediv, Int.toNat_natCast]
  have e2 : ((a : Int) * 2 ^ (32 - m) % 4294967296).toNat = a * 2 ^ (32 - m) % 4294967296 := by
    rw [show ((2 : Int) ^ (32 - m)) = ((2 ^ (32 - m) : Nat) : Int) by simp, ← Int.natCast_mul, show (4294967296 : Int) = ((4294967296 : Nat) : Int) from rfl, ← Int.natCast_emod, Int.toNat_natCast]
  rw [e1, e2, Int.toNat_natCast]
theorem rn_bit (a m i : Nat) (ha : a < 2 ^ 32) (hm : 1 ≤ m) (hm' : m ≤ 31) : (rn a m).testBit i = (decide (i < 32) && (if i < 32 - m then a.testBit (i + m) else a.testBit (i + m - 32))) := by
  have hbig : ∀ j, 32 ≤ j → a.testBit j = false := fun j hj => Nat.testBit_lt_two_pow (Nat.lt_of_lt_of_le ha (Nat.pow_le_pow_right (by omega) hj))
  unfold rn
  rw [Nat.testBit_or, Nat.testBit_div_two_pow, show 4294967296 = 2 ^ 32 from rfl, Nat.testBit_mod_two_pow, Nat.testBit_mul_two_pow]
  by_cases h1 : i < 32
  · by_cases h2 : i < 32 - m
    · simp [h1, h2, show ¬ (32 - m ≤ i) by omega]
    · simp [h1, h2, show 32 - m ≤ i by omega, hbig (i + m) (by omega), show i - (32 - m) = i + m - 32 by omega]
  · simp [h1, hbig (i + m) (by omega)]
theorem rn_lt (a m : Nat) (ha : a < 2 ^ 32) (hm : 1 ≤ m) (hm' : m ≤ 31) : rn a m < 2 ^ 32 := by
  refine Nat.lt_pow_two_of_testBit _ fun i hi => ?_
  rw [rn_bit a m i ha hm hm']
  simp [show ¬ i < 32 by omega]
theorem rn_back (a n : Nat) (ha : a < 2 ^ 32) (hn : 1 ≤ n) (hn' : n ≤ 31) : rn (rn a (32 - n)) n = a := by
  apply Nat.eq_of_testBit_eq
  intro i
  rw [rn_bit _ _ _ (rn_lt a _ ha (by omega) (by omega)) hn hn']
  by_cases h1 : i < 32
  · by_cases h2 : i < 32 - n
    · rw [if_pos h2, rn_bit _ _ _ ha (by omega) (by omega)]
      simp [h1, show i + n < 32 by omega, show ¬ (i + n < 32 - (32 - n)) by omega, show i + n + (32 - n) - 32 = i by omega]
    · rw [if_neg h2, rn_bit _ _ _ ha (by omega) (by omega)]
      simp [h1, show i + n - 32 < 32 by omega, show i + n - 32 < 32 - (32 - n) by omega, show i + n - 32 + (32 - n) = i by omega]
  · have : a.testBit i = false := Nat.testBit_lt_two_pow (Nat.lt_of_lt_of_le ha (Nat.pow_le_pow_right (by omega) (by omega)))
    simp [h1, this]
theorem rot_back {x : Int} (hx : R32 x) {n : Nat} (hn : 1 ≤ n) (hn' : n ≤ 31) : rotI (lft x n) n = x := by
  have h1 := r32_lft x n
  have ha : x.toNat < 2 ^ 32 := by have := hx.2; have := hx.1; omega
  rw [rot_nat h1 (by omega), lft, rot_nat hx (by omega), Int.toNat_natCast, rn_back _ _ ha hn hn']
  have := hx.1
  omega
/-- a quarter round turned back, step by step -/
theorem qr_back {a b c d : Int} (ha : R32 a) (hb : R32 b) (hc : R32 c) (hd : R32 d) :
    let q := qr a b c d
    let b1 := xorI (rotI q.2.1 7) q.2.2.1
    let c1 := (q.2.2.1 - q.2.2.2) % 4294967296
    let d1 := xorI (rotI q.2.2.2 8) q.1
    let a1 := (q.1 - b1) % 4294967296
    let b0 := xorI (rotI b1 12) c1
    let c0 := (c1 - d1) % 4294967296
    let d0 := xorI (rotI d1 16) a1
    let a0 := (a1 - b0) % 4294967296
    a0 = a ∧ b0 = b ∧ c0 = c ∧ d0 = d := by
  intro q
  have e : q = qr a b c d := rfl
  unfold qr at e
  simp only at e
  generalize e1 : addI a b = a1 at e
  have ra1 : R32 a1 := e1 ▸ r32_add _ _
  generalize e2 : lft (xorI d a1) 16 = d1 at e
  have rd1 : R32 d1 := e2 ▸ r32_lft _ _
  generalize e3 : addI c d1 = c1 at e
  have rc1 : R32 c1 := e3 ▸ r32_add _ _
  generalize e4 : lft (xorI b c1) 12 = b1 at e
  have rb1 : R32 b1 := e4 ▸ r32_lft _ _
  generalize e5 : addI a1 b1 = a2 at e
  generalize e6 : lft (xorI d1 a2) 8 = d2 at e
  have ra2 : R32 a2 := e5 ▸ r32_add _ _
  have rd2 : R32 d2 := e6 ▸ r32_lft _ _
  generalize e7 : addI c1 d2 = c2 at e
  have rc2 : R32 c2 := e7 ▸ r32_add _ _
  generalize e8 : lft (xorI b1 c2) 7 = b2 at e
  rw [e]
  have k1 : xorI (rotI b2 7) c2 = b1 := by rw [← e8, rot_back (r32_xor _ _) (by omega) (by omega), xor_back rb1 rc2]
  have k2 : (c2 - d2) % 4294967296 = c1 := by rw [← e7]; exact sub_back rc1
  have k3 : xorI (rotI d2 8) a2 = d1 := by rw [← e6, rot_back (r32_xor _ _) (by omega) (by omega), xor_back rd1 ra2]
  have k4 : (a2 - b1) % 4294967296 = a1 := by rw [← e5]; exact sub_back ra1
  have k5 : xorI (rotI b1 12) c1 = b := by rw [← e4, rot_back (r32_xor _ _) (by omega) (by omega), xor_back hb rc1]
  have k6 : (c1 - d1) % 4294967296 = c := by rw [← e3]; exact sub_back hc
  have k7 : xorI (rotI d1 16) a1 = d := by rw [← e2, rot_back (r32_xor _ _) (by omega) (by omega), xor_back hd ra1]
  have k8 : (a1 - b) % 4294967296 = a := by rw [← e1]; exact sub_back ha
  simp only [k1, k2, k3, k4, k5, k6, k7, k8, and_self]
end Go.Proofs.YtejgnjnmlojdpaaDoor.Cc

