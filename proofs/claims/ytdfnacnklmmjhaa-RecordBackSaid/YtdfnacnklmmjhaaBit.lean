/-
  Plain facts about the bits of unsigned numbers: no program here. Conditions: the numbers fit 64 bits.
-/
import Derived.WalkKit
namespace Go.Proofs.Ytdfnacnklmmjhaa.Bit
open Go.RowKit

/-- 1 if the first is below the second, else 0 -/
def low (x y : Int) : Int := if x < y then 1 else 0
/-- 1 if both are one number, else 0 -/
def alike (x y : Int) : Int := if x = y then 1 else 0
/-- the first, if c is odd, else the second -/
def pickI (c x y : Int) : Int := if c % 2 = 1 then x else y

theorem low_range (x y : Int) : 0 ≤ low x y ∧ low x y ≤ 1 := by unfold low; split <;> omega
theorem alike_range (x y : Int) : 0 ≤ alike x y ∧ alike x y ≤ 1 := by unfold alike; split <;> omega

theorem xor_u64_range (x y : Int) (hx : 0 ≤ x) (hx' : x < 18446744073709551616) (hy : 0 ≤ y) (hy' : y < 18446744073709551616) :
    0 ≤ bits .xor .u64 x y ∧ bits .xor .u64 x y < 18446744073709551616 := by
  rw [u64_xor x y hx hx' hy hy']
  have h : x.toNat ^^^ y.toNat < 2 ^ 64 := Nat.xor_lt_two_pow (by omega) (by omega)
  omega

theorem xor_top (n : Int) (h : 0 ≤ n) (h' : n < 18446744073709551616) : bits .xor .u64 n 9223372036854775808 = (n + 9223372036854775808) % 18446744073709551616 := by
  rw [u64_xor n _ h h' (by omega) (by omega)]
  obtain ⟨m, rfl⟩ := Int.eq_ofNat_of_zero_le h
  have e : (m ^^^ 9223372036854775808) = (m + 9223372036854775808) % 18446744073709551616 := by
    have t := Nat.xor_mod_two_pow (a := m) (b := 9223372036854775808) (n := 63)
    have q := Nat.xor_div_two_pow (a := m) (b := 9223372036854775808) (n := 63)
    simp only [show (2 : Nat) ^ 63 = 9223372036854775808 from rfl] at t q
    have z : m / 9223372036854775808 = 0 ∨ m / 9223372036854775808 = 1 := by omega
    rcases z with z | z <;> rw [z] at q <;> simp at q t <;> omega
  simp only [Int.toNat_natCast]
  have h9 : (9223372036854775808 : Int).toNat = 9223372036854775808 := rfl
  rw [h9, e]
  omega

theorem below_eq (x y : Int) (hx : -9223372036854775808 ≤ x) (hx' : x ≤ 9223372036854775807) (hy : -9223372036854775808 ≤ y) (hy' : y ≤ 9223372036854775807) :
    low (bits .xor .u64 (IntKind.u64.wrap x) 9223372036854775808) (bits .xor .u64 (IntKind.u64.wrap y) 9223372036854775808) = low x y := by
  rw [IntKind.wrap_u64, IntKind.wrap_u64, xor_top _ (by omega) (by omega), xor_top _ (by omega) (by omega)]
  unfold low
  split <;> split <;> omega

theorem or_neg (d : Nat) (h : 0 < d) (h' : d < 18446744073709551616) : (d ||| (18446744073709551616 - d)) / 9223372036854775808 = 1 := by
  have a : d ≤ d ||| (18446744073709551616 - d) := Nat.left_le_or
  have b : 18446744073709551616 - d ≤ d ||| (18446744073709551616 - d) := Nat.right_le_or
  have c : d ||| (18446744073709551616 - d) < 2 ^ 64 := Nat.or_lt_two_pow (by omega) (by omega)
  omega

/-- none of a number's bits: how Same tells a zero -/
theorem zero_flag (d : Int) (h : 0 ≤ d) (h' : d < 18446744073709551616) :
    bits .xor .u64 1 (bits .or .u64 d (IntKind.u64.wrap (-d)) / 9223372036854775808) = alike d 0 := by
  rw [IntKind.wrap_u64]
  by_cases z : d = 0
  · subst z; rfl
  · have e : -d % 18446744073709551616 = 18446744073709551616 - d := by omega
    rw [e, u64_or d _ h h' (by omega) (by omega)]
    have f : (18446744073709551616 - d).toNat = 18446744073709551616 - d.toNat := by omega
    have g := or_neg d.toNat (by omega) (by omega)
    rw [f]
    have k : ((d.toNat ||| (18446744073709551616 - d.toNat) : Nat) : Int) / 9223372036854775808 = 1 := by omega
    rw [k]
    unfold alike
    rw [if_neg z]
    rfl

theorem xor_zero (x y : Int) (hx : 0 ≤ x) (hx' : x < 18446744073709551616) (hy : 0 ≤ y) (hy' : y < 18446744073709551616) : alike (bits .xor .u64 x y) 0 = alike x y := by
  rw [u64_xor x y hx hx' hy hy']
  obtain ⟨a, rfl⟩ := Int.eq_ofNat_of_zero_le hx
  obtain ⟨b, rfl⟩ := Int.eq_ofNat_of_zero_le hy
  simp only [Int.toNat_natCast]
  unfold alike
  by_cases e : a = b
  · subst e; simp
  · have n : a ^^^ b ≠ 0 := fun h => e (by rw [← Nat.xor_zero a, ← Nat.xor_self b, ← Nat.xor_assoc, h, Nat.zero_xor])
    rw [if_neg (by omega), if_neg (by omega)]

theorem same_eq (x y : Int) (hx : 0 ≤ x) (hx' : x < 18446744073709551616) (hy : 0 ≤ y) (hy' : y < 18446744073709551616) :
    bits .xor .u64 1 (bits .or .u64 (bits .xor .u64 x y) (IntKind.u64.wrap (-bits .xor .u64 x y)) / 9223372036854775808) = alike x y := by
  have r := xor_u64_range x y hx hx' hy hy'
  rw [zero_flag _ r.1 r.2, xor_zero x y hx hx' hy hy']

theorem and_one (c : Int) (h : 0 ≤ c) (h' : c < 18446744073709551616) : bits .and .u64 c 1 = c % 2 := by
  rw [u64_and c 1 h h' (by omega) (by omega)]
  have : (1 : Int).toNat = 1 := rfl
  rw [this, Nat.and_one_is_mod]
  omega

theorem pick_eq (c x y : Int) (hc : 0 ≤ c) (hc' : c < 18446744073709551616) (hx : 0 ≤ x) (hx' : x < 18446744073709551616) (hy : 0 ≤ y) (hy' : y < 18446744073709551616) :
    bits .xor .u64 y (bits .and .u64 (IntKind.u64.wrap (-bits .and .u64 c 1)) (bits .xor .u64 x y)) = pickI c x y := by
  have r := xor_u64_range x y hx hx' hy hy'
  rw [and_one c hc hc', IntKind.wrap_u64]
  unfold pickI
  by_cases o : c % 2 = 1
  · rw [if_pos o, o]
    have e : (-1 : Int) % 18446744073709551616 = 18446744073709551615 := rfl
    rw [e, u64_and _ _ (by omega) (by omega) r.1 r.2, u64_xor x y hx hx' hy hy']
    have f : (18446744073709551615 : Int).toNat = 18446744073709551615 := rfl
    have g : x.toNat ^^^ y.toNat < 2 ^ 64 := Nat.xor_lt_two_pow (by omega) (by omega)
    rw [f, Int.toNat_natCast, Nat.and_comm, show (18446744073709551615 : Nat) = 2 ^ 64 - 1 from rfl, Nat.and_two_pow_sub_one_eq_mod, Nat.mod_eq_of_lt g, u64_xor y _ hy hy' (by omega) (by omega), Int.toNat_natCast]
    rw [Nat.xor_comm x.toNat, ← Nat.xor_assoc, Nat.xor_self, Nat.zero_xor]
    omega
  · have z : c % 2 = 0 := by omega
    rw [if_neg o, z]
    have e : (-0 : Int) % 18446744073709551616 = 0 := rfl
    have f : (0 : Int).toNat = 0 := rfl
    rw [e, u64_and _ _ (by omega) (by omega) r.1 r.2, f, Nat.zero_and, u64_xor y _ hy hy' (by omega) (by omega)]
    simp
    omega

theorem pick_range (c x y : Int) (hx : 0 ≤ x) (hx' : x < 18446744073709551616) (hy : 0 ≤ y) (hy' : y < 18446744073709551616) : 0 ≤ pickI c x y ∧ pickI c x y < 18446744073709551616 := by
  unfold pickI; split <;> omega

theorem nat_xor_zero {a b : Nat} : a ^^^ b = 0 ↔ a = b :=
  ⟨fun h => by rw [← Nat.xor_zero a, ← Nat.xor_self b, ← Nat.xor_assoc, h, Nat.zero_xor], fun h => by rw [h]; exact Nat.xor_self b⟩
theorem nat_or_zero {a b : Nat} : a ||| b = 0 ↔ a = 0 ∧ b = 0 := by
  constructor
  · intro h
    have h1 : a ≤ a ||| b := Nat.left_le_or
    have h2 : b ≤ a ||| b := Nat.right_le_or
    omega
  · rintro ⟨rfl, rfl⟩; rfl

/-- what is gathered of the differences of two bytes -/
theorem gather_u8 (d x y : Int) (hd : 0 ≤ d ∧ d ≤ 255) (hx : 0 ≤ x ∧ x ≤ 255) (hy : 0 ≤ y ∧ y ≤ 255) :
    0 ≤ bits .or .u8 d (bits .xor .u8 x y) ∧ bits .or .u8 d (bits .xor .u8 x y) ≤ 255 ∧ (bits .or .u8 d (bits .xor .u8 x y) = 0 ↔ d = 0 ∧ x = y) := by
  rw [u8_xor x y (by omega) (by omega) (by omega) (by omega)]
  have h1 : x.toNat ^^^ y.toNat < 2 ^ 8 := Nat.xor_lt_two_pow (by omega) (by omega)
  rw [u8_or d _ (by omega) (by omega) (by omega) (by omega), Int.toNat_natCast]
  have h2 : d.toNat ||| (x.toNat ^^^ y.toNat) < 2 ^ 8 := Nat.or_lt_two_pow (by omega) h1
  refine ⟨by omega, by omega, ?_⟩
  have h3 := nat_or_zero (a := d.toNat) (b := x.toNat ^^^ y.toNat)
  have h4 := nat_xor_zero (a := x.toNat) (b := y.toNat)
  constructor
  · intro h
    have h5 := h3.1 (by omega)
    have h6 := h4.1 h5.2
    omega
  · rintro ⟨rfl, rfl⟩
    rw [Nat.xor_self]
    rfl
end Go.Proofs.Ytdfnacnklmmjhaa.Bit

