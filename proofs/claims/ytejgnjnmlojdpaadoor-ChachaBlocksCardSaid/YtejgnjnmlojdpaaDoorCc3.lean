/-
  Bytes turned by ChaCha20, as a plain function: turned twice; from a whole block on; of zeros. No program here. No conditions beyond those stated.
-/
import Derived.Test.YtejgnjnmlojdpaaDoorCc2
namespace Go.Proofs.YtejgnjnmlojdpaaDoor.Cc
open Go.Proofs.YtejgnjnmlojdpaaDoor.Sum
set_option linter.unusedVariables false

theorem stream_bound (key : List Int) (ctr : Int) (nonce : List Int) (i : Nat) : 0 ≤ streamAt key ctr nonce i ∧ streamAt key ctr nonce i ≤ 255 := (block_bytes key (addI ctr ((i / 64 : Nat) : Int)) nonce).at_ (i % 64)
theorem byte_back {x s : Int} (hx : 0 ≤ x ∧ x ≤ 255) (hs : 0 ≤ s ∧ s ≤ 255) : bits .xor .u8 (bits .xor .u8 x s) s = x := by
  have h1 : x.toNat < 256 := by omega
  have h2 : s.toNat < 256 := by omega
  have h3 : x.toNat ^^^ s.toNat < 2 ^ 8 := Nat.xor_lt_two_pow h1 h2
  rw [u8_xor x s (by omega) (by omega) (by omega) (by omega), u8_xor _ s (by omega) (by omega) (by omega) (by omega), Int.toNat_natCast, Nat.xor_assoc, Nat.xor_self, Nat.xor_zero]
  omega
theorem zero_byte {s : Int} (hs : 0 ≤ s ∧ s ≤ 255) : bits .xor .u8 0 s = s := by
  rw [u8_xor 0 s (by omega) (by omega) (by omega) (by omega)]
  simp
  omega
theorem byte_xor_bound {x s : Int} (hx : 0 ≤ x ∧ x ≤ 255) (hs : 0 ≤ s ∧ s ≤ 255) : 0 ≤ bits .xor .u8 x s ∧ bits .xor .u8 x s ≤ 255 := by
  have h3 : x.toNat ^^^ s.toNat < 2 ^ 8 := Nat.xor_lt_two_pow (show x.toNat < 2 ^ 8 by omega) (show s.toNat < 2 ^ 8 by omega)
  rw [u8_xor x s (by omega) (by omega) (by omega) (by omega)]
  omega
theorem xors_get (key nonce : List Int) (ctr : Int) (bs : List Int) {i : Nat} (hi : i < bs.length) : (xors key nonce ctr bs).getD i 0 = bits .xor .u8 (bs.getD i 0) (streamAt key ctr nonce i) := by
  simp [xors, List.getD_eq_getElem?_getD, hi]
theorem xors_bytes (key nonce : List Int) (ctr : Int) {bs : List Int} (h : Bs bs) : Bs (xors key nonce ctr bs) := fun z hz => by
  obtain ⟨i, _, rfl⟩ := List.mem_map.1 hz
  exact byte_xor_bound (h.at_ i) (stream_bound _ _ _ _)
theorem list_eq {xs ys : List Int} (hl : xs.length = ys.length) (h : ∀ i, i < xs.length → xs.getD i 0 = ys.getD i 0) : xs = ys := by
  apply List.ext_getElem hl
  intro i h1 h2
  have := h i h1
  simpa [List.getD_eq_getElem?_getD, h1, h2] using this
theorem xors_back (key nonce : List Int) (ctr : Int) {bs : List Int} (h : Bs bs) : xors key nonce ctr (xors key nonce ctr bs) = bs := by
  refine list_eq (by rw [xors_length, xors_length]) fun i hi => ?_
  rw [xors_length, xors_length] at hi
  rw [xors_get _ _ _ _ (by rw [xors_length]; exact hi), xors_get _ _ _ _ hi, byte_back (h.at_ i) (stream_bound _ _ _ _)]
theorem addI_nat (c : Int) (a b : Nat) : addI (addI c (a : Int)) (b : Int) = addI c ((a + b : Nat) : Int) := by unfold addI; omega
theorem stream_from (key nonce : List Int) (c : Int) (t i : Nat) : streamAt key c nonce (64 * t + i) = streamAt key (addI c (t : Int)) nonce i := by
  unfold streamAt
  rw [addI_nat, show (64 * t + i) / 64 = t + i / 64 by omega, show (64 * t + i) % 64 = i % 64 by omega]
theorem xors_drop (key nonce : List Int) (c : Int) (bs : List Int) (t : Nat) (ht : 64 * t ≤ bs.length) : (xors key nonce c bs).drop (64 * t) = xors key nonce (addI c (t : Int)) (bs.drop (64 * t)) := by
  refine list_eq (by rw [List.length_drop, xors_length, xors_length, List.length_drop]) fun i hi => ?_
  rw [List.length_drop, xors_length] at hi
  have e1 : ((xors key nonce c bs).drop (64 * t)).getD i 0 = (xors key nonce c bs).getD (64 * t + i) 0 := by simp [List.getD_eq_getElem?_getD, List.getElem?_drop]
  have e2 : (bs.drop (64 * t)).getD i 0 = bs.getD (64 * t + i) 0 := by simp [List.getD_eq_getElem?_getD, List.getElem?_drop]
  rw [e1, xors_get _ _ _ _ (by omega), xors_get _ _ _ _ (by rw [List.length_drop]; exact hi), e2, stream_from]
theorem xors_zeros (key nonce : List Int) (c : Int) (n : Nat) {i : Nat} (hi : i < n) : (xors key nonce c (List.replicate n 0)).getD i 0 = (block key (addI c ((i / 64 : Nat) : Int)) nonce).getD (i % 64) 0 := by
  rw [xors_get _ _ _ _ (by simpa using hi), show (List.replicate n (0 : Int)).getD i 0 = 0 by simp [List.getD_eq_getElem?_getD, hi], zero_byte (stream_bound _ _ _ _)]
  rfl
theorem getD_left {xs ys : List Int} {i : Nat} (h : i < xs.length) : (xs ++ ys).getD i 0 = xs.getD i 0 := by simp [List.getD_eq_getElem?_getD, List.getElem?_append_left h]
theorem getD_last {xs : List Int} {y : Int} {i : Nat} (h : i = xs.length) : (xs ++ [y]).getD i 0 = y := by subst h; simp [List.getD_eq_getElem?_getD]
/-- one byte more -/
theorem xors_snoc (key nonce : List Int) (c : Int) (bs : List Int) {k : Nat} (hk : k < bs.length) : xors key nonce c (bs.take (k + 1)) = xors key nonce c (bs.take k) ++ [bits .xor .u8 (bs.getD k 0) (streamAt key c nonce k)] := by
  have l1 : (bs.take (k + 1)).length = k + 1 := by rw [List.length_take]; omega
  have l0 : (bs.take k).length = k := by rw [List.length_take]; omega
  refine list_eq (by rw [xors_length, List.length_append, xors_length, l1, l0]; rfl) fun i hi => ?_
  rw [xors_length, l1] at hi
  rw [xors_get _ _ _ _ (by omega)]
  have e1 : (bs.take (k + 1)).getD i 0 = bs.getD i 0 := by simp [List.getD_eq_getElem?_getD, hi]
  rw [e1]
  by_cases h : i < k
  · rw [getD_left (by rw [xors_length, l0]; exact h), xors_get _ _ _ _ (by omega)]
    congr 1
    simp [List.getD_eq_getElem?_getD, h]
  · have e : i = k := by omega
    subst e
    rw [getD_last (by rw [xors_length, l0])]
end Go.Proofs.YtejgnjnmlojdpaaDoor.Cc

