/-
  Keys whose first half is a small number, and the tag of one whole piece: what follows of the plain functions. No conditions beyond those stated.
-/
import Derived.Test.YtebkicikpeicmaaDoorPy7
namespace Go.Proofs.YtebkicikpeicmaaDoor.Po
open Go.RowKit Go.Proofs.YtebkicikpeicmaaDoor.Mem Go.Proofs.YtebkicikpeicmaaDoor.Sum
set_option linter.unusedVariables false

/-- a key whose first half says f -/
def smallK (f : Int) (half : List Int) : List Int := [f, 0, 0, 0, 0, 0, 0, 0, 0, 0, 0, 0, 0, 0, 0, 0] ++ half
def zeroK (f : Int) : List Int := (List.replicate 32 (0 : Int)).set 0 f
theorem smallK_length (f : Int) {half : List Int} (h : half.length = 16) : (smallK f half).length = 32 := by simp [smallK, h]
theorem smallK_bytes {f : Int} {half : List Int} (hf : 0 ≤ f ∧ f ≤ 255) (h : Bs half) : Bs (smallK f half) := bs_append (fun z hz => by
  rcases List.mem_cons.1 hz with rfl | hz
  · exact hf
  · exact zeros_bytes 15 z hz) h
theorem smallK_drop (f : Int) {half : List Int} (h : half.length = 16) : ((smallK f half).drop 16).take 16 = half := by
  show half.take 16 = half
  exact List.take_of_length_le (by omega)
theorem smallK_get (f : Int) (half : List Int) (i : Nat) : (smallK f half).getD (16 + i) 0 = half.getD i 0 := by
  rw [smallK, List.getD_eq_getElem?_getD, List.getElem?_append_right (by simp), List.getD_eq_getElem?_getD]
  congr 2
  simp
theorem smallK_start (f : Int) {half : List Int} (h : half.length = 16) : blend (smallK f half) (zeroK f) 16 = zeroK f := by simp [blend, smallK, zeroK, List.replicate]
theorem smallK_end (f : Int) {half : List Int} (h : half.length = 16) : blend (smallK f half) (zeroK f) 32 = smallK f half := by
  have := blend_all (F := smallK f half) (a := zeroK f) (by rw [smallK_length f h]; simp [zeroK])
  rwa [show (zeroK f).length = 32 by simp [zeroK]] at this
theorem clamp_one (half : List Int) : clamp (smallK 1 half) = [1, 0, 0, 0, 0, 0, 0, 0, 0, 0, 0, 0, 0, 0, 0, 0] := rfl
theorem clamp_two (half : List Int) : clamp (smallK 2 half) = [2, 0, 0, 0, 0, 0, 0, 0, 0, 0, 0, 0, 0, 0, 0, 0] := rfl
/-- the tag of one whole piece -/
theorem poly_piece (key : List Int) {b : List Int} (h : b.length = 16) : poly key b = digits ((val b + 2 ^ 128) * val (clamp key) % modulus + val ((key.drop 16).take 16)) 16 := by
  have hc : count b = 1 := by unfold count; rw [h]
  have hv : val (b ++ [1]) = val b + 2 ^ 128 := by
    rw [val_append, h]
    simp [val]
  rw [poly, hc, acc, step, acc, Nat.mul_zero, List.drop_zero, List.take_of_length_le (by omega), hv, Int.zero_add]
theorem small_mod (f : Int) : val [f, 0, 0, 0, 0, 0, 0, 0, 0, 0, 0, 0, 0, 0, 0, 0] = f := by simp [val]
theorem poly_one {half b : List Int} (hh : half.length = 16) (hb : b.length = 16) (hbb : Bs b) : poly (smallK 1 half) b = carried 0 (addB half b) := by
  have h1 := val_lt hbb
  have h0 := val_nonneg (xs := b) fun z hz => (hbb z hz).1
  rw [hb] at h1
  rw [poly_piece _ hb, clamp_one, small_mod, smallK_drop 1 hh, carried_zero _ _ (val_addB (by rw [hh, hb])), addB_length (by rw [hh, hb]), hh]
  refine digits_mod 16 ?_
  rw [Int.emod_eq_of_lt (a := (val b + 2 ^ 128) * 1) (by omega) (by unfold modulus; omega)]
  omega
theorem val_map_two : ∀ b : List Int, val (b.map (2 * ·)) = 2 * val b
  | [] => rfl
  | x :: xs => by
    rw [List.map_cons, val, val, val_map_two xs]
    omega
theorem poly_two {half b : List Int} (hh : half.length = 16) (hb : b.length = 16) (hbb : Bs b) (h15 : b.getD 15 0 ≤ 127) : poly (smallK 2 half) b = carried 0 (addB half (b.map (2 * ·))) := by
  have h0 := val_nonneg (xs := b) fun z hz => (hbb z hz).1
  have h1 : val b < 2 ^ 127 := by
    have e := val_take_succ b (j := 15) (by omega)
    rw [List.take_of_length_le (by omega)] at e
    have h2 := val_lt (xs := b.take 15) fun z hz => hbb z (List.mem_of_mem_take hz)
    rw [show (b.take 15).length = 15 by simp [hb]] at h2
    omega
  have hl : (b.map (2 * ·)).length = 16 := by simp [hb]
  rw [poly_piece _ hb, clamp_two, small_mod, smallK_drop 2 hh, carried_zero _ _ (val_addB (by rw [hh, hl])), addB_length (by rw [hh, hl]), hh, val_map_two]
  refine digits_mod 16 ?_
  rw [Int.emod_eq_of_lt (a := (val b + 2 ^ 128) * 2) (by omega) (by unfold modulus; omega)]
  omega
theorem poly_small_nil (f : Int) {half : List Int} (hf : 0 ≤ f ∧ f ≤ 255) (hh : half.length = 16) (hb : Bs half) : poly (smallK f half) [] = half := by rw [poly_nil (smallK_length f hh) (smallK_bytes hf hb), smallK_drop f hh]
theorem cout_small {s : List Int} (h : ∀ x ∈ s, 0 ≤ x ∧ x ≤ 765) : ∀ k, 0 ≤ cout 0 s k ∧ cout 0 s k ≤ 3
  | 0 => by simp [cout]
  | k + 1 => by
    have ih := cout_small h k
    have := getD_range (P := fun x => 0 ≤ x ∧ x ≤ 765) h (by omega) k
    rw [cout]
    omega
theorem addB_small {a b : List Int} (ha : Bs a) (hb : ∀ x ∈ b, 0 ≤ x ∧ x ≤ 510) : ∀ x ∈ addB a b, 0 ≤ x ∧ x ≤ 765 := by
  intro x hx
  obtain ⟨i, hi, rfl⟩ := List.mem_iff_getElem.1 hx
  simp only [addB, List.length_zipWith] at hi
  simp only [addB, List.getElem_zipWith]
  have h1 := ha _ (List.getElem_mem (show i < a.length by omega))
  have h2 := hb _ (List.getElem_mem (show i < b.length by omega))
  omega
theorem two_get (b : List Int) {i : Nat} (hi : i < b.length) : (b.map (2 * ·)).getD i 0 = 2 * b.getD i 0 := by simp [List.getD_eq_getElem?_getD, hi]
end Go.Proofs.YtebkicikpeicmaaDoor.Po

