/-
  Pieces, the tag's bytes, and what loops leave behind them: no program here. No conditions beyond those stated.
-/
import Derived.Test.YtdfnacnklmmjhaaPo2
namespace Go.Proofs.Ytdfnacnklmmjhaa.Po
open Go.Proofs.Ytdfnacnklmmjhaa.Sum
set_option linter.unusedVariables false

/-- F, up to place i; behind it, what was there -/
def blend (F a : List Int) (i : Nat) : List Int := F.take i ++ a.drop i
theorem blend_zero (F a : List Int) : blend F a 0 = a := by simp [blend]
theorem blend_all {F a : List Int} (h : F.length = a.length) : blend F a a.length = F := by rw [blend, ← h, List.take_length, h, List.drop_length, List.append_nil]
theorem blend_length {F a : List Int} (h : F.length = a.length) (i : Nat) : (blend F a i).length = a.length := by simp [blend]; omega
theorem blend_get {F a : List Int} (h : F.length = a.length) {i : Nat} (hi : i < a.length) : (blend F a i).getD i 0 = a.getD i 0 := by
  have e : (F.take i).length = i := by simp; omega
  rw [blend, List.getD_eq_getElem?_getD, List.getElem?_append_right (by omega), e, List.getElem?_drop, List.getD_eq_getElem?_getD]
  congr 2
  omega
theorem blend_set {F a : List Int} (h : F.length = a.length) {i : Nat} (hi : i < a.length) : (blend F a i).set i (F.getD i 0) = blend F a (i + 1) := by
  have e : (F.take i).length = i := by simp; omega
  rw [blend, blend, List.set_append_right _ _ (by omega), e, Nat.sub_self, List.take_succ_eq_append_getElem (by omega), List.append_assoc]
  congr 1
  rw [List.drop_eq_getElem_cons hi, List.set_cons_zero]
  simp [List.getD_eq_getElem?_getD, show i < F.length by omega]
theorem blend_mem {F a : List Int} {i : Nat} {z : Int} (hz : z ∈ blend F a i) : z ∈ F ∨ z ∈ a := by
  rcases List.mem_append.1 hz with h | h
  · exact .inl (List.mem_of_mem_take h)
  · exact .inr (List.mem_of_mem_drop h)
theorem getD_range {l : List Int} {P : Int → Prop} (h : ∀ x ∈ l, P x) (h0 : P 0) (i : Nat) : P (l.getD i 0) := by
  rw [List.getD_eq_getElem?_getD]
  by_cases hi : i < l.length
  · rw [List.getElem?_eq_getElem hi]; exact h _ (List.getElem_mem hi)
  · rw [List.getElem?_eq_none (by omega)]; exact h0

/-- the product as it is behind i rows and j limbs of the next one -/
def mix (a f : List Int) (i j : Nat) : List Int := (List.range 5).map fun k => if k < j then psum a f (i + 1) k else psum a f i k
theorem mix_start (a f : List Int) : mix a f 0 0 = [0, 0, 0, 0, 0] := by simp [mix, psum, List.range, List.range.loop]
theorem mix_length (a f : List Int) (i j : Nat) : (mix a f i j).length = 5 := by simp [mix]
theorem mix_next (a f : List Int) (i : Nat) : mix a f i 5 = mix a f (i + 1) 0 := by simp [mix, List.range, List.range.loop]
theorem mix_end (a r : List Int) : mix a (factors r) 5 0 = mulL a r := by simp [mix, mulL]
theorem mix_get (a f : List Int) (i : Nat) {j : Nat} (h : j < 5) : (mix a f i j).getD j 0 = psum a f i j := by simp [mix, List.getD_eq_getElem?_getD, h]
theorem mix_set (a f : List Int) (i : Nat) {j : Nat} (h : j < 5) : (mix a f i j).set j (psum a f i j + a.getD i 0 * f.getD (5 - i + j) 0) = mix a f i (j + 1) := by
  rcases (show j = 0 ∨ j = 1 ∨ j = 2 ∨ j = 3 ∨ j = 4 by omega) with rfl | rfl | rfl | rfl | rfl <;> simp [mix, psum, List.range, List.range.loop]
theorem mulL_length (a r : List Int) : (mulL a r).length = 5 := by simp [mulL]
theorem mulL_bound {a r : List Int} (ha : ∀ x ∈ a, 0 ≤ x ∧ x < 268435456) (hr : ∀ x ∈ r, 0 ≤ x ∧ x < 67108864) : ∀ x ∈ mulL a r, 0 ≤ x ∧ x < 1152921504606846976 := by
  intro x hx
  obtain ⟨j, _, rfl⟩ := List.mem_map.1 hx
  have := psum_bound ha (factors_bound hr) 5 j
  omega

/-- where the bytes of n are told: behind i limbs, and b bytes, h bits of them are left -/
def Low (n : List Int) (i b h : Nat) (rest : Int) : Prop := 26 * i = 8 * b + h ∧ lv n / 256 ^ b = rest + 2 ^ h * lv (n.drop i) ∧ 0 ≤ rest ∧ rest < 2 ^ (h + 3)
theorem Low.start (n : List Int) : Low n 0 0 0 0 := ⟨rfl, by simp, by omega, by decide⟩
theorem lv_drop (n : List Int) {i : Nat} (h : i < n.length) : lv (n.drop i) = n.getD i 0 + 67108864 * lv (n.drop (i + 1)) := by
  rw [List.drop_eq_getElem_cons h, lv, List.getD_eq_getElem?_getD, List.getElem?_eq_getElem h]
  rfl
theorem Low.limb {n : List Int} {i b h : Nat} {rest : Int} (k : Low n i b h rest) (hi : i < n.length) (hb : 0 ≤ n.getD i 0 ∧ n.getD i 0 < 268435456) : Low n (i + 1) b (h + 26) (rest + n.getD i 0 * 2 ^ h) := by
  obtain ⟨h1, h2, h3, h4⟩ := k
  rw [lv_drop n hi] at h2
  generalize n.getD i 0 = x at *
  have hp : (0 : Int) < 2 ^ h := Int.pow_pos (by omega)
  have e1 : (2 : Int) ^ (h + 26) = 2 ^ h * 67108864 := by rw [Int.pow_add]; rfl
  have e2 : (2 : Int) ^ (h + 26 + 3) = 2 ^ h * 536870912 := by rw [Nat.add_assoc, Int.pow_add]; rfl
  have e3 : (2 : Int) ^ (h + 3) = 2 ^ h * 8 := by rw [Int.pow_add]; rfl
  refine ⟨by omega, ?_, ?_, ?_⟩
  · rw [h2, e1, Int.mul_add, ← Int.mul_assoc, Int.mul_comm x, Int.add_assoc]
  · exact Int.add_nonneg h3 (Int.mul_nonneg hb.1 (by omega))
  · have : x * 2 ^ h ≤ 268435455 * 2 ^ h := Int.mul_le_mul_of_nonneg_right (by omega) (by omega)
    rw [e2]
    rw [e3] at h4
    generalize (2 : Int) ^ h = p at *
    omega
theorem Low.byte {n : List Int} {i b h : Nat} {rest : Int} (k : Low n i b h rest) (hh : 8 ≤ h) : Low n i (b + 1) (h - 8) (rest / 256) ∧ rest % 256 = lv n / 256 ^ b % 256 := by
  obtain ⟨h1, h2, h3, h4⟩ := k
  obtain ⟨h, rfl⟩ : ∃ q, h = q + 8 := ⟨h - 8, by omega⟩
  have e1 : (2 : Int) ^ (h + 8) = 256 * 2 ^ h := by rw [Int.pow_add, Int.mul_comm]; rfl
  have e2 : (2 : Int) ^ (h + 8 + 3) = 256 * 2 ^ (h + 3) := by rw [show h + 8 + 3 = h + 3 + 8 by omega, Int.pow_add, Int.mul_comm]; rfl
  rw [e1, Int.mul_assoc] at h2
  rw [e2] at h4
  rw [Nat.add_sub_cancel]
  refine ⟨⟨by omega, ?_, by omega, by omega⟩, by omega⟩
  rw [Int.pow_succ, ← Int.ediv_ediv_of_nonneg (Int.le_of_lt (Int.pow_pos (by omega) : (0 : Int) < 256 ^ b)), h2]
  omega

/-- a piece as it is ranged over: its bytes, the 1, and zeros -/
def chunk (m : List Int) (k : Nat) : List Int := (m.drop (16 * k)).take 16
def pieceAt (m : List Int) (k : Nat) : List Int := chunk m k ++ 1 :: List.replicate (16 - (chunk m k).length) 0
def pieces (m : List Int) : List (List Int) := (List.range (count m)).map (pieceAt m)
theorem chunk_length (m : List Int) (k : Nat) : (chunk m k).length = min 16 (m.length - 16 * k) := by simp [chunk]
theorem pieceAt_length (m : List Int) (k : Nat) : (pieceAt m k).length = 17 := by
  have := chunk_length m k
  simp [pieceAt]
  omega
theorem pieces_length (m : List Int) : (pieces m).length = count m := by simp [pieces]
theorem pieces_take (m : List Int) {k : Nat} (h : k < count m) : (pieces m).take k ++ [pieceAt m k] = (pieces m).take (k + 1) := by
  rw [List.take_succ_eq_append_getElem (by rw [pieces_length]; exact h)]
  simp [pieces]
theorem val_pieceAt (m : List Int) (k : Nat) : val (pieceAt m k) = val (chunk m k ++ [1]) := by
  have e : pieceAt m k = (chunk m k ++ [1]) ++ List.replicate (16 - (chunk m k).length) 0 := by simp [pieceAt]
  rw [e, val_append, val_zeros, Int.mul_zero, Int.add_zero]
theorem chunk_bytes {m : List Int} (h : Bs m) (k : Nat) : Bs (chunk m k) := fun z hz => h z (List.mem_of_mem_drop (List.mem_of_mem_take hz))
theorem pieceAt_bytes {m : List Int} (h : Bs m) (k : Nat) : Bs (pieceAt m k) := fun z hz => by
  rcases List.mem_append.1 hz with h1 | h1
  · exact chunk_bytes h k z h1
  · rcases List.mem_cons.1 h1 with rfl | h1
    · omega
    · rw [List.eq_of_mem_replicate h1]; omega
theorem val_chunk_lt {m : List Int} (h : Bs m) (k : Nat) : 0 ≤ val (chunk m k ++ [1]) ∧ val (chunk m k ++ [1]) < 2 ^ 129 := by
  have h1 := val_lt (chunk_bytes h k)
  have h0 := val_nonneg (xs := chunk m k) fun z hz => (chunk_bytes h k z hz).1
  have hl : (chunk m k).length ≤ 16 := by rw [chunk_length]; omega
  rw [val_append]
  have e : (256 : Int) ^ (chunk m k).length ≤ 256 ^ 16 := by
    obtain ⟨d, hd⟩ : ∃ d, 16 = (chunk m k).length + d := ⟨16 - (chunk m k).length, by omega⟩
    rw [hd, Int.pow_add]
    have h1 : (0 : Int) < 256 ^ (chunk m k).length := Int.pow_pos (by omega)
    have h2 : (0 : Int) < 256 ^ d := Int.pow_pos (by omega)
    have := Int.mul_le_mul_of_nonneg_left (show (1 : Int) ≤ 256 ^ d by omega) (Int.le_of_lt h1)
    rwa [Int.mul_one] at this
  simp only [val]
  generalize (256 : Int) ^ (chunk m k).length = N at *
  omega
/-- the piece as it is when p bytes have come -/
def cur (m : List Int) (p : Nat) : List Int := (m.drop (16 * (p / 16))).take (p % 16) ++ List.replicate (17 - p % 16) 0
theorem cur_length {m : List Int} {p : Nat} (h : p ≤ m.length) : (cur m p).length = 17 := by simp [cur]; omega
theorem cur_start (m : List Int) {p : Nat} (h : p % 16 = 0) : cur m p = List.replicate 17 0 := by simp [cur, h]
theorem cur_last {m : List Int} (h : m.length % 16 ≠ 0) : (cur m m.length).set (m.length % 16) 1 = pieceAt m (m.length / 16) := by
  have hd := Nat.div_add_mod m.length 16
  have hlt : m.length % 16 < 16 := Nat.mod_lt _ (by omega)
  have e1 : (m.drop (16 * (m.length / 16))).take (m.length % 16) = m.drop (16 * (m.length / 16)) := List.take_of_length_le (by simp; omega)
  have e2 : chunk m (m.length / 16) = m.drop (16 * (m.length / 16)) := List.take_of_length_le (by simp; omega)
  have e3 : (m.drop (16 * (m.length / 16))).length = m.length % 16 := by simp; omega
  rw [cur, pieceAt, e1, e2, List.set_append_right _ _ (by omega), e3, Nat.sub_self, show 17 - m.length % 16 = (16 - m.length % 16) + 1 by omega, List.replicate_succ, List.set_cons_zero]
theorem cur_step {m : List Int} {p n k : Nat} (hk : k = min n (16 - p % 16)) (hn : p + n ≤ m.length) :
    (cur m p).take (p % 16) ++ (((m.drop p).take n).take k ++ (cur m p).drop (p % 16 + k)) = if p % 16 + k = 16 then chunk m (p / 16) ++ [0] else cur m (p + k) := by
  have hlt : p % 16 < 16 := Nat.mod_lt _ (by omega)
  have e1 : (cur m p).take (p % 16) = (m.drop (16 * (p / 16))).take (p % 16) := by
    rw [cur, List.take_append_of_le_length (by simp; omega), List.take_of_length_le (by simp; omega)]
  have e2 : (cur m p).drop (p % 16 + k) = List.replicate (17 - (p % 16 + k)) 0 := by
    rw [cur, List.drop_append, List.drop_of_length_le (by simp; omega), List.nil_append, List.drop_replicate]
    congr 1
    simp
    omega
  have e3 : ((m.drop (16 * (p / 16))).take (p % 16)) ++ ((m.drop p).take n).take k = (m.drop (16 * (p / 16))).take (p % 16 + k) := by
    rw [List.take_take, Nat.min_eq_left (by omega), List.take_add, List.drop_drop]
    congr 3
    omega
  rw [e1, e2, ← List.append_assoc, e3]
  split
  · rename_i h
    rw [h, chunk]
    rfl
  · rw [cur, show (p + k) / 16 = p / 16 by omega, show (p + k) % 16 = p % 16 + k by omega]
theorem pieceAt_full {m : List Int} {k : Nat} (h : 16 * (k + 1) ≤ m.length) : (chunk m k ++ [0]).set 16 1 = pieceAt m k := by
  have hl : (chunk m k).length = 16 := by rw [chunk_length]; omega
  rw [pieceAt, List.set_append_right _ _ (by omega), hl]
  rfl
theorem step_eq (r : Int) (m : List Int) (k : Nat) : acc r m (k + 1) = (acc r m k + val (pieceAt m k)) * r % modulus := by rw [val_pieceAt]; rfl
end Go.Proofs.Ytdfnacnklmmjhaa.Po

