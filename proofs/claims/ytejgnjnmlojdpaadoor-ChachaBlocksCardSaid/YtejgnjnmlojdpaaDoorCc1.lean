/-
  ChaCha20 as plain functions: no program here. No conditions beyond those stated.
-/
import Derived.Test.YtejgnjnmlojdpaaDoorSum
namespace Go.Proofs.YtejgnjnmlojdpaaDoor.Cc
open Go.Proofs.YtejgnjnmlojdpaaDoor.Sum
set_option linter.unusedVariables false

/-- turned to the left -/
def lft (x : Int) (n : Nat) : Int := rotI x (32 - n)
/-- the quarter round -/
def qr (a b c d : Int) : Int × Int × Int × Int :=
  let a1 := addI a b
  let d1 := lft (xorI d a1) 16
  let c1 := addI c d1
  let b1 := lft (xorI b c1) 12
  let a2 := addI a1 b1
  let d2 := lft (xorI d1 a2) 8
  let c2 := addI c1 d2
  let b2 := lft (xorI b1 c2) 7
  (a2, b2, c2, d2)
/-- a quarter round at four places -/
def at4 (s : List Int) (i j k l : Nat) : List Int :=
  let q := qr (s.getD i 0) (s.getD j 0) (s.getD k 0) (s.getD l 0)
  (((s.set i q.1).set j q.2.1).set k q.2.2.1).set l q.2.2.2
/-- columns, and diagonals -/
def columns (s : List Int) : List Int := at4 (at4 (at4 (at4 s 0 4 8 12) 1 5 9 13) 2 6 10 14) 3 7 11 15
def diagonals (s : List Int) : List Int := at4 (at4 (at4 (at4 s 0 5 10 15) 1 6 11 12) 2 7 8 13) 3 4 9 14
def twice (s : List Int) : List Int := diagonals (columns s)
def turns : Nat → List Int → List Int
  | 0, s => s
  | n + 1, s => twice (turns n s)
/-- four bytes as a number, the lowest first -/
def lew (bs : List Int) (t : Nat) : Int := ((bs.getD (4 * t + 3) 0 * 256 + bs.getD (4 * t + 2) 0) * 256 + bs.getD (4 * t + 1) 0) * 256 + bs.getD (4 * t) 0
def sigma : List Int := [0x61707865, 0x3320646e, 0x79622d32, 0x6b206574]
def first (key : List Int) (ctr : Int) (nonce : List Int) : List Int := sigma ++ ((List.range 8).map (lew key) ++ (ctr :: (List.range 3).map (lew nonce)))
/-- the block's byte number i, out of the turned state and the first one -/
def byteOf (v s : List Int) (i : Nat) : Int := addI (v.getD (i / 4) 0) (s.getD (i / 4) 0) / 2 ^ (8 * (i % 4)) % 256
def block (key : List Int) (ctr : Int) (nonce : List Int) : List Int := (List.range 64).map (byteOf (turns 10 (first key ctr nonce)) (first key ctr nonce))
/-- the stream's byte number i -/
def streamAt (key : List Int) (ctr : Int) (nonce : List Int) (i : Nat) : Int := (block key (addI ctr ((i / 64 : Nat) : Int)) nonce).getD (i % 64) 0
/-- bytes, turned -/
def xors (key nonce : List Int) (ctr : Int) (bs : List Int) : List Int := (List.range bs.length).map fun i => bits .xor .u8 (bs.getD i 0) (streamAt key ctr nonce i)

theorem r32_lft (x : Int) (n : Nat) : R32 (lft x n) := r32_rot _ _
theorem r32_qr (a b c d : Int) : R32 (qr a b c d).1 ∧ R32 (qr a b c d).2.1 ∧ R32 (qr a b c d).2.2.1 ∧ R32 (qr a b c d).2.2.2 := ⟨r32_add _ _, r32_lft _ _, r32_add _ _, r32_lft _ _⟩
/-- sixteen numbers -/
def Sixteen (s : List Int) : Prop := s.length = 16 ∧ ∀ z ∈ s, R32 z
theorem Sixteen.at4 {s : List Int} (h : Sixteen s) (i j k l : Nat) : Sixteen (at4 s i j k l) := by
  refine ⟨by simp [Cc.at4, h.1], fun z hz => ?_⟩
  obtain ⟨q1, q2, q3, q4⟩ := r32_qr (s.getD i 0) (s.getD j 0) (s.getD k 0) (s.getD l 0)
  rcases List.mem_or_eq_of_mem_set hz with hz | rfl
  · rcases List.mem_or_eq_of_mem_set hz with hz | rfl
    · rcases List.mem_or_eq_of_mem_set hz with hz | rfl
      · rcases List.mem_or_eq_of_mem_set hz with hz | rfl
        · exact h.2 z hz
        · exact q1
      · exact q2
    · exact q3
  · exact q4
attribute [irreducible] at4
theorem Sixteen.twice {s : List Int} (h : Sixteen s) : Sixteen (twice s) := by
  unfold Cc.twice diagonals columns
  exact (((((((h.at4 _ _ _ _).at4 _ _ _ _).at4 _ _ _ _).at4 _ _ _ _).at4 _ _ _ _).at4 _ _ _ _).at4 _ _ _ _).at4 _ _ _ _
theorem Sixteen.turns {s : List Int} (h : Sixteen s) : ∀ n, Sixteen (turns n s)
  | 0 => h
  | n + 1 => (Sixteen.turns h n).twice
theorem Sixteen.get {s : List Int} (h : Sixteen s) {i : Nat} (hi : i < 16) : R32 (s.getD i 0) := by
  have hl : i < s.length := by rw [h.1]; exact hi
  rw [List.getD_eq_getElem?_getD, List.getElem?_eq_getElem hl]
  exact h.2 _ (List.getElem_mem hl)
theorem r32_lew {bs : List Int} (h : Bs bs) (t : Nat) : R32 (lew bs t) := by
  have h0 := h.at_ (4 * t)
  have h1 := h.at_ (4 * t + 1)
  have h2 := h.at_ (4 * t + 2)
  have h3 := h.at_ (4 * t + 3)
  unfold R32 lew
  omega
theorem first_length (key : List Int) (ctr : Int) (nonce : List Int) : (first key ctr nonce).length = 16 := by simp [first, sigma]
theorem sixteen_first {key nonce : List Int} {ctr : Int} (hk : Bs key) (hn : Bs nonce) (hc : R32 ctr) : Sixteen (first key ctr nonce) := by
  refine ⟨first_length _ _ _, fun z hz => ?_⟩
  rcases List.mem_append.1 hz with h | h
  · have : ∀ z ∈ sigma, R32 z := by unfold R32; decide
    exact this z h
  · rcases List.mem_append.1 h with h | h
    · obtain ⟨t, _, rfl⟩ := List.mem_map.1 h
      exact r32_lew hk t
    · rcases List.mem_cons.1 h with rfl | h
      · exact hc
      · obtain ⟨t, _, rfl⟩ := List.mem_map.1 h
        exact r32_lew hn t
theorem block_length (key : List Int) (ctr : Int) (nonce : List Int) : (block key ctr nonce).length = 64 := by simp [block]
theorem byteOf_bound (v s : List Int) (i : Nat) : 0 ≤ byteOf v s i ∧ byteOf v s i ≤ 255 := by unfold byteOf; omega
theorem block_bytes (key : List Int) (ctr : Int) (nonce : List Int) : Bs (block key ctr nonce) := fun z hz => by
  obtain ⟨i, _, rfl⟩ := List.mem_map.1 hz
  exact byteOf_bound _ _ _
theorem xors_length (key nonce : List Int) (ctr : Int) (bs : List Int) : (xors key nonce ctr bs).length = bs.length := by simp [xors]
/-- the chapter's example -/
theorem example_qr : qr 0x11111111 0x01020304 0x9b8d6f43 0x01234567 = (0xea2a92f4, 0xcb1cf8ce, 0x4581472e, 0x5881c4bb) := by decide +kernel
end Go.Proofs.YtejgnjnmlojdpaaDoor.Cc

