/-
  ChaCha20 as plain functions: no program here.
  What follows of ChaCha20 as plain functions: a quarter round turned back; bytes turned twice; a part from a whole block on.
  Bytes turned by ChaCha20, as a plain function: turned twice; from a whole block on; of zeros.
  AEAD_CHACHA20_POLY1305 as plain functions: no program here.
  Small functions of package poly, each by its contract: Clamp, withoutOne, plus.
  The document's own eight and padded (package dominoref07) by their contracts: a number's eight bytes, the lowest first; bytes, and zeros up to a multiple of 16.
  The small functions of package chacha and of the document's own, each by its contract: turning, the quarter round, four bytes as a number, a number as four bytes.
  The quarter round, of package chacha and of the document's own, each by its contract.
  Four bytes as a number and back, and a round at four places, each by its contract.
-/
import Derived.Test.YtjelacblnjbfgaaGreatDoorB2
import Derived.Test.YtjelacblnjbfgaaGreatDoorB9
import Derived.Test.YtjelacblnjbfgaaGreatDoorRows
import Derived.WalkLawsBesides
import Derived.IntWalk
import Derived.Lib.BufferOwn
import Derived.StillTailTactics
import Derived.Test.YtjelacblnjbfgaaGreatDoorB8
import Derived.Test.YtjelacblnjbfgaaGreatDoorB1
import Derived.Lib.EndianBits
set_option linter.unusedVariables false
namespace Go.Proofs.YtjelacblnjbfgaaGreatDoor.Cc
open Go.Proofs.YtjelacblnjbfgaaGreatDoor.Sum
def lft (x : Int) (n : Nat) : Int := rotI x (32 - n)
def qr (a b c d : Int) : Int × Int × Int × Int :=
  let a1 := addI a b
  let d1 := lft (xorI d a1) 16
  let c1 := addI c d1
  let b1 := lft (xorI b c1) 12
  let a2 := addI a1 b1
  let d2 := lft (xorI d1 a2) 8
  let c2 := addI c1 d2
  let b2 := lft (xorI b1 c2) 7
  (a2, b2, c2, d2)
def at4 (s : List Int) (i j k l : Nat) : List Int :=
  let q := qr (s.getD i 0) (s.getD j 0) (s.getD k 0) (s.getD l 0)
  (((s.set i q.1).set j q.2.1).set k q.2.2.1).set l q.2.2.2
def columns (s : List Int) : List Int := at4 (at4 (at4 (at4 s 0 4 8 12) 1 5 9 13) 2 6 10 14) 3 7 11 15
def diagonals (s : List Int) : List Int := at4 (at4 (at4 (at4 s 0 5 10 15) 1 6 11 12) 2 7 8 13) 3 4 9 14
def twice (s : List Int) : List Int := diagonals (columns s)
def turns : Nat → List Int → List Int
  | 0, s => s
  | n + 1, s => twice (turns n s)
def lew (bs : List Int) (t : Nat) : Int := ((bs.getD (4 * t + 3) 0 * 256 + bs.getD (4 * t + 2) 0) * 256 + bs.getD (4 * t + 1) 0) * 256 + bs.getD (4 * t) 0
def sigma : List Int := [0x61707865, 0x3320646e, 0x79622d32, 0x6b206574]
def first (key : List Int) (ctr : Int) (nonce : List Int) : List Int := sigma ++ ((List.range 8).map (lew key) ++ (ctr :: (List.range 3).map (lew nonce)))
def byteOf (v s : List Int) (i : Nat) : Int := addI (v.getD (i / 4) 0) (s.getD (i / 4) 0) / 2 ^ (8 * (i % 4)) % 256
def block (key : List Int) (ctr : Int) (nonce : List Int) : List Int := (List.range 64).map (byteOf (turns 10 (first key ctr nonce)) (first key ctr nonce))
def streamAt (key : List Int) (ctr : Int) (nonce : List Int) (i : Nat) : Int := (block key (addI ctr ((i / 64 : Nat) : Int)) nonce).getD (i % 64) 0
def xors (key nonce : List Int) (ctr : Int) (bs : List Int) : List Int := (List.range bs.length).map fun i => bits .xor .u8 (bs.getD i 0) (streamAt key ctr nonce i)
theorem r32_lft (x : Int) (n : Nat) : R32 (lft x n) := r32_rot _ _
theorem r32_qr (a b c d : Int) : R32 (qr a b c d).1 ∧ R32 (qr a b c d).2.1 ∧ R32 (qr a b c d).2.2.1 ∧ R32 (qr a b c d).2.2.2 := ⟨r32_add _ _, r32_lft _ _, r32_add _ _, r32_lft _ _⟩
def Sixteen (s : List Int) : Prop := s.length = 16 ∧ ∀ z ∈ s, R32 z
theorem Sixteen.at4 {s : List Int} (h : Sixteen s) (i j k l : Nat) : Sixteen (at4 s i j k l) := by
  refine ⟨by simp [Cc.at4, h.1], fun z hz => ?_⟩
  obtain ⟨q1, q2, q3, q4⟩ := r32_qr (s.getD i 0) (s.getD j 0) (s.getD k 0) (s.getD l 0)
  rcases List.mem_or_eq_of_mem_set hz with hz | rfl
  · rcases List.mem_or_eq_of_mem_set hz with hz | rfl
    · rcases List.mem_or_eq_of_mem_set hz with hz | rfl
      · rcases List.mem_or_eq_of_mem_set hz with hz | rfl
        · exact h.2 z hz
        · exact q1
      · exact q2
    · exact q3
  · exact q4
attribute [irreducible] at4
theorem Sixteen.twice {s : List Int} (h : Sixteen s) : Sixteen (twice s) := by
  unfold Cc.twice diagonals columns
  exact (((((((h.at4 _ _ _ _).at4 _ _ _ _).at4 _ _ _ _).at4 _ _ _ _).at4 _ _ _ _).at4 _ _ _ _).at4 _ _ _ _).at4 _ _ _ _
theorem Sixteen.turns {s : List Int} (h : Sixteen s) : ∀ n, Sixteen (turns n s)
  | 0 => h
  | n + 1 => (Sixteen.turns h n).twice
theorem Sixteen.get {s : List Int} (h : Sixteen s) {i : Nat} (hi : i < 16) : R32 (s.getD i 0) := by
  have hl : i < s.length := by rw [h.1]; exact hi
  rw [List.getD_eq_getElem?_getD, List.getElem?_eq_getElem hl]
  exact h.2 _ (List.getElem_mem hl)
theorem r32_lew {bs : List Int} (h : Bs bs) (t : Nat) : R32 (lew bs t) := by
  have h0 := h.at_ (4 * t)
  have h1 := h.at_ (4 * t + 1)
  have h2 := h.at_ (4 * t + 2)
  have h3 := h.at_ (4 * t + 3)
  unfold R32 lew
  omega
theorem first_length (key : List Int) (ctr : Int) (nonce : List Int) : (first key ctr nonce).length = 16 := by simp [first, sigma]
theorem sixteen_first {key nonce : List Int} {ctr : Int} (hk : Bs key) (hn : Bs nonce) (hc : R32 ctr) : Sixteen (first key ctr nonce) := by
  refine ⟨first_length _ _ _, fun z hz => ?_⟩
  rcases List.mem_append.1 hz with h | h
  · have : ∀ z ∈ sigma, R32 z := by unfold R32; decide
    exact this z h
  · rcases List.mem_append.1 h with h | h
    · obtain ⟨t, _, rfl⟩ := List.mem_map.1 h
      exact r32_lew hk t
    · rcases List.mem_cons.1 h with rfl | h
      · exact hc
      · obtain ⟨t, _, rfl⟩ := List.mem_map.1 h
        exact r32_lew hn t
theorem block_length (key : List Int) (ctr : Int) (nonce : List Int) : (block key ctr nonce).length = 64 := by simp [block]
theorem byteOf_bound (v s : List Int) (i : Nat) : 0 ≤ byteOf v s i ∧ byteOf v s i ≤ 255 := by unfold byteOf; omega
theorem block_bytes (key : List Int) (ctr : Int) (nonce : List Int) : Bs (block key ctr nonce) := fun z hz => by
  obtain ⟨i, _, rfl⟩ := List.mem_map.1 hz
  exact byteOf_bound _ _ _
theorem xors_length (key nonce : List Int) (ctr : Int) (bs : List Int) : (xors key nonce ctr bs).length = bs.length := by simp [xors]
end Go.Proofs.YtjelacblnjbfgaaGreatDoor.Cc
namespace Go.Proofs.YtjelacblnjbfgaaGreatDoor.Cc
open Go.Proofs.YtjelacblnjbfgaaGreatDoor.Sum
def rn (a m : Nat) : Nat := a / 2 ^ m ||| a * 2 ^ (32 - m) % 4294967296
end Go.Proofs.YtjelacblnjbfgaaGreatDoor.Cc
namespace Go.Proofs.YtjelacblnjbfgaaGreatDoor.Cc
open Go.Proofs.YtjelacblnjbfgaaGreatDoor.Sum
theorem stream_bound (key : List Int) (ctr : Int) (nonce : List Int) (i : Nat) : 0 ≤ streamAt key ctr nonce i ∧ streamAt key ctr nonce i ≤ 255 := (block_bytes key (addI ctr ((i / 64 : Nat) : Int)) nonce).at_ (i % 64)
theorem byte_back {x s : Int} (hx : 0 ≤ x ∧ x ≤ 255) (hs : 0 ≤ s ∧ s ≤ 255) : bits .xor .u8 (bits .xor .u8 x s) s = x := by
  have h1 : x.toNat < 256 := by omega
  have h2 : s.toNat < 256 := by omega
  have h3 : x.toNat ^^^ s.toNat < 2 ^ 8 := Nat.xor_lt_two_pow h1 h2
  rw [u8_xor x s (by omega) (by omega) (by omega) (by omega), u8_xor _ s (by omega) (by omega) (by omega) (by omega), Int.toNat_natCast, Nat.xor_assoc, Nat.xor_self, Nat.xor_zero]
  omega
theorem byte_xor_bound {x s : Int} (hx : 0 ≤ x ∧ x ≤ 255) (hs : 0 ≤ s ∧ s ≤ 255) : 0 ≤ bits .xor .u8 x s ∧ bits .xor .u8 x s ≤ 255 := by
  have h3 : x.toNat ^^^ s.toNat < 2 ^ 8 := Nat.xor_lt_two_pow (show x.toNat < 2 ^ 8 by omega) (show s.toNat < 2 ^ 8 by omega)
  rw [u8_xor x s (by omega) (by omega) (by omega) (by omega)]
  omega
theorem xors_get (key nonce : List Int) (ctr : Int) (bs : List Int) {i : Nat} (hi : i < bs.length) : (xors key nonce ctr bs).getD i 0 = bits .xor .u8 (bs.getD i 0) (streamAt key ctr nonce i) := by
  simp [xors, List.getD_eq_getElem?_getD, hi]
theorem xors_bytes (key nonce : List Int) (ctr : Int) {bs : List Int} (h : Bs bs) : Bs (xors key nonce ctr bs) := fun z hz => by
  obtain ⟨i, _, rfl⟩ := List.mem_map.1 hz
  exact byte_xor_bound (h.at_ i) (stream_bound _ _ _ _)
theorem list_eq {xs ys : List Int} (hl : xs.length = ys.length) (h : ∀ i, i < xs.length → xs.getD i 0 = ys.getD i 0) : xs = ys := by
  apply List.ext_getElem hl
  intro i h1 h2
  have := h i h1
  simpa [List.getD_eq_getElem?_getD, h1, h2] using this
theorem getD_left {xs ys : List Int} {i : Nat} (h : i < xs.length) : (xs ++ ys).getD i 0 = xs.getD i 0 := by simp [List.getD_eq_getElem?_getD, List.getElem?_append_left h]
theorem getD_last {xs : List Int} {y : Int} {i : Nat} (h : i = xs.length) : (xs ++ [y]).getD i 0 = y := by subst h; simp [List.getD_eq_getElem?_getD]
theorem xors_snoc (key nonce : List Int) (c : Int) (bs : List Int) {k : Nat} (hk : k < bs.length) : xors key nonce c (bs.take (k + 1)) = xors key nonce c (bs.take k) ++ [bits .xor .u8 (bs.getD k 0) (streamAt key c nonce k)] := by
  have l1 : (bs.take (k + 1)).length = k + 1 := by rw [List.length_take]; omega
  have l0 : (bs.take k).length = k := by rw [List.length_take]; omega
  refine list_eq (by rw [xors_length, List.length_append, xors_length, l1, l0]; rfl) fun i hi => ?_
  rw [xors_length, l1] at hi
  rw [xors_get _ _ _ _ (by omega)]
  have e1 : (bs.take (k + 1)).getD i 0 = bs.getD i 0 := by simp [List.getD_eq_getElem?_getD, hi]
  rw [e1]
  by_cases h : i < k
  · rw [getD_left (by rw [xors_length, l0]; exact h), xors_get _ _ _ _ (by omega)]
    congr 1
    simp [List.getD_eq_getElem?_getD, h]
  · have e : i = k := by omega
    subst e
    rw [getD_last (by rw [xors_length, l0])]
end Go.Proofs.YtjelacblnjbfgaaGreatDoor.Cc
namespace Go.Proofs.YtjelacblnjbfgaaGreatDoor.Ae
open Go.Proofs.YtjelacblnjbfgaaGreatDoor.Sum Po
def padN (n : Nat) : Nat := (16 - n % 16) % 16
def padL (b : List Int) : List Int := b ++ List.replicate (padN b.length) 0
theorem padN_whole (n : Nat) : (n + padN n) % 16 = 0 := by unfold padN; omega
theorem padN_lt (n : Nat) : padN n < 16 := by unfold padN; omega
theorem padL_length (b : List Int) : (padL b).length = b.length + padN b.length := by simp [padL]
theorem padL_bytes {b : List Int} (h : Bs b) : Bs (padL b) := fun z hz => by
  rcases List.mem_append.1 hz with h1 | h1
  · exact h z h1
  · rw [List.eq_of_mem_replicate h1]; omega
def text (aad c : List Int) : List Int := padL aad ++ padL c ++ digits (aad.length : Int) 8 ++ digits (c.length : Int) 8
def macKey (key nonce : List Int) : List Int := (Cc.block key 0 nonce).take 32
def aeTag (key nonce aad c : List Int) : List Int := poly (macKey key nonce) (text aad c)
def sealed (key nonce aad plain : List Int) : List Int := Cc.xors key nonce 1 plain ++ aeTag key nonce aad (Cc.xors key nonce 1 plain)
def opened (key nonce aad b : List Int) : Option (List Int) :=
  if aeTag key nonce aad (b.take (b.length - 16)) = b.drop (b.length - 16) then some (Cc.xors key nonce 1 (b.take (b.length - 16))) else none
theorem macKey_length (key nonce : List Int) : (macKey key nonce).length = 32 := by simp [macKey, Cc.block_length]
theorem macKey_bytes (key nonce : List Int) : Bs (macKey key nonce) := fun z hz => Cc.block_bytes _ _ _ z (List.mem_of_mem_take hz)
theorem text_bytes {aad c : List Int} (ha : Bs aad) (hc : Bs c) : Bs (text aad c) := fun z hz => by
  rcases List.mem_append.1 hz with hz | hz
  · rcases List.mem_append.1 hz with hz | hz
    · rcases List.mem_append.1 hz with hz | hz
      · exact padL_bytes ha z hz
      · exact padL_bytes hc z hz
    · exact digits_bytes _ _ z hz
  · exact digits_bytes _ _ z hz
theorem text_length (aad c : List Int) : (text aad c).length ≤ aad.length + c.length + 48 := by
  have h1 := padN_lt aad.length
  have h2 := padN_lt c.length
  simp only [text, List.length_append, padL_length, digits_length]
  omega
theorem aeTag_length (key nonce aad c : List Int) : (aeTag key nonce aad c).length = 16 := poly_length _ _
theorem aeTag_bytes (key nonce aad c : List Int) : Bs (aeTag key nonce aad c) := poly_bytes _ _
end Go.Proofs.YtjelacblnjbfgaaGreatDoor.Ae
namespace Go.Proofs.YtjelacblnjbfgaaGreatDoor.Po
open Go.RowKit Go.Shelf Mem Go.Proofs.YtjelacblnjbfgaaGreatDoor.Sum
attribute [local irreducible] wpList wpListIn
theorem info_16b : (Tryz.prog.info? 58).map (·.size) = some 16 := by kernel_rfl
theorem info_17 : (Tryz.prog.info? 113).map (·.size) = some 17 := by kernel_rfl
theorem info_num : (Tryz.prog.info? 111).map (·.size) = some 5 := by kernel_rfl
theorem info_ten : (Tryz.prog.info? 116).map (·.size) = some 10 := by kernel_rfl
theorem info_u8 : (Tryz.prog.info? 5).map (·.size) = some 1 := by kernel_rfl
theorem info_u64 : (Tryz.prog.info? 23).map (·.size) = some 1 := by kernel_rfl
theorem zero_16b : (Tryz.prog.info? 58).bind (·.zero) = some (.agg (arr .u8 (List.replicate 16 0))) := by kernel_rfl
theorem zero_17 : (Tryz.prog.info? 113).bind (·.zero) = some (.agg (arr .u8 (List.replicate 17 0))) := by kernel_rfl
theorem zero_num : (Tryz.prog.info? 111).bind (·.zero) = some (.agg (arr .u64 (List.replicate 5 0))) := by kernel_rfl
theorem zero_ten : (Tryz.prog.info? 116).bind (·.zero) = some (.agg (arr .u64 (List.replicate 10 0))) := by kernel_rfl
set_option maxRecDepth 100000 in
theorem clamp_any (key : List Int) (w : World) (hk : key.length = 32) (hkb : Bs key) (hT : TabK w 0 .u8 keptI) :
    Calls Tryz.prog 82 #[.agg (arr .u8 key)] w fun e w' => e = .returned (.agg (arr .u8 (clamp key))) ∧ Below w.heap.size w w' := by
  have HK := Lib.hid hk
  have HC := Lib.hid (fun i (h : i < 16) => clamp_kept hkb h)
  have HL := Lib.hid (clamp_length key)
  have HW := Lib.hid (bs_wf (clamp_bytes hkb))
  have HT := Lib.hid (show (key.take 16).length = 16 by simp [hk])
  have HG := Lib.hid (fun i (h : i < 16) => show (key.take 16).getD i 0 = key.getD i 0 by simp [List.getD_eq_getElem?_getD, h])
  clear hk
  go_enter Tryz.func82, Tryz.ntmps82
  go_wp2_with (first
    | (refine wpList_box_Row (w := w) rfl 22 _ rfl .u8 key rfl (bs_wf hkb) ?_; intro w1 r1 g1 z1)
    | (refine wpList_alloc_Row (w := w1) rfl 58 rfl .u8 16 zero_16b ?_; intro w2 r2 g2 z2; have p2 := r1.grown g2 (by simp); have hsl : ∀ W, (Instr.sliceAt 22 (.pointer (some ⟨w.heap.size, 0, none⟩)) none (some (.int .i64 16)) none).run Tryz.prog W = .ok (.slice (some ⟨w.heap.size, 0, none⟩) 16 32) W := fun W => Held.run_slice_arr_h (P := Tryz.prog) 22 5 32 w.heap.size 16 W Tryz.underlying22 (by kernel_rfl) (by omega) (by omega))
    | (refine wpList_arrayAt rfl 58 _ rfl _ 16 32 16 5 rfl Tryz.underlying58 (by omega) ?_)
    | (refine wpList_load_midRow (w := w2) rfl 58 _ rfl w.heap.size 0 rfl 22 .u8 key p2 16 5 Tryz.underlying58 info_16b (by rw [HK.out]; omega) ?_)
    | (refine wpList_alloc_Row (w := w2) rfl 58 rfl .u8 16 zero_16b ?_; intro w3 r3 g3 z3)
    | (refine wpList_store_RowTo (w := w3) rfl 58 _ _ rfl w2.heap.size rfl 58 .u8 _ (key.take 16) rfl r3 16 info_16b HT.out (by simp) (fun z hz => bs_wf hkb z (List.mem_of_mem_take hz)) ?_; intro w4 r4 g4 z4))
  obtain ⟨gr, hgr⟩ : ∃ g, w1.heap.size = g := ⟨_, rfl⟩
  obtain ⟨ga, hga⟩ : ∃ g, w2.heap.size = g := ⟨_, rfl⟩
  have l1 := r1.lt
  have l2 := r2.lt
  have l3 := r3.lt
  have s4 := g4.size
  have b4 : Below w.heap.size w w4 := ((((Below.refl _ w).grown g1 (Nat.le_refl _) (by simp)).grown g2 g1.size (by simp)).grown g3 (by omega) (by simp)).grown g4 (by omega) (fun r e => by cases e; omega)
  have e4 := (r2.grown g3 (by simp)).grown g4 (by intro e; injection e with e; omega)
  rw [hgr] at l2 e4
  rw [hga] at l2 l3 r4 ⊢
  rw [hgr]
  have hwa : w.heap.size < ga := by omega
  have hra : gr < ga := l2
  have hwr : w.heap.size < gr := by omega
  clear hgr hga r1 r2 r3 g1 g2 g3 g4 z1 z2 z3 z4 p2 hsl l1 l2 l3 s4
  go_loopw [8] (fun i wr => ∃ k : Nat, k ≤ 16 ∧ i = .int .i64 k ∧ Below w.heap.size w wr ∧ Row wr gr 58 .u8 (List.replicate 16 0) ∧ Row wr ga 58 .u8 (blend (clamp key) (key.take 16) k)) (fun i _ => 16 - (intOf i).toNat)
  case atStart => exact ⟨0, by omega, rfl, b4, e4, by rw [blend_zero]; exact r4⟩
  case round =>
    clear b4 e4 r4
    obtain ⟨k, hk, rfl, hbl, er, ar⟩ := hrel
    have hk0 : (0 : Int) ≤ (k : Int) := by omega
    by_cases hlt : k < 16
    · have hlt' : (k : Int) < 16 := by omega
      have hLen : (clamp key).length = (key.take 16).length := by rw [HL.out, HT.out]
      have ca := ar.cell (i := k) (by rw [blend_length hLen, HT.out]; exact hlt)
      have ck := (hT.below hbl hT.lt).cell (i := k) hlt
      rw [blend_get hLen (by rw [HT.out]; exact hlt), HG.out k hlt] at ca
      have fa := ar.frozen k
      have HS := Lib.hid (show Row (wr.setCell ⟨ga, k, none⟩ (.int .u8 ((clamp key).getD k 0))) ga 58 .u8 (blend (clamp key) (key.take 16) (k + 1)) by
        rw [← blend_set hLen (by rw [HT.out]; exact hlt)]
        exact ar.set k (HW.out _ (by rw [List.getD_eq_getElem?_getD, List.getElem?_eq_getElem (by rw [HL.out]; exact hlt)]; exact List.getElem_mem _)))
      have HE := er.other (p := ⟨ga, k, none⟩) (by simp; omega) (.int .u8 ((clamp key).getD k 0))
      have hand := HC.out k hlt
      have HB := Lib.hid (hbl.setCell (p := ⟨ga, k, none⟩) (by simp; omega) (.int .u8 ((clamp key).getD k 0)))
      generalize (clamp key).getD k 0 = x at *
      generalize key.getD k 0 = y at *
      generalize keptI.getD k 0 = z at *
      clear hLen ar er hbl
      go_wp2_with fail
      go_still_tail 8, (by kernel_rfl)
      change wpList _ _ _ _ _ wr.drew
      go_wp2_with fail
      go_roundw
      case rel => exact ⟨k + 1, by omega, by go_num, HB.out.drew, HE, HS.out⟩
      case measure => simp [intOf]; omega
    · have hk16 : k = 16 := by omega
      subst hk16
      have hz : blend (clamp key) (key.take 16) 16 = clamp key := by
        have := blend_all (F := clamp key) (a := key.take 16) (by rw [HL.out, HT.out])
        rwa [HT.out] at this
      rw [hz] at ar
      clear hz hk0 hlt
      go_wp2_with (first
        | (refine wpList_load_Row (w := wr) rfl 58 _ rfl ga rfl 58 .u8 _ ar 16 5 Tryz.underlying58 info_16b HL.out ?_)
        | (refine wpList_store_RowTo (w := wr) rfl 58 _ _ rfl gr rfl 58 .u8 _ (clamp key) rfl er 16 info_16b HL.out (by simp) HW.out ?_; intro w8 q8 g8 z8))
      refine bodyPost_ret (results_Row rfl _ _ gr _ _ _ rfl q8 16 5 Tryz.underlying58 info_16b HL.out) rfl ?_
      exact ⟨rfl, hbl.grown g8 hbl.size (fun r e => by cases e; omega)⟩
theorem laid_half {half : List Int} (h : half.length = 16) : laidOver (List.replicate 17 0) 0 half = half ++ [0] := by simp [laidOver, h]
set_option maxRecDepth 100000 in
theorem without_any (half : List Int) (w : World) (hh : half.length = 16) (hb : Bs half) :
    Calls Tryz.prog 81 #[.agg (arr .u8 half)] w fun e w' => e = .returned (.agg (arr .u8 (half ++ [0]))) ∧ Below w.heap.size w w' := by
  have HH := Lib.hid hh
  have HL := Lib.hid (show (half ++ [0]).length = 17 by simp [hh])
  have HW := Lib.hid (show ∀ z ∈ half ++ [0], (Lit.int .u8 z).wf = true from bs_wf (fun z hz => by
    rcases List.mem_append.1 hz with h | h
    · exact hb z h
    · rw [List.mem_singleton.1 h]; omega))
  have HO := Lib.hid (laid_half hh)
  clear hh
  go_enter Tryz.func81, Tryz.ntmps81
  go_wp2_with (first
    | (refine wpList_box_Row (w := w) rfl 58 _ rfl .u8 half rfl (bs_wf hb) ?_; intro w1 r1 g1 z1)
    | (refine wpList_alloc_Row (w := w1) rfl 113 rfl .u8 17 zero_17 ?_; intro w2 r2 g2 z2)
    | (refine wpList_alloc_Row (w := w2) rfl 113 rfl .u8 17 zero_17 ?_; intro w3 r3 g3 z3))
  obtain ⟨gr, hgr⟩ : ∃ g, w1.heap.size = g := ⟨_, rfl⟩
  obtain ⟨gp, hgp⟩ : ∃ g, w2.heap.size = g := ⟨_, rfl⟩
  have l1 := r1.lt
  have l2 := r2.lt
  have b3 : Below w.heap.size w w3 := (((Below.refl _ w).grown g1 (Nat.le_refl _) (by simp)).grown g2 g1.size (by simp)).grown g3 (by omega) (by simp)
  have e3 := r2.grown g3 (by simp)
  have h3 := (r1.grown g2 (by simp)).grown g3 (by simp)
  rw [hgr] at l1 l2 e3
  rw [hgp] at l2 r3
  rw [hgr, hgp]
  clear hgr hgp r1 r2 g1 g2 g3 z1 z2 z3
  have ih := h3.ints (n := 16) (by rw [HH.out]; omega)
  simp only [Act.put, Z1, Z2, Z3]
  refine wp_region_held (S := fun _ => True) (by kernel_rfl) ?_
  change wpAnyH _ _ _ _ _ _ _ _ w3.drew
  have c0 : True := trivial
  refine Held.tk (v := .slice (some ⟨gp, 0, none⟩) 17 17) 0 (some 4) rfl (Held.y_slice rfl (fun W => run_slice_arr_all (P := Tryz.prog) 113 5 17 gp W Tryz.underlying113 (by kernel_rfl) (by omega))) c0 ?_
  simp only [Act.put, Z1, Z2, Z3]
  refine Held.tk (v := .slice (some ⟨w.heap.size, 0, none⟩) 16 16) 1 (some 5) rfl (Held.y_slice rfl (fun W => run_slice_arr_all (P := Tryz.prog) 58 5 16 w.heap.size W Tryz.underlying58 (by kernel_rfl) (by omega))) c0 ?_
  simp only [Act.put, Z1, Z2, Z3]
  refine Held.one 2 (by kernel_rfl) ?_
  refine Held.op_copy_Row 2 (some 6) 27 27 rfl rfl rfl rfl 5 Tryz.underlying27 info_u8 gp 0 17 17 w3.heap.size (some ⟨w.heap.size, 0, none⟩) 16 16 rfl rfl 113 .u8 _ (half.take 16) r3 ih (by simp) ?_
  intro w5 r5 g5'
  have g5 : w3.grownBy w5 (some gp) := ⟨g5'.os, g5'.tape, g5'.output, g5'.size, g5'.block⟩
  clear g5'
  rw [show min 16 17 = 16 from rfl, List.take_take, Nat.min_self, List.take_of_length_le (by rw [HH.out]; omega), HO.out] at r5
  refine ⟨trivial, ?_⟩
  simp only [Act.put, Z1, Z2, Z3]
  refine wpAnyH_done (by kernel_rfl) ?_ _
  rw [show ((min 16 17 : Nat) : Int) = 16 from rfl]
  have b5 : Below w.heap.size w w5 := b3.grown g5 b3.size (fun r e => by cases e; omega)
  have e5 := e3.grown g5 (by intro e; injection e with e; omega)
  clear b3 e3 h3 r3 ih g5
  go_wp2_with (first
    | (refine wpList_load_Row (w := w5) rfl 113 _ rfl gp rfl 113 .u8 _ r5 17 5 Tryz.underlying113 info_17 HL.out ?_)
    | (refine wpList_store_RowTo (w := w5) rfl 113 _ _ rfl gr rfl 113 .u8 _ (half ++ [0]) rfl e5 17 info_17 HL.out (by simp) HW.out ?_; intro w8 q8 g8 z8))
  refine bodyPost_ret (results_Row rfl _ _ gr _ _ _ rfl q8 17 5 Tryz.underlying113 info_17 HL.out) rfl ?_
  exact ⟨rfl, b5.grown g8 b5.size (fun r e => by cases e; omega)⟩
theorem addL_length {a b : List Int} (ha : a.length = 5) (hb : b.length = 5) : (addL a b).length = 5 := by simp [addL, ha, hb]
theorem addL_get {a b : List Int} (ha : a.length = 5) (hb : b.length = 5) {i : Nat} (hi : i < 5) : (addL a b).getD i 0 = a.getD i 0 + b.getD i 0 := by
  have h1 : i < a.length := by omega
  have h2 : i < b.length := by omega
  simp [addL, List.getD_eq_getElem?_getD, List.getElem?_zipWith, h1, h2]
theorem addL_bound {a b : List Int} {A B : Int} (ha : ∀ x ∈ a, 0 ≤ x ∧ x < A) (hb : ∀ x ∈ b, 0 ≤ x ∧ x < B) : ∀ x ∈ addL a b, 0 ≤ x ∧ x < A + B := by
  intro x hx
  obtain ⟨i, hi, rfl⟩ := List.mem_iff_getElem.1 hx
  simp only [addL, List.length_zipWith] at hi
  simp only [addL, List.getElem_zipWith]
  have h1 := ha _ (List.getElem_mem (show i < a.length by omega))
  have h2 := hb _ (List.getElem_mem (show i < b.length by omega))
  omega
set_option maxRecDepth 100000 in
theorem plus_any (a b : List Int) (w : World) (ha : a.length = 5) (hb : b.length = 5) (hab : ∀ x ∈ a, 0 ≤ x ∧ x < 9223372036854775808) (hbb : ∀ x ∈ b, 0 ≤ x ∧ x < 9223372036854775808) :
    Calls Tryz.prog 86 #[.agg (arr .u64 a), .agg (arr .u64 b)] w fun e w' => e = .returned (.agg (arr .u64 (addL a b))) ∧ Below w.heap.size w w' := by
  have HA := Lib.hid ha
  have HB := Lib.hid hb
  have HL := Lib.hid (addL_length ha hb)
  have HF := Lib.hid (fun i (h : i < 5) => addL_get ha hb h)
  have HW := Lib.hid (show ∀ z ∈ addL a b, (Lit.int .u64 z).wf = true from fun z hz => wf_64 (by have := addL_bound hab hbb z hz; omega))
  have HAB := Lib.hid (fun i => getD_range (P := fun x => 0 ≤ x ∧ x < 9223372036854775808) hab (by omega) i)
  have HBB := Lib.hid (fun i => getD_range (P := fun x => 0 ≤ x ∧ x < 9223372036854775808) hbb (by omega) i)
  have haw : ∀ z ∈ a, (Lit.int .u64 z).wf = true := fun z hz => wf_64 (by have := hab z hz; omega)
  have hbw : ∀ z ∈ b, (Lit.int .u64 z).wf = true := fun z hz => wf_64 (by have := hbb z hz; omega)
  clear ha hb hab hbb
  go_enter Tryz.func86, Tryz.ntmps86
  go_wp2_with (first
    | (refine wpList_box_Row (w := w) rfl 111 _ rfl .u64 a rfl haw ?_; intro w1 r1 g1 z1)
    | (refine wpList_box_Row (w := w1) rfl 111 _ rfl .u64 b rfl hbw ?_; intro w2 r2 g2 z2)
    | (refine wpList_alloc_Row (w := w2) rfl 111 rfl .u64 5 zero_num ?_; intro w3 r3 g3 z3))
  obtain ⟨gb, hgb⟩ : ∃ g, w1.heap.size = g := ⟨_, rfl⟩
  obtain ⟨gr, hgr⟩ : ∃ g, w2.heap.size = g := ⟨_, rfl⟩
  have l1 := r1.lt
  have l2 := r2.lt
  have b3 : Below w.heap.size w w3 := (((Below.refl _ w).grown g1 (Nat.le_refl _) (by simp)).grown g2 g1.size (by simp)).grown g3 (by omega) (by simp)
  have p3 := (r1.grown g2 (by simp)).grown g3 (by simp)
  have q3 := r2.grown g3 (by simp)
  rw [hgb] at l1 l2 q3
  rw [hgr] at l2 r3
  rw [hgb, hgr]
  clear hgb hgr r1 r2 g1 g2 g3 z1 z2 z3
  go_loopw [6] (fun i wr => ∃ k : Nat, k ≤ 5 ∧ i = .int .i64 k ∧ Below w.heap.size w wr ∧ Row wr w.heap.size 111 .u64 (blend (addL a b) a k) ∧ Row wr gb 111 .u64 b ∧ Row wr gr 111 .u64 (List.replicate 5 0)) (fun i _ => 5 - (intOf i).toNat)
  case atStart => exact ⟨0, by omega, rfl, b3, by rw [blend_zero]; exact p3, q3, r3⟩
  case round =>
    clear b3 p3 q3 r3
    obtain ⟨k, hk, rfl, hbl, ar, br, er⟩ := hrel
    have hk0 : (0 : Int) ≤ (k : Int) := by omega
    by_cases hlt : k < 5
    · have hlt' : (k : Int) < 5 := by omega
      have hLen : (addL a b).length = a.length := by rw [HL.out, HA.out]
      have ca := ar.cell (i := k) (by rw [blend_length hLen, HA.out]; exact hlt)
      have cb := br.cell (i := k) (by rw [HB.out]; exact hlt)
      rw [blend_get hLen (by rw [HA.out]; exact hlt)] at ca
      have fa := ar.frozen k
      have HS := Lib.hid (show Row (wr.setCell ⟨w.heap.size, k, none⟩ (.int .u64 ((addL a b).getD k 0))) w.heap.size 111 .u64 (blend (addL a b) a (k + 1)) by
        rw [← blend_set hLen (by rw [HA.out]; exact hlt)]
        exact ar.set k (HW.out _ (by rw [List.getD_eq_getElem?_getD, List.getElem?_eq_getElem (by rw [HL.out]; exact hlt)]; exact List.getElem_mem _)))
      have HE := er.other (p := ⟨w.heap.size, k, none⟩) (by simp; omega) (.int .u64 ((addL a b).getD k 0))
      have HE2 := br.other (p := ⟨w.heap.size, k, none⟩) (by simp; omega) (.int .u64 ((addL a b).getD k 0))
      have ha := HAB.out k
      have hb := HBB.out k
      have HBL := Lib.hid (hbl.setCell (p := ⟨w.heap.size, k, none⟩) (by simp) (.int .u64 ((addL a b).getD k 0)))
      rw [HF.out k hlt] at HS HE HE2 HBL
      generalize a.getD k 0 = x at *
      generalize b.getD k 0 = y at *
      clear hLen ar br er hbl
      have hadd : IntKind.u64.wrap (x + y) = x + y := IntWalk.u64_in _ (by omega)
      go_wp2_with fail
      go_still_tail 8, (by kernel_rfl)
      change wpList _ _ _ _ _ wr.drew
      go_wp2_with fail
      go_roundw
      case rel => exact ⟨k + 1, by omega, by go_num, HBL.out.drew, HS.out, HE2, HE⟩
      case measure => simp [intOf]; omega
    · have hk5 : k = 5 := by omega
      subst hk5
      have hz : blend (addL a b) a 5 = addL a b := by
        have := blend_all (F := addL a b) (a := a) (by rw [HL.out, HA.out])
        rwa [HA.out] at this
      rw [hz] at ar
      clear hz hk0 hlt
      go_wp2_with (first
        | (refine wpList_load_Row (w := wr) rfl 111 _ rfl w.heap.size rfl 111 .u64 _ ar 5 23 Tryz.underlying111 info_num HL.out ?_)
        | (refine wpList_store_RowTo (w := wr) rfl 111 _ _ rfl gr rfl 111 .u64 _ (addL a b) rfl er 5 info_num HL.out (by simp) HW.out ?_; intro w8 q8 g8 z8))
      refine bodyPost_ret (results_Row rfl _ _ gr _ _ _ rfl q8 5 23 Tryz.underlying111 info_num HL.out) rfl ?_
      exact ⟨rfl, hbl.grown g8 hbl.size (fun r e => by cases e; omega)⟩
end Go.Proofs.YtjelacblnjbfgaaGreatDoor.Po
namespace Go.Proofs.YtjelacblnjbfgaaGreatDoor.Ae
open Go.RowKit Go.Shelf Mem Help Go.Proofs.YtjelacblnjbfgaaGreatDoor.Sum Po
attribute [local irreducible] wpList wpListIn
theorem wpList_shr {P : Program} {ops : Array Oper} {rest : List Oper} {o : Oper} {a : Act} {w : World} {Q : Exit → Act → World → Prop} (hgd : o.guard = none) (t u : TypeId) (x y : Operand) (ho : o.op = .binOp .shr t x y u) (k k' : IntKind) (v r : Int) (n : Nat) (hx : a.eval x = .int k v) (hy : a.eval y = .int k' (n : Int)) (hn : n ≤ k.bits) (hr : v / 2 ^ n = r)
    (h : wpList P ops Q rest (a.put o.dst (.int k r)) w) : wpList P ops Q (o :: rest) a w := by
  refine wpList_plain hgd fun K hK => ?_
  unfold Oper.wp execOp
  simp [ho, hx, hy, Held.run_shr t k k' n hn hr]
  exact hK _ _ h
theorem digits_snoc (n : Int) {k : Nat} (hk : k < 8) : (digits n 8).take (k + 1) = (digits n 8).take k ++ [(digits n 8).getD k 0] := by
  rw [List.take_add_one, List.getD_eq_getElem?_getD, List.getElem?_eq_getElem (by rw [digits_length]; exact hk)]
  rfl
theorem digit_mem (n : Int) {k : Nat} (hk : k < 8) : (digits n 8).getD k 0 ∈ digits n 8 := by
  rw [List.getD_eq_getElem?_getD, List.getElem?_eq_getElem (by rw [digits_length]; exact hk)]
  exact List.getElem_mem _
theorem byte_at (n : Int) {k : Nat} (hk : k < 8) : n / 2 ^ (8 * k) % 256 = (digits n 8).getD k 0 := by
  rw [digits_get 8 n k hk, show (256 : Int) = 2 ^ 8 from rfl, ← Int.pow_mul]
theorem shifted_lt {n : Int} (h0 : 0 ≤ n) (hn : n < 72057594037927936) (k : Nat) : 0 ≤ n / 2 ^ (8 * k) ∧ n / 2 ^ (8 * k) < 72057594037927936 := by
  have hp : (0 : Int) < 2 ^ (8 * k) := Int.pow_pos (by omega)
  refine ⟨Int.ediv_nonneg h0 (by omega), Int.lt_of_le_of_lt (Int.ediv_le_self _ h0) hn⟩
set_option maxRecDepth 100000 in
set_option maxHeartbeats 4000000 in
theorem eight_any (n : Int) (w : World) (h0 : 0 ≤ n) (hn : n < 72057594037927936) :
    Calls Tryz.prog 65 #[.int .i64 n] w fun e w' => ∃ A c, e = .returned (.slice A 8 c) ∧ Mem.Own w' w.heap.size 5 .u8 (.slice A 8 c) (digits n 8) ∧ Below w.heap.size w w' := by
  go_enter Tryz.func65, Tryz.ntmps65
  go_wp2_with fail
  go_loopw [3, 4] (fun v i wr => ∃ k : Nat, k ≤ 8 ∧ i = .int .i64 k ∧ Mem.Own wr w.heap.size 5 .u8 v ((digits n 8).take k) ∧ Below w.heap.size w wr) (fun _ i _ => 8 - (intOf i).toNat)
  case atStart => exact ⟨0, by omega, rfl, Mem.Own.nil _ _ _ _, Below.refl _ _⟩
  case round =>
    obtain ⟨k, hk, rfl, hown, hb⟩ := hrel
    by_cases hlt : k < 8
    · have hlt' : (k : Int) < 8 := by omega
      have hk0 : (0 : Int) ≤ (k : Int) := by omega
      have W1 : IntKind.u64.wrap n = n := by rw [IntKind.wrap_u64]; omega
      have W2 : IntKind.i64.wrap (8 * (k : Int)) = ((8 * k : Nat) : Int) := by rw [IntKind.wrap_i64]; omega
      have W3 : IntKind.u64.wrap ((8 * k : Nat) : Int) = ((8 * k : Nat) : Int) := by rw [IntKind.wrap_u64]; omega
      obtain ⟨S0, S1⟩ := shifted_lt h0 hn k
      have HBY := Lib.hid (byte_at n hlt)
      obtain ⟨q, hq⟩ : ∃ q, n / 2 ^ (8 * k) = q := ⟨_, rfl⟩
      rw [hq] at S0 S1 HBY
      have HQ := Lib.hid hq
      clear hq
      have W4 : IntKind.u8.wrap q = (digits n 8).getD k 0 := by rw [← HBY.out, IntKind.wrap_u8]
      have HWF := Lib.hid (bs_wf (digits_bytes 8 n) _ (digit_mem n hlt))
      have HS := Lib.hid (digits_snoc n hlt)
      obtain ⟨z, hz⟩ : ∃ z, (digits n 8).getD k 0 = z := ⟨_, rfl⟩
      rw [hz] at W4 HS HWF
      have hsz := hb.size
      clear hlt
      go_wp2_with (first
        | (refine wpList_shr rfl 23 39 _ _ rfl .u64 .u64 n q (8 * k) rfl (by simp [Act.eval]) (by simp [IntKind.bits]; omega) HQ.out ?_)
        | (refine Held.wpList_build_row (w := wr) rfl 27 5 1 _ rfl .u8 1 [z] Tryz.underlying27 info_u8 (by simp [Act.eval]) rfl (by omega) (by omega) (by intro y hy; rw [List.mem_singleton.1 hy]; exact HWF.out) ?_; intro w3 r3 g3 z3; have o3 := hown.kept g3 (by cases u3.ownBlock <;> simp); have i3 : Ints w3 .u8 w3.heap.size (some ⟨wr.heap.size, 0, none⟩) 1 [z] := r3.ints (n := 1) (by simp))
        | (at_builtin; refine wpList_append_ints w3 rfl _ _ 27 rfl w.heap.size 5 .u8 1 Tryz.underlying27 info_u8 _ _ rfl o3 w3.heap.size (some ⟨wr.heap.size, 0, none⟩) 1 1 [z] rfl i3 (by simp; omega) (by omega) (by have := g3.size; omega) ?_; intro v4 w4 o4 g4 t4))
      have HT := HS.out
      go_roundw
      case rel => exact ⟨k + 1, by omega, by go_num, by rw [HS.out]; exact o4, (hb.grown g3 hb.size (by simp)).grown g4 (by have := g3.size; have := hb.size; omega) (fun r e => (o3.2.lt r e).1)⟩
      case measure => simp [intOf]; omega
    · have hk8 : k = 8 := by omega
      subst hk8
      have e8 : (digits n 8).take 8 = digits n 8 := List.take_of_length_le (by rw [digits_length]; omega)
      rw [e8] at hown
      obtain ⟨A, c, rfl, _, _, _⟩ := hown.form
      rw [digits_length] at hown ⊢
      go_wp2_with fail
      go_ret
      exact ⟨A, c, rfl, hown, hb⟩
def lenOf : Value → Nat | .slice _ m _ => m | _ => 0
set_option maxRecDepth 100000 in
set_option maxHeartbeats 4000000 in
theorem padded_any (B : Nat) (A : Option Addr) (n c : Nat) (xs : List Int) (w : World) (h : Ints w .u8 B A n xs) (hn : n ≤ 1099511627776) :
    Calls Tryz.prog 64 #[.slice A n c] w fun e w' => ∃ A' c', e = .returned (.slice A' (padL xs).length c') ∧ Mem.Own w' w.heap.size 5 .u8 (.slice A' (padL xs).length c') (padL xs) ∧ Below w.heap.size w w' := by
  have HX := Lib.hid h.1
  go_enter Tryz.func64, Tryz.ntmps64
  go_wp2_with (at_builtin; refine wpList_append_ints w rfl _ _ 27 rfl w.heap.size 5 .u8 1 Tryz.underlying27 info_u8 (.slice none 0 0) [] rfl (Mem.Own.nil _ _ _ _) B A n c xs rfl h (by simp; omega) (by omega) (Nat.le_refl _) ?_; intro v1 w1 o1 g1 t1)
  have b1 : Below w.heap.size w w1 := (Below.refl _ w).grown g1 (Nat.le_refl _) (by simp [Value.ownBlock])
  rw [List.nil_append] at o1
  go_loopw [3] (fun v wr => ∃ j : Nat, j ≤ padN n ∧ Mem.Own wr w.heap.size 5 .u8 v (xs ++ List.replicate j 0) ∧ Below w.heap.size w wr) (fun v _ => n + 16 - lenOf v)
  case atStart => exact ⟨0, by omega, by simpa using o1, b1⟩
  case round =>
    clear o1 b1 g1 t1
    obtain ⟨j, hj, hown, hb⟩ := hrel
    have hpl := padN_lt n
    have hsz := hb.size
    obtain ⟨A1, c1, rfl, _, _, _⟩ := hown.form
    obtain ⟨m, hm⟩ : ∃ m, (xs ++ List.replicate j 0).length = m := ⟨_, rfl⟩
    rw [hm] at hown ⊢
    have em : m = n + j := by rw [← hm]; simp [HX.out]
    have HE := Lib.hid em
    have hm44 : m ≤ 1099511627792 := by omega
    have HM := Lib.hid hm
    clear hm
    by_cases hlt : j < padN n
    · have hne : ((m : Int) % 16 != 0) = true := by
        have h16 : ((m : Int) % 16) ≠ 0 := by unfold padN at hlt; omega
        simpa using h16
      clear em
      go_wp2_with (first
        | (refine Held.wpList_build_row (w := wr) rfl 27 5 1 _ rfl .u8 1 [0] Tryz.underlying27 info_u8 (by simp [Act.eval]) rfl (by omega) (by omega) (by decide) ?_; intro w3 r3 g3 z3; have o3 := hown.kept g3 (by cases (Value.slice A1 m c1).ownBlock <;> simp); have i3 : Ints w3 .u8 w3.heap.size (some ⟨wr.heap.size, 0, none⟩) 1 [0] := r3.ints (n := 1) (by simp))
        | (at_builtin; refine wpList_append_ints w3 rfl _ _ 27 rfl w.heap.size 5 .u8 1 Tryz.underlying27 info_u8 (.slice A1 m c1) _ rfl o3 w3.heap.size (some ⟨wr.heap.size, 0, none⟩) 1 1 [0] rfl i3 (by rw [HM.out]; omega) (by omega) (by have := g3.size; omega) ?_; intro v4 w4 o4 g4 t4))
      obtain ⟨A4, c4, rfl, _, _, _⟩ := o4.form
      go_roundw
      case rel => exact ⟨j + 1, by omega, by rw [List.replicate_succ', ← List.append_assoc]; exact o4, (hb.grown g3 hb.size (by simp)).grown g4 (by have := g3.size; have := hb.size; omega) (fun r e => (o3.2.lt r e).1)⟩
      case measure => simp only [lenOf]; have := HM.out; have := HE.out; rw [List.length_append, HM.out]; simp; omega
    · have hjj : j = padN n := by omega
      subst hjj
      have hne : ((m : Int) % 16 != 0) = false := by
        have h16 : ((m : Int) % 16) = 0 := by have := padN_whole n; omega
        simpa using h16
      clear em
      go_wp2_with fail
      go_ret
      have hpd : xs ++ List.replicate (padN n) 0 = padL xs := by rw [padL, HX.out]
      rw [hpd] at hown
      have hml : m = (padL xs).length := by rw [← HM.out, hpd]
      rw [hml] at hown ⊢
      exact ⟨A1, c1, rfl, hown, hb⟩
end Go.Proofs.YtjelacblnjbfgaaGreatDoor.Ae
namespace Go.Proofs.YtjelacblnjbfgaaGreatDoor.Cha
open Go.RowKit Mem Help Go.Proofs.YtjelacblnjbfgaaGreatDoor.Sum Cc
attribute [local irreducible] wpList wpListIn
theorem wf_byte {z : Int} (h : 0 ≤ z ∧ z ≤ 255) : (Lit.int .u8 z).wf = true := by simp [Lit.wf, IntKind.min, IntKind.max, IntKind.signed, IntKind.bits]; omega
theorem mask_p : ∀ p : Fin 32, (p.val &&& 31) = p.val := by decide +kernel
theorem lft_any (x : Int) (p : Nat) (w : World) (hx : R32 x) (hk : 1 ≤ p) (hk' : p ≤ 31) :
    Calls Tryz.prog 118 #[.int .u32 x, .int .i64 (p : Int)] w fun e w' => e = .returned (.int .u32 (lft x p)) ∧ w = w' := by
  have h2 : bits .and .u64 (p : Int) 31 = (p : Int) := by
    rw [u64_and _ _ (by omega) (by omega) (by omega) (by omega)]
    have e := mask_p ⟨p, by omega⟩
    simp only at e
    have e2 : (31 : Int).toNat = 31 := rfl
    rw [Int.toNat_natCast, e2, e]
  have e3 : 32 - (32 - p) = p := by omega
  have H : Hid (bits .or .u32 (x * 2 ^ p % 4294967296) (x / 2 ^ (32 - p)) = lft x p) := Lib.hid (by
    unfold lft rotI
    rw [e3]
    exact or_comm32 ⟨by omega, by omega⟩ (r32_shr hx (32 - p)))
  clear e3
  go_enter Tryz.func118, Tryz.ntmps118
  go_wp2
  go_ret
  exact ⟨ret_int H.out, rfl⟩
theorem rleft_any (x : Int) (p : Nat) (w : World) (hx : R32 x) (hk : 1 ≤ p) (hk' : p ≤ 31) :
    Calls Tryz.prog 114 #[.int .u32 x, .int .i64 (p : Int)] w fun e w' => e = .returned (.int .u32 (lft x p)) ∧ w = w' := by
  have e3 : 32 - (32 - p) = p := by omega
  have H : Hid (bits .or .u32 (x * 2 ^ p % 4294967296) (x / 2 ^ (32 - p)) = lft x p) := Lib.hid (by
    unfold lft rotI
    rw [e3]
    exact or_comm32 ⟨by omega, by omega⟩ (r32_shr hx (32 - p)))
  clear e3
  go_enter Tryz.func114, Tryz.ntmps114
  go_wp2
  go_ret
  exact ⟨ret_int H.out, rfl⟩
end Go.Proofs.YtjelacblnjbfgaaGreatDoor.Cha
namespace Go.Proofs.YtjelacblnjbfgaaGreatDoor.Cha
open Go.RowKit Mem Help Go.Proofs.YtjelacblnjbfgaaGreatDoor.Sum Cc
attribute [local irreducible] wpList wpListIn
theorem lft_16 (x : Int) (w : World) (hx : R32 x) : Calls Tryz.prog 118 #[.int .u32 x, .int .i64 16] w fun e w' => e = .returned (.int .u32 (lft x 16)) ∧ w = w' := lft_any x 16 w hx (by omega) (by omega)
theorem lft_12 (x : Int) (w : World) (hx : R32 x) : Calls Tryz.prog 118 #[.int .u32 x, .int .i64 12] w fun e w' => e = .returned (.int .u32 (lft x 12)) ∧ w = w' := lft_any x 12 w hx (by omega) (by omega)
theorem lft_8 (x : Int) (w : World) (hx : R32 x) : Calls Tryz.prog 118 #[.int .u32 x, .int .i64 8] w fun e w' => e = .returned (.int .u32 (lft x 8)) ∧ w = w' := lft_any x 8 w hx (by omega) (by omega)
theorem lft_7 (x : Int) (w : World) (hx : R32 x) : Calls Tryz.prog 118 #[.int .u32 x, .int .i64 7] w fun e w' => e = .returned (.int .u32 (lft x 7)) ∧ w = w' := lft_any x 7 w hx (by omega) (by omega)
theorem results_tmp4 {fn : Func} {t u v x : Tmp} (h : fn.results = #[.tmp t, .tmp u, .tmp v, .tmp x]) (tmps : Array Value) (P : Program) (w : World) :
    (results fn tmps).run P w = .ok (.tuple #[tmps.getD t undef, tmps.getD u undef, tmps.getD v undef, tmps.getD x undef]) w := by
  simp [results, h]
theorem addI3 (a b c : Int) : (a + b + c) % 4294967296 = addI (addI a b) c := by unfold addI; omega
theorem quarter_any (a b c d : Int) (w : World) :
    Calls Tryz.prog 110 #[.int .u32 a, .int .u32 b, .int .u32 c, .int .u32 d] w fun e w' => e = .returned (.tuple #[.int .u32 (qr a b c d).1, .int .u32 (qr a b c d).2.1, .int .u32 (qr a b c d).2.2.1, .int .u32 (qr a b c d).2.2.2]) ∧ w = w' := by
  go_enter Tryz.func110, Tryz.ntmps110
  go_wp2_with fail
  refine (lft_16 _ _ (r32_bits _ _ _)).mono ?_
  rintro e w' ⟨rfl, rfl⟩
  go_wp2_with fail
  refine (lft_12 _ _ (r32_bits _ _ _)).mono ?_
  rintro e w' ⟨rfl, rfl⟩
  go_wp2_with fail
  refine (lft_8 _ _ (r32_bits _ _ _)).mono ?_
  rintro e w' ⟨rfl, rfl⟩
  go_wp2_with fail
  refine (lft_7 _ _ (r32_bits _ _ _)).mono ?_
  rintro e w' ⟨rfl, rfl⟩
  go_wp2_with fail
  refine bodyPost_ret (results_tmp4 rfl _ _ _) rfl ?_
  exact ⟨by simp only [addI3]; rfl, rfl⟩
theorem rlft_16 (x : Int) (w : World) (hx : R32 x) : Calls Tryz.prog 114 #[.int .u32 x, .int .i64 16] w fun e w' => e = .returned (.int .u32 (lft x 16)) ∧ w = w' := rleft_any x 16 w hx (by omega) (by omega)
theorem rlft_12 (x : Int) (w : World) (hx : R32 x) : Calls Tryz.prog 114 #[.int .u32 x, .int .i64 12] w fun e w' => e = .returned (.int .u32 (lft x 12)) ∧ w = w' := rleft_any x 12 w hx (by omega) (by omega)
theorem rlft_8 (x : Int) (w : World) (hx : R32 x) : Calls Tryz.prog 114 #[.int .u32 x, .int .i64 8] w fun e w' => e = .returned (.int .u32 (lft x 8)) ∧ w = w' := rleft_any x 8 w hx (by omega) (by omega)
theorem rlft_7 (x : Int) (w : World) (hx : R32 x) : Calls Tryz.prog 114 #[.int .u32 x, .int .i64 7] w fun e w' => e = .returned (.int .u32 (lft x 7)) ∧ w = w' := rleft_any x 7 w hx (by omega) (by omega)
theorem rquarter_any (a b c d : Int) (w : World) :
    Calls Tryz.prog 107 #[.int .u32 a, .int .u32 b, .int .u32 c, .int .u32 d] w fun e w' => e = .returned (.tuple #[.int .u32 (qr a b c d).1, .int .u32 (qr a b c d).2.1, .int .u32 (qr a b c d).2.2.1, .int .u32 (qr a b c d).2.2.2]) ∧ w = w' := by
  go_enter Tryz.func107, Tryz.ntmps107
  go_wp2_with fail
  refine (rlft_16 _ _ (r32_bits _ _ _)).mono ?_
  rintro e w' ⟨rfl, rfl⟩
  go_wp2_with fail
  refine (rlft_12 _ _ (r32_bits _ _ _)).mono ?_
  rintro e w' ⟨rfl, rfl⟩
  go_wp2_with fail
  refine (rlft_8 _ _ (r32_bits _ _ _)).mono ?_
  rintro e w' ⟨rfl, rfl⟩
  go_wp2_with fail
  refine (rlft_7 _ _ (r32_bits _ _ _)).mono ?_
  rintro e w' ⟨rfl, rfl⟩
  go_wp2_with fail
  refine bodyPost_ret (results_tmp4 rfl _ _ _) rfl ?_
  exact ⟨by simp only [addI3]; rfl, rfl⟩
end Go.Proofs.YtjelacblnjbfgaaGreatDoor.Cha
namespace Go.Proofs.YtjelacblnjbfgaaGreatDoor.Cha
open Go.RowKit Mem Help Go.Proofs.YtjelacblnjbfgaaGreatDoor.Sum Cc
attribute [local irreducible] wpList wpListIn
def le4 (z0 z1 z2 z3 : Int) : Int := ((z3 * 256 + z2) * 256 + z1) * 256 + z0
theorem word_join {z0 z1 z2 z3 : Int} (h0 : 0 ≤ z0 ∧ z0 ≤ 255) (h1 : 0 ≤ z1 ∧ z1 ≤ 255) (h2 : 0 ≤ z2 ∧ z2 ≤ 255) (h3 : 0 ≤ z3 ∧ z3 ≤ 255) :
    bits .or .u32 (bits .or .u32 (bits .or .u32 z0 (z1 * 256)) (z2 * 65536)) (z3 * 16777216) = le4 z0 z1 z2 z3 := by
  have hw : ∀ n : Int, 0 ≤ n → n < 2 ^ 32 → IntKind.u32.wrap n = n := fun n h1 h2 => by rw [IntKind.wrap_u32]; omega
  rw [bits_join_low .u32 32 (by decide) hw 8 z0 (z1 * 256) (by omega) (by omega) (by omega) (by omega) (by omega) (by omega),
    bits_join_low .u32 32 (by decide) hw 16 (z0 + z1 * 256) (z2 * 65536) (by omega) (by omega) (by omega) (by omega) (by omega) (by omega),
    bits_join_low .u32 32 (by decide) hw 24 (z0 + z1 * 256 + z2 * 65536) (z3 * 16777216) (by omega) (by omega) (by omega) (by omega) (by omega) (by omega)]
  unfold le4
  omega
theorem word_any (g off n c : Nat) (B : Nat) (zs : List Int) (w : World) (h : Ints w .u8 B (some ⟨g, off, none⟩) n zs) (hn : n = 4) :
    Calls Tryz.prog 109 #[.slice (some ⟨g, off, none⟩) n c] w fun e w' => e = .returned (.int .u32 (le4 (zs.getD 0 0) (zs.getD 1 0) (zs.getD 2 0) (zs.getD 3 0))) ∧ Still w w' := by
  subst hn
  have b0 := wf_u8 (h.range (i := 0) (by omega))
  have b1 := wf_u8 (h.range (i := 1) (by omega))
  have b2 := wf_u8 (h.range (i := 2) (by omega))
  have b3 := wf_u8 (h.range (i := 3) (by omega))
  obtain ⟨_, _, e0, _, c0⟩ := h.at_ (i := 0) (by omega)
  cases e0
  obtain ⟨_, _, e0, _, c1⟩ := h.at_ (i := 1) (by omega)
  cases e0
  obtain ⟨_, _, e0, _, c2⟩ := h.at_ (i := 2) (by omega)
  cases e0
  obtain ⟨_, _, e0, _, c3⟩ := h.at_ (i := 3) (by omega)
  cases e0
  rw [Nat.add_zero] at c0
  have J := Lib.hid (word_join b0 b1 b2 b3)
  generalize zs.getD 0 0 = z0 at *
  generalize zs.getD 1 0 = z1 at *
  generalize zs.getD 2 0 = z2 at *
  generalize zs.getD 3 0 = z3 at *
  clear h
  go_enter Tryz.func109, Tryz.ntmps109
  go_wp2_with fail
  go_quiet (fail)
  go_wp2_with fail
  go_ret
  exact ⟨ret_int J.out, ⟨_, rfl⟩⟩
theorem rword_any (g off n c : Nat) (B : Nat) (zs : List Int) (w : World) (h : Ints w .u8 B (some ⟨g, off, none⟩) n zs) (hn : n = 4) :
    Calls Tryz.prog 91 #[.slice (some ⟨g, off, none⟩) n c] w fun e w' => e = .returned (.int .u32 (le4 (zs.getD 0 0) (zs.getD 1 0) (zs.getD 2 0) (zs.getD 3 0))) ∧ Still w w' := by
  subst hn
  have b0 := wf_u8 (h.range (i := 0) (by omega))
  have b1 := wf_u8 (h.range (i := 1) (by omega))
  have b2 := wf_u8 (h.range (i := 2) (by omega))
  have b3 := wf_u8 (h.range (i := 3) (by omega))
  obtain ⟨_, _, e0, _, c0⟩ := h.at_ (i := 0) (by omega)
  cases e0
  obtain ⟨_, _, e0, _, c1⟩ := h.at_ (i := 1) (by omega)
  cases e0
  obtain ⟨_, _, e0, _, c2⟩ := h.at_ (i := 2) (by omega)
  cases e0
  obtain ⟨_, _, e0, _, c3⟩ := h.at_ (i := 3) (by omega)
  cases e0
  rw [Nat.add_zero] at c0
  have J := Lib.hid (word_join b0 b1 b2 b3)
  generalize zs.getD 0 0 = z0 at *
  generalize zs.getD 1 0 = z1 at *
  generalize zs.getD 2 0 = z2 at *
  generalize zs.getD 3 0 = z3 at *
  clear h
  go_enter Tryz.func91, Tryz.ntmps91
  go_wp2_with fail
  go_quiet (fail)
  go_wp2_with fail
  go_ret
  exact ⟨ret_int J.out, ⟨_, rfl⟩⟩
def put4 (zs : List Int) (off : Nat) (n : Int) : List Int := (((zs.set off (n % 256)).set (off + 1) (n / 256 % 256)).set (off + 2) (n / 65536 % 256)).set (off + 3) (n / 16777216 % 256)
theorem put_any (g off c : Nat) (ty : TypeId) (zs : List Int) (n : Int) (w : World) (h : Row w g ty .u8 zs) (hl : off + 4 ≤ zs.length) (hn : R32 n) :
    Calls Tryz.prog 102 #[.slice (some ⟨g, off, none⟩) 4 c, .int .u32 n] w fun e w' => (∃ v, e = .returned v) ∧ Row w' g ty .u8 (put4 zs off n) ∧ w.grownBy w' (some g) := by
  have c0 := h.cell (i := off) (by omega)
  have c1 := h.cell (i := off + 1) (by omega)
  have c2 := h.cell (i := off + 2) (by omega)
  have c3 := h.cell (i := off + 3) (by omega)
  have f0 := h.frozen off
  have f1 := h.frozen (off + 1)
  have f2 := h.frozen (off + 2)
  have f3 := h.frozen (off + 3)
  have H := Lib.hid (show Row ((((w.setCell ⟨g, off, none⟩ (.int .u8 (n % 256))).setCell ⟨g, off + 1, none⟩ (.int .u8 (n / 256 % 256))).setCell ⟨g, off + 2, none⟩ (.int .u8 (n / 65536 % 256))).setCell ⟨g, off + 3, none⟩ (.int .u8 (n / 16777216 % 256))) g ty .u8 (put4 zs off n) from
    (((h.set off (wf_byte ⟨by omega, by omega⟩)).set _ (wf_byte ⟨by omega, by omega⟩)).set _ (wf_byte ⟨by omega, by omega⟩)).set _ (wf_byte ⟨by omega, by omega⟩))
  generalize zs.getD off 0 = z0 at *
  generalize zs.getD (off + 1) 0 = z1 at *
  generalize zs.getD (off + 2) 0 = z2 at *
  generalize zs.getD (off + 3) 0 = z3 at *
  clear h
  go_enter Tryz.func102, Tryz.ntmps102
  go_wp2_with fail
  go_end0
  exact ⟨⟨_, rfl⟩, H.out, Lib.grownBy_trans (Lib.grownBy_trans (Lib.grownBy_trans (grown_setCell w g _ _) (grown_setCell _ g _ _)) (grown_setCell _ g _ _)) (grown_setCell _ g _ _)⟩
theorem info_u32 : (Tryz.prog.info? 57).map (·.size) = some 1 := by kernel_rfl
theorem round_set (s : List Int) (i j k l : Nat) : at4 s i j k l = ((((s.set i (qr (s.getD i 0) (s.getD j 0) (s.getD k 0) (s.getD l 0)).1).set j (qr (s.getD i 0) (s.getD j 0) (s.getD k 0) (s.getD l 0)).2.1).set k (qr (s.getD i 0) (s.getD j 0) (s.getD k 0) (s.getD l 0)).2.2.1).set l (qr (s.getD i 0) (s.getD j 0) (s.getD k 0) (s.getD l 0)).2.2.2) := by unfold at4; rfl
theorem info_16 : (Tryz.prog.info? 125).map (·.size) = some 16 := by kernel_rfl
theorem zero_16 : (Tryz.prog.info? 125).bind (·.zero) = some (.agg (arr .u32 (List.replicate 16 0))) := by kernel_rfl
theorem wf_32 {x : Int} (h : R32 x) : (Lit.int .u32 x).wf = true := by
  unfold R32 at h
  simp [Lit.wf, IntKind.min, IntKind.max, IntKind.signed, IntKind.bits]
  omega
set_option maxRecDepth 100000 in
theorem round_any (s : List Int) (i j k l : Nat) (w : World) (hs : Sixteen s) (hi : i < 16) (hj : j < 16) (hk : k < 16) (hl : l < 16) :
    Calls Tryz.prog 92 #[.agg (arr .u32 s), .int .i64 (i : Int), .int .i64 (j : Int), .int .i64 (k : Int), .int .i64 (l : Int)] w fun e w' => e = .returned (.agg (arr .u32 (at4 s i j k l))) ∧ Below w.heap.size w w' := by
  have hwf : ∀ z ∈ s, (Lit.int .u32 z).wf = true := fun z hz => wf_32 (hs.2 z hz)
  have HL := Lib.hid hs.1
  have R := Lib.hid (round_set s i j k l)
  have HS := Lib.hid (hs.at4 i j k l)
  go_enter Tryz.func92, Tryz.ntmps92
  go_wp2_with (first
    | (refine wpList_box_Row (w := w) rfl 125 _ rfl .u32 s rfl hwf ?_; intro w1 r1 g1 z1)
    | (refine wpList_alloc_Row (w := w1) rfl 125 rfl .u32 16 zero_16 ?_; intro w2 r2 g2 z2))
  have b2 : Below w.heap.size w w2 := ((Below.refl _ w).grown g1 (Nat.le_refl _) (by simp)).grown g2 g1.size (by simp)
  have q1 := r1.grown g2 (by simp)
  obtain ⟨g, hg⟩ : ∃ g, w1.heap.size = g := ⟨_, rfl⟩
  have hgw : w.heap.size < g := by rw [← hg]; exact r1.lt
  rw [hg] at r2
  have ci := q1.cell (i := i) (by rw [HL.out]; exact hi)
  have cj := q1.cell (i := j) (by rw [HL.out]; exact hj)
  have ck := q1.cell (i := k) (by rw [HL.out]; exact hk)
  have cl := q1.cell (i := l) (by rw [HL.out]; exact hl)
  have R' := R.out
  clear r1 g1 g2 z1 z2 hs
  generalize s.getD i 0 = x0 at *
  generalize s.getD j 0 = x1 at *
  generalize s.getD k 0 = x2 at *
  generalize s.getD l 0 = x3 at *
  have hi' : (i : Int) < 16 := by omega
  have hj' : (j : Int) < 16 := by omega
  have hk' : (k : Int) < 16 := by omega
  have hl' : (l : Int) < 16 := by omega
  have hi0 : (0 : Int) ≤ (i : Int) := by omega
  have hj0 : (0 : Int) ≤ (j : Int) := by omega
  have hk0 : (0 : Int) ≤ (k : Int) := by omega
  have hl0 : (0 : Int) ≤ (l : Int) := by omega
  go_wp2_with fail
  go_quiet ((go_at_call 107; exact quiet_same (rquarter_any _ _ _ _ _)))
  clear ci cj ck cl
  obtain ⟨w3, hw3⟩ : ∃ w3, w2.drewN nq = w3 := ⟨_, rfl⟩
  have q3 : Row w3 w.heap.size 125 .u32 s := hw3 ▸ q1
  have p3 : Row w3 g 125 .u32 (List.replicate 16 0) := hw3 ▸ r2
  have b3 : Below w.heap.size w w3 := hw3 ▸ below_drewN b2 nq
  rw [hw3]
  obtain ⟨y1, y2, y3, y4⟩ := r32_qr x0 x1 x2 x3
  clear hw3 q1 r2 b2 R
  go_wp2_with (first
    | (refine wpList_store_elem (w := w3) rfl 57 _ _ rfl w.heap.size i rfl 125 .u32 _ _ rfl q3 (by rw [HL.out]; exact hi) info_u32 (wf_32 y1) ?_; intro w4 q4 g4 z4)
    | (refine wpList_store_elem (w := w4) rfl 57 _ _ rfl w.heap.size j rfl 125 .u32 _ _ rfl q4 (by rw [List.length_set, HL.out]; exact hj) info_u32 (wf_32 y2) ?_; intro w5 q5 g5 z5)
    | (refine wpList_store_elem (w := w5) rfl 57 _ _ rfl w.heap.size k rfl 125 .u32 _ _ rfl q5 (by rw [List.length_set, List.length_set, HL.out]; exact hk) info_u32 (wf_32 y3) ?_; intro w6 q6 g6 z6)
    | (refine wpList_store_elem (w := w6) rfl 57 _ _ rfl w.heap.size l rfl 125 .u32 _ _ rfl q6 (by rw [List.length_set, List.length_set, List.length_set, HL.out]; exact hl) info_u32 (wf_32 y4) ?_; intro w7 q7 g7 z7; rw [← R'] at q7; have p7 := (((p3.grown g4 (by intro e; injection e with e; omega)).grown g5 (by intro e; injection e with e; omega)).grown g6 (by intro e; injection e with e; omega)).grown g7 (by intro e; injection e with e; omega))
    | (refine wpList_load_Row (w := w7) rfl 125 _ rfl w.heap.size rfl 125 .u32 _ q7 16 57 Tryz.underlying125 info_16 HS.out.1 ?_)
    | (refine wpList_store_RowTo (w := w7) rfl 125 _ _ rfl g rfl 125 .u32 _ (at4 s i j k l) rfl p7 16 info_16 HS.out.1 (by simp) (fun z hz => wf_32 (HS.out.2 z hz)) ?_; intro w8 q8 g8 z8))
  have b7 : Below w.heap.size w w7 := (((b3.grown g4 b3.size (fun r e => by cases e; omega)).grown g5 (by have := b3.size; have := g4.size; omega) (fun r e => by cases e; omega)).grown g6 (by have := b3.size; have := g4.size; have := g5.size; omega) (fun r e => by cases e; omega)).grown g7 (by have := b3.size; have := g4.size; have := g5.size; have := g6.size; omega) (fun r e => by cases e; omega)
  refine bodyPost_ret (results_Row rfl _ _ g _ _ _ rfl q8 16 57 Tryz.underlying125 info_16 HS.out.1) rfl ?_
  exact ⟨rfl, b7.grown g8 b7.size (fun r e => by cases e; omega)⟩
end Go.Proofs.YtjelacblnjbfgaaGreatDoor.Cha
