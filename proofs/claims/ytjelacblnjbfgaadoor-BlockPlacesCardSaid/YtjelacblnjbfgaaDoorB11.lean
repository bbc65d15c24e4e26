/-
  AEAD_CHACHA20_POLY1305 as plain functions: no program here.
  Small functions of package poly, each by its contract: Clamp, withoutOne, plus.
  The document's own eight and padded (package dominoref07) by their contracts: a number's eight bytes, the lowest first; bytes, and zeros up to a multiple of 16.
  The small functions of package chacha and of the document's own, each by its contract: turning, the quarter round, four bytes as a number, a number as four bytes.
  The quarter round, of package chacha and of the document's own, each by its contract.
  Four bytes as a number and back, and a round at four places, each by its contract.
  The functions state, mixed and Block of package chacha by their contracts.
-/
import Derived.Test.YtjelacblnjbfgaaDoorB10
import Derived.Test.YtjelacblnjbfgaaDoorB7
import Derived.Test.YtjelacblnjbfgaaDoorRows
import Derived.WalkLawsBesides
import Derived.IntWalk
import Derived.Lib.BufferOwn
import Derived.StillTailTactics
import Derived.Test.YtjelacblnjbfgaaDoorB6
import Derived.Test.YtjelacblnjbfgaaDoorB2
import Derived.Test.YtjelacblnjbfgaaDoorB1
import Derived.Lib.EndianBits
import Derived.Test.YtjelacblnjbfgaaDoorB9
set_option linter.unusedVariables false
namespace Go.Proofs.YtjelacblnjbfgaaDoor.Ae
open Go.Proofs.YtjelacblnjbfgaaDoor.Sum Po
def padN (n : Nat) : Nat := (16 - n % 16) % 16
def padL (b : List Int) : List Int := b ++ List.replicate (padN b.length) 0
theorem padN_lt (n : Nat) : padN n < 16 := by unfold padN; omega
theorem padL_length (b : List Int) : (padL b).length = b.length + padN b.length := by simp [padL]
theorem padL_bytes {b : List Int} (h : Bs b) : Bs (padL b) := fun z hz => by
  rcases List.mem_append.1 hz with h1 | h1
  · exact h z h1
  · rw [List.eq_of_mem_replicate h1]; omega
def text (aad c : List Int) : List Int := padL aad ++ padL c ++ digits (aad.length : Int) 8 ++ digits (c.length : Int) 8
def macKey (key nonce : List Int) : List Int := (Cc.block key 0 nonce).take 32
def aeTag (key nonce aad c : List Int) : List Int := poly (macKey key nonce) (text aad c)
def sealed (key nonce aad plain : List Int) : List Int := Cc.xors key nonce 1 plain ++ aeTag key nonce aad (Cc.xors key nonce 1 plain)
def opened (key nonce aad b : List Int) : Option (List Int) :=
  if aeTag key nonce aad (b.take (b.length - 16)) = b.drop (b.length - 16) then some (Cc.xors key nonce 1 (b.take (b.length - 16))) else none
theorem macKey_length (key nonce : List Int) : (macKey key nonce).length = 32 := by simp [macKey, Cc.block_length]
theorem macKey_bytes (key nonce : List Int) : Bs (macKey key nonce) := fun z hz => Cc.block_bytes _ _ _ z (List.mem_of_mem_take hz)
theorem text_bytes {aad c : List Int} (ha : Bs aad) (hc : Bs c) : Bs (text aad c) := fun z hz => by
  rcases List.mem_append.1 hz with hz | hz
  · rcases List.mem_append.1 hz with hz | hz
    · rcases List.mem_append.1 hz with hz | hz
      · exact padL_bytes ha z hz
      · exact padL_bytes hc z hz
    · exact digits_bytes _ _ z hz
  · exact digits_bytes _ _ z hz
theorem text_length (aad c : List Int) : (text aad c).length ≤ aad.length + c.length + 48 := by
  have h1 := padN_lt aad.length
  have h2 := padN_lt c.length
  simp only [text, List.length_append, padL_length, digits_length]
  omega
theorem aeTag_length (key nonce aad c : List Int) : (aeTag key nonce aad c).length = 16 := poly_length _ _
theorem aeTag_bytes (key nonce aad c : List Int) : Bs (aeTag key nonce aad c) := poly_bytes _ _
theorem sealed_length (key nonce aad plain : List Int) : (sealed key nonce aad plain).length = plain.length + 16 := by rw [sealed, List.length_append, Cc.xors_length, aeTag_length]
theorem opened_sealed (key nonce aad : List Int) {plain : List Int} (h : Bs plain) : opened key nonce aad (sealed key nonce aad plain) = some plain := by
  have hl : (sealed key nonce aad plain).length - 16 = (Cc.xors key nonce 1 plain).length := by rw [sealed_length, Cc.xors_length]; omega
  have ht : (sealed key nonce aad plain).take ((sealed key nonce aad plain).length - 16) = Cc.xors key nonce 1 plain := by rw [hl, sealed, List.take_left' rfl]
  have hd : (sealed key nonce aad plain).drop ((sealed key nonce aad plain).length - 16) = aeTag key nonce aad (Cc.xors key nonce 1 plain) := by rw [hl, sealed, List.drop_left' rfl]
  rw [opened, ht, hd, if_pos rfl, Cc.xors_back key nonce 1 h]
end Go.Proofs.YtjelacblnjbfgaaDoor.Ae
namespace Go.Proofs.YtjelacblnjbfgaaDoor.Po
open Go.RowKit Go.Shelf Mem Go.Proofs.YtjelacblnjbfgaaDoor.Sum
attribute [local irreducible] wpList wpListIn
theorem info_16b : (Tryd.prog.info? 55).map (·.size) = some 16 := by kernel_rfl
theorem info_17 : (Tryd.prog.info? 104).map (·.size) = some 17 := by kernel_rfl
theorem info_num : (Tryd.prog.info? 102).map (·.size) = some 5 := by kernel_rfl
theorem info_ten : (Tryd.prog.info? 107).map (·.size) = some 10 := by kernel_rfl
theorem info_u8 : (Tryd.prog.info? 5).map (·.size) = some 1 := by kernel_rfl
theorem info_u64 : (Tryd.prog.info? 23).map (·.size) = some 1 := by kernel_rfl
theorem zero_16b : (Tryd.prog.info? 55).bind (·.zero) = some (.agg (arr .u8 (List.replicate 16 0))) := by kernel_rfl
theorem zero_17 : (Tryd.prog.info? 104).bind (·.zero) = some (.agg (arr .u8 (List.replicate 17 0))) := by kernel_rfl
theorem zero_num : (Tryd.prog.info? 102).bind (·.zero) = some (.agg (arr .u64 (List.replicate 5 0))) := by kernel_rfl
theorem zero_ten : (Tryd.prog.info? 107).bind (·.zero) = some (.agg (arr .u64 (List.replicate 10 0))) := by kernel_rfl
set_option maxRecDepth 100000 in
theorem clamp_any (key : List Int) (w : World) (hk : key.length = 32) (hkb : Bs key) (hT : TabK w 0 .u8 keptI) :
    Calls Tryd.prog 55 #[.agg (arr .u8 key)] w fun e w' => e = .returned (.agg (arr .u8 (clamp key))) ∧ Below w.heap.size w w' := by
  have HK := Lib.hid hk
  have HC := Lib.hid (fun i (h : i < 16) => clamp_kept hkb h)
  have HL := Lib.hid (clamp_length key)
  have HW := Lib.hid (bs_wf (clamp_bytes hkb))
  have HT := Lib.hid (show (key.take 16).length = 16 by simp [hk])
  have HG := Lib.hid (fun i (h : i < 16) => show (key.take 16).getD i 0 = key.getD i 0 by simp [List.getD_eq_getElem?_getD, h])
  clear hk
  go_enter Tryd.func55, Tryd.ntmps55
  go_wp2_with (first
    | (refine wpList_box_Row (w := w) rfl 22 _ rfl .u8 key rfl (bs_wf hkb) ?_; intro w1 r1 g1 z1)
    | (refine wpList_alloc_Row (w := w1) rfl 55 rfl .u8 16 zero_16b ?_; intro w2 r2 g2 z2; have p2 := r1.grown g2 (by simp); have hsl : ∀ W, (Instr.sliceAt 22 (.pointer (some ⟨w.heap.size, 0, none⟩)) none (some (.int .i64 16)) none).run Tryd.prog W = .ok (.slice (some ⟨w.heap.size, 0, none⟩) 16 32) W := fun W => Held.run_slice_arr_h (P := Tryd.prog) 22 5 32 w.heap.size 16 W Tryd.underlying22 (by kernel_rfl) (by omega) (by omega))
    | (refine wpList_arrayAt rfl 55 _ rfl _ 16 32 16 5 rfl Tryd.underlying55 (by omega) ?_)
    | (refine wpList_load_midRow (w := w2) rfl 55 _ rfl w.heap.size 0 rfl 22 .u8 key p2 16 5 Tryd.underlying55 info_16b (by rw [HK.out]; omega) ?_)
    | (refine wpList_alloc_Row (w := w2) rfl 55 rfl .u8 16 zero_16b ?_; intro w3 r3 g3 z3)
    | (refine wpList_store_RowTo (w := w3) rfl 55 _ _ rfl w2.heap.size rfl 55 .u8 _ (key.take 16) rfl r3 16 info_16b HT.out (by simp) (fun z hz => bs_wf hkb z (List.mem_of_mem_take hz)) ?_; intro w4 r4 g4 z4))
  obtain ⟨gr, hgr⟩ : ∃ g, w1.heap.size = g := ⟨_, rfl⟩
  obtain ⟨ga, hga⟩ : ∃ g, w2.heap.size = g := ⟨_, rfl⟩
  have l1 := r1.lt
  have l2 := r2.lt
  have l3 := r3.lt
  have s4 := g4.size
  have b4 : Below w.heap.size w w4 := ((((Below.refl _ w).grown g1 (Nat.le_refl _) (by simp)).grown g2 g1.size (by simp)).grown g3 (by omega) (by simp)).grown g4 (by omega) (fun r e => by cases e; omega)
  have e4 := (r2.grown g3 (by simp)).grown g4 (by intro e; injection e with e; omega)
  rw [hgr] at l2 e4
  rw [hga] at l2 l3 r4 ⊢
  rw [hgr]
  have hwa : w.heap.size < ga := by omega
  have hra : gr < ga := l2
  have hwr : w.heap.size < gr := by omega
  clear hgr hga r1 r2 r3 g1 g2 g3 g4 z1 z2 z3 z4 p2 hsl l1 l2 l3 s4
  go_loopw [8] (fun i wr => ∃ k : Nat, k ≤ 16 ∧ i = .int .i64 k ∧ Below w.heap.size w wr ∧ Row wr gr 55 .u8 (List.replicate 16 0) ∧ Row wr ga 55 .u8 (blend (clamp key) (key.take 16) k)) (fun i _ => 16 - (intOf i).toNat)
  case atStart => exact ⟨0, by omega, rfl, b4, e4, by rw [blend_zero]; exact r4⟩
  case round =>
    clear b4 e4 r4
    obtain ⟨k, hk, rfl, hbl, er, ar⟩ := hrel
    have hk0 : (0 : Int) ≤ (k : Int) := by omega
    by_cases hlt : k < 16
    · have hlt' : (k : Int) < 16 := by omega
      have hLen : (clamp key).length = (key.take 16).length := by rw [HL.out, HT.out]
      have ca := ar.cell (i := k) (by rw [blend_length hLen, HT.out]; exact hlt)
      have ck := (hT.below hbl hT.lt).cell (i := k) hlt
      rw [blend_get hLen (by rw [HT.out]; exact hlt), HG.out k hlt] at ca
      have fa := ar.frozen k
      have HS := Lib.hid (show Row (wr.setCell ⟨ga, k, none⟩ (.int .u8 ((clamp key).getD k 0))) ga 55 .u8 (blend (clamp key) (key.take 16) (k + 1)) by
        rw [← blend_set hLen (by rw [HT.out]; exact hlt)]
        exact ar.set k (HW.out _ (by rw [List.getD_eq_getElem?_getD, List.getElem?_eq_getElem (by rw [HL.out]; exact hlt)]; exact List.getElem_mem _)))
      have HE := er.other (p := ⟨ga, k, none⟩) (by simp; omega) (.int .u8 ((clamp key).getD k 0))
      have hand := HC.out k hlt
      have HB := Lib.hid (hbl.setCell (p := ⟨ga, k, none⟩) (by simp; omega) (.int .u8 ((clamp key).getD k 0)))
      generalize (clamp key).getD k 0 = x at *
      generalize key.getD k 0 = y at *
      generalize keptI.getD k 0 = z at *
      clear hLen ar er hbl
      go_wp2_with fail
      go_still_tail 8, (by kernel_rfl)
      change wpList _ _ _ _ _ wr.drew
      go_wp2_with fail
      go_roundw
      case rel => exact ⟨k + 1, by omega, by go_num, HB.out.drew, HE, HS.out⟩
      case measure => simp [intOf]; omega
    · have hk16 : k = 16 := by omega
      subst hk16
      have hz : blend (clamp key) (key.take 16) 16 = clamp key := by
        have := blend_all (F := clamp key) (a := key.take 16) (by rw [HL.out, HT.out])
        rwa [HT.out] at this
      rw [hz] at ar
      clear hz hk0 hlt
      go_wp2_with (first
        | (refine wpList_load_Row (w := wr) rfl 55 _ rfl ga rfl 55 .u8 _ ar 16 5 Tryd.underlying55 info_16b HL.out ?_)
        | (refine wpList_store_RowTo (w := wr) rfl 55 _ _ rfl gr rfl 55 .u8 _ (clamp key) rfl er 16 info_16b HL.out (by simp) HW.out ?_; intro w8 q8 g8 z8))
      refine bodyPost_ret (results_Row rfl _ _ gr _ _ _ rfl q8 16 5 Tryd.underlying55 info_16b HL.out) rfl ?_
      exact ⟨rfl, hbl.grown g8 hbl.size (fun r e => by cases e; omega)⟩
theorem laid_half {half : List Int} (h : half.length = 16) : laidOver (List.replicate 17 0) 0 half = half ++ [0] := by simp [laidOver, h]
set_option maxRecDepth 100000 in
theorem without_any (half : List Int) (w : World) (hh : half.length = 16) (hb : Bs half) :
    Calls Tryd.prog 54 #[.agg (arr .u8 half)] w fun e w' => e = .returned (.agg (arr .u8 (half ++ [0]))) ∧ Below w.heap.size w w' := by
  have HH := Lib.hid hh
  have HL := Lib.hid (show (half ++ [0]).length = 17 by simp [hh])
  have HW := Lib.hid (show ∀ z ∈ half ++ [0], (Lit.int .u8 z).wf = true from bs_wf (fun z hz => by
    rcases List.mem_append.1 hz with h | h
    · exact hb z h
    · rw [List.mem_singleton.1 h]; omega))
  have HO := Lib.hid (laid_half hh)
  clear hh
  go_enter Tryd.func54, Tryd.ntmps54
  go_wp2_with (first
    | (refine wpList_box_Row (w := w) rfl 55 _ rfl .u8 half rfl (bs_wf hb) ?_; intro w1 r1 g1 z1)
    | (refine wpList_alloc_Row (w := w1) rfl 104 rfl .u8 17 zero_17 ?_; intro w2 r2 g2 z2)
    | (refine wpList_alloc_Row (w := w2) rfl 104 rfl .u8 17 zero_17 ?_; intro w3 r3 g3 z3))
  obtain ⟨gr, hgr⟩ : ∃ g, w1.heap.size = g := ⟨_, rfl⟩
  obtain ⟨gp, hgp⟩ : ∃ g, w2.heap.size = g := ⟨_, rfl⟩
  have l1 := r1.lt
  have l2 := r2.lt
  have b3 : Below w.heap.size w w3 := (((Below.refl _ w).grown g1 (Nat.le_refl _) (by simp)).grown g2 g1.size (by simp)).grown g3 (by omega) (by simp)
  have e3 := r2.grown g3 (by simp)
  have h3 := (r1.grown g2 (by simp)).grown g3 (by simp)
  rw [hgr] at l1 l2 e3
  rw [hgp] at l2 r3
  rw [hgr, hgp]
  clear hgr hgp r1 r2 g1 g2 g3 z1 z2 z3
  have ih := h3.ints (n := 16) (by rw [HH.out]; omega)
  simp only [Act.put, Z1, Z2, Z3]
  refine wp_region_held (S := fun _ => True) (by kernel_rfl) ?_
  change wpAnyH _ _ _ _ _ _ _ _ w3.drew
  have c0 : True := trivial
  refine Held.tk (v := .slice (some ⟨gp, 0, none⟩) 17 17) 0 (some 4) rfl (Held.y_slice rfl (fun W => run_slice_arr_all (P := Tryd.prog) 104 5 17 gp W Tryd.underlying104 (by kernel_rfl) (by omega))) c0 ?_
  simp only [Act.put, Z1, Z2, Z3]
  refine Held.tk (v := .slice (some ⟨w.heap.size, 0, none⟩) 16 16) 1 (some 5) rfl (Held.y_slice rfl (fun W => run_slice_arr_all (P := Tryd.prog) 55 5 16 w.heap.size W Tryd.underlying55 (by kernel_rfl) (by omega))) c0 ?_
  simp only [Act.put, Z1, Z2, Z3]
  refine Held.one 2 (by kernel_rfl) ?_
  refine Held.op_copy_Row 2 (some 6) 27 27 rfl rfl rfl rfl 5 Tryd.underlying27 info_u8 gp 0 17 17 w3.heap.size (some ⟨w.heap.size, 0, none⟩) 16 16 rfl rfl 104 .u8 _ (half.take 16) r3 ih (by simp) ?_
  intro w5 r5 g5'
  have g5 : w3.grownBy w5 (some gp) := ⟨g5'.os, g5'.tape, g5'.output, g5'.size, g5'.block⟩
  clear g5'
  rw [show min 16 17 = 16 from rfl, List.take_take, Nat.min_self, List.take_of_length_le (by rw [HH.out]; omega), HO.out] at r5
  refine ⟨trivial, ?_⟩
  simp only [Act.put, Z1, Z2, Z3]
  refine wpAnyH_done (by kernel_rfl) ?_ _
  rw [show ((min 16 17 : Nat) : Int) = 16 from rfl]
  have b5 : Below w.heap.size w w5 := b3.grown g5 b3.size (fun r e => by cases e; omega)
  have e5 := e3.grown g5 (by intro e; injection e with e; omega)
  clear b3 e3 h3 r3 ih g5
  go_wp2_with (first
    | (refine wpList_load_Row (w := w5) rfl 104 _ rfl gp rfl 104 .u8 _ r5 17 5 Tryd.underlying104 info_17 HL.out ?_)
    | (refine wpList_store_RowTo (w := w5) rfl 104 _ _ rfl gr rfl 104 .u8 _ (half ++ [0]) rfl e5 17 info_17 HL.out (by simp) HW.out ?_; intro w8 q8 g8 z8))
  refine bodyPost_ret (results_Row rfl _ _ gr _ _ _ rfl q8 17 5 Tryd.underlying104 info_17 HL.out) rfl ?_
  exact ⟨rfl, b5.grown g8 b5.size (fun r e => by cases e; omega)⟩
theorem addL_length {a b : List Int} (ha : a.length = 5) (hb : b.length = 5) : (addL a b).length = 5 := by simp [addL, ha, hb]
theorem addL_get {a b : List Int} (ha : a.length = 5) (hb : b.length = 5) {i : Nat} (hi : i < 5) : (addL a b).getD i 0 = a.getD i 0 + b.getD i 0 := by
  have h1 : i < a.length := by omega
  have h2 : i < b.length := by omega
  simp [addL, List.getD_eq_getElem?_getD, List.getElem?_zipWith, h1, h2]
theorem addL_bound {a b : List Int} {A B : Int} (ha : ∀ x ∈ a, 0 ≤ x ∧ x < A) (hb : ∀ x ∈ b, 0 ≤ x ∧ x < B) : ∀ x ∈ addL a b, 0 ≤ x ∧ x < A + B := by
  intro x hx
  obtain ⟨i, hi, rfl⟩ := List.mem_iff_getElem.1 hx
  simp only [addL, List.length_zipWith] at hi
  simp only [addL, List.getElem_zipWith]
  have h1 := ha _ (List.getElem_mem (show i < a.length by omega))
  have h2 := hb _ (List.getElem_mem (show i < b.length by omega))
  omega
set_option maxRecDepth 100000 in
theorem plus_any (a b : List Int) (w : World) (ha : a.length = 5) (hb : b.length = 5) (hab : ∀ x ∈ a, 0 ≤ x ∧ x < 9223372036854775808) (hbb : ∀ x ∈ b, 0 ≤ x ∧ x < 9223372036854775808) :
    Calls Tryd.prog 59 #[.agg (arr .u64 a), .agg (arr .u64 b)] w fun e w' => e = .returned (.agg (arr .u64 (addL a b))) ∧ Below w.heap.size w w' := by
  have HA := Lib.hid ha
  have HB := Lib.hid hb
  have HL := Lib.hid (addL_length ha hb)
  have HF := Lib.hid (fun i (h : i < 5) => addL_get ha hb h)
  have HW := Lib.hid (show ∀ z ∈ addL a b, (Lit.int .u64 z).wf = true from fun z hz => wf_64 (by have := addL_bound hab hbb z hz; omega))
  have HAB := Lib.hid (fun i => getD_range (P := fun x => 0 ≤ x ∧ x < 9223372036854775808) hab (by omega) i)
  have HBB := Lib.hid (fun i => getD_range (P := fun x => 0 ≤ x ∧ x < 9223372036854775808) hbb (by omega) i)
  have haw : ∀ z ∈ a, (Lit.int .u64 z).wf = true := fun z hz => wf_64 (by have := hab z hz; omega)
  have hbw : ∀ z ∈ b, (Lit.int .u64 z).wf = true := fun z hz => wf_64 (by have := hbb z hz; omega)
  clear ha hb hab hbb
  go_enter Tryd.func59, Tryd.ntmps59
  go_wp2_with (first
    | (refine wpList_box_Row (w := w) rfl 102 _ rfl .u64 a rfl haw ?_; intro w1 r1 g1 z1)
    | (refine wpList_box_Row (w := w1) rfl 102 _ rfl .u64 b rfl hbw ?_; intro w2 r2 g2 z2)
    | (refine wpList_alloc_Row (w := w2) rfl 102 rfl .u64 5 zero_num ?_; intro w3 r3 g3 z3))
  obtain ⟨gb, hgb⟩ : ∃ g, w1.heap.size = g := ⟨_, rfl⟩
  obtain ⟨gr, hgr⟩ : ∃ g, w2.heap.size = g := ⟨_, rfl⟩
  have l1 := r1.lt
  have l2 := r2.lt
  have b3 : Below w.heap.size w w3 := (((Below.refl _ w).grown g1 (Nat.le_refl _) (by simp)).grown g2 g1.size (by simp)).grown g3 (by omega) (by simp)
  have p3 := (r1.grown g2 (by simp)).grown g3 (by simp)
  have q3 := r2.grown g3 (by simp)
  rw [hgb] at l1 l2 q3
  rw [hgr] at l2 r3
  rw [hgb, hgr]
  clear hgb hgr r1 r2 g1 g2 g3 z1 z2 z3
  go_loopw [6] (fun i wr => ∃ k : Nat, k ≤ 5 ∧ i = .int .i64 k ∧ Below w.heap.size w wr ∧ Row wr w.heap.size 102 .u64 (blend (addL a b) a k) ∧ Row wr gb 102 .u64 b ∧ Row wr gr 102 .u64 (List.replicate 5 0)) (fun i _ => 5 - (intOf i).toNat)
  case atStart => exact ⟨0, by omega, rfl, b3, by rw [blend_zero]; exact p3, q3, r3⟩
  case round =>
    clear b3 p3 q3 r3
    obtain ⟨k, hk, rfl, hbl, ar, br, er⟩ := hrel
    have hk0 : (0 : Int) ≤ (k : Int) := by omega
    by_cases hlt : k < 5
    · have hlt' : (k : Int) < 5 := by omega
      have hLen : (addL a b).length = a.length := by rw [HL.out, HA.out]
      have ca := ar.cell (i := k) (by rw [blend_length hLen, HA.out]; exact hlt)
      have cb := br.cell (i := k) (by rw [HB.out]; exact hlt)
      rw [blend_get hLen (by rw [HA.out]; exact hlt)] at ca
      have fa := ar.frozen k
      have HS := Lib.hid (show Row (wr.setCell ⟨w.heap.size, k, none⟩ (.int .u64 ((addL a b).getD k 0))) w.heap.size 102 .u64 (blend (addL a b) a (k + 1)) by
        rw [← blend_set hLen (by rw [HA.out]; exact hlt)]
        exact ar.set k (HW.out _ (by rw [List.getD_eq_getElem?_getD, List.getElem?_eq_getElem (by rw [HL.out]; exact hlt)]; exact List.getElem_mem _)))
      have HE := er.other (p := ⟨w.heap.size, k, none⟩) (by simp; omega) (.int .u64 ((addL a b).getD k 0))
      have HE2 := br.other (p := ⟨w.heap.size, k, none⟩) (by simp; omega) (.int .u64 ((addL a b).getD k 0))
      have ha := HAB.out k
      have hb := HBB.out k
      have HBL := Lib.hid (hbl.setCell (p := ⟨w.heap.size, k, none⟩) (by simp) (.int .u64 ((addL a b).getD k 0)))
      rw [HF.out k hlt] at HS HE HE2 HBL
      generalize a.getD k 0 = x at *
      generalize b.getD k 0 = y at *
      clear hLen ar br er hbl
      have hadd : IntKind.u64.wrap (x + y) = x + y := IntWalk.u64_in _ (by omega)
      go_wp2_with fail
      go_still_tail 8, (by kernel_rfl)
      change wpList _ _ _ _ _ wr.drew
      go_wp2_with fail
      go_roundw
      case rel => exact ⟨k + 1, by omega, by go_num, HBL.out.drew, HS.out, HE2, HE⟩
      case measure => simp [intOf]; omega
    · have hk5 : k = 5 := by omega
      subst hk5
      have hz : blend (addL a b) a 5 = addL a b := by
        have := blend_all (F := addL a b) (a := a) (by rw [HL.out, HA.out])
        rwa [HA.out] at this
      rw [hz] at ar
      clear hz hk0 hlt
      go_wp2_with (first
        | (refine wpList_load_Row (w := wr) rfl 102 _ rfl w.heap.size rfl 102 .u64 _ ar 5 23 Tryd.underlying102 info_num HL.out ?_)
        | (refine wpList_store_RowTo (w := wr) rfl 102 _ _ rfl gr rfl 102 .u64 _ (addL a b) rfl er 5 info_num HL.out (by simp) HW.out ?_; intro w8 q8 g8 z8))
      refine bodyPost_ret (results_Row rfl _ _ gr _ _ _ rfl q8 5 23 Tryd.underlying102 info_num HL.out) rfl ?_
      exact ⟨rfl, hbl.grown g8 hbl.size (fun r e => by cases e; omega)⟩
end Go.Proofs.YtjelacblnjbfgaaDoor.Po
namespace Go.Proofs.YtjelacblnjbfgaaDoor.Ae
open Go.RowKit Go.Shelf Mem Help Go.Proofs.YtjelacblnjbfgaaDoor.Sum Po
attribute [local irreducible] wpList wpListIn
theorem wpList_shr {P : Program} {ops : Array Oper} {rest : List Oper} {o : Oper} {a : Act} {w : World} {Q : Exit → Act → World → Prop} (hgd : o.guard = none) (t u : TypeId) (x y : Operand) (ho : o.op = .binOp .shr t x y u) (k k' : IntKind) (v r : Int) (n : Nat) (hx : a.eval x = .int k v) (hy : a.eval y = .int k' (n : Int)) (hn : n ≤ k.bits) (hr : v / 2 ^ n = r)
    (h : wpList P ops Q rest (a.put o.dst (.int k r)) w) : wpList P ops Q (o :: rest) a w := by
  refine wpList_plain hgd fun K hK => ?_
  unfold Oper.wp execOp
  simp [ho, hx, hy, Held.run_shr t k k' n hn hr]
  exact hK _ _ h
theorem digits_snoc (n : Int) {k : Nat} (hk : k < 8) : (digits n 8).take (k + 1) = (digits n 8).take k ++ [(digits n 8).getD k 0] := by
  rw [List.take_add_one, List.getD_eq_getElem?_getD, List.getElem?_eq_getElem (by rw [digits_length]; exact hk)]
  rfl
theorem digit_mem (n : Int) {k : Nat} (hk : k < 8) : (digits n 8).getD k 0 ∈ digits n 8 := by
  rw [List.getD_eq_getElem?_getD, List.getElem?_eq_getElem (by rw [digits_length]; exact hk)]
  exact List.getElem_mem _
theorem byte_at (n : Int) {k : Nat} (hk : k < 8) : n / 2 ^ (8 * k) % 256 = (digits n 8).getD k 0 := by
  rw [digits_get 8 n k hk, show (256 : Int) = 2 ^ 8 from rfl, ← Int.pow_mul]
theorem shifted_lt {n : Int} (h0 : 0 ≤ n) (hn : n < 72057594037927936) (k : Nat) : 0 ≤ n / 2 ^ (8 * k) ∧ n / 2 ^ (8 * k) < 72057594037927936 := by
  have hp : (0 : Int) < 2 ^ (8 * k) := Int.pow_pos (by omega)
  refine ⟨Int.ediv_nonneg h0 (by omega), Int.lt_of_le_of_lt (Int.ediv_le_self _ h0) hn⟩
def lenOf : Value → Nat | .slice _ m _ => m | _ => 0
end Go.Proofs.YtjelacblnjbfgaaDoor.Ae
namespace Go.Proofs.YtjelacblnjbfgaaDoor.Cha
open Go.RowKit Mem Help Go.Proofs.YtjelacblnjbfgaaDoor.Sum Cc
attribute [local irreducible] wpList wpListIn
theorem wf_byte {z : Int} (h : 0 ≤ z ∧ z ≤ 255) : (Lit.int .u8 z).wf = true := by simp [Lit.wf, IntKind.min, IntKind.max, IntKind.signed, IntKind.bits]; omega
theorem mask_p : ∀ p : Fin 32, (p.val &&& 31) = p.val := by decide +kernel
theorem lft_any (x : Int) (p : Nat) (w : World) (hx : R32 x) (hk : 1 ≤ p) (hk' : p ≤ 31) :
    Calls Tryd.prog 78 #[.int .u32 x, .int .i64 (p : Int)] w fun e w' => e = .returned (.int .u32 (lft x p)) ∧ w = w' := by
  have h2 : bits .and .u64 (p : Int) 31 = (p : Int) := by
    rw [u64_and _ _ (by omega) (by omega) (by omega) (by omega)]
    have e := mask_p ⟨p, by omega⟩
    simp only at e
    have e2 : (31 : Int).toNat = 31 := rfl
    rw [Int.toNat_natCast, e2, e]
  have e3 : 32 - (32 - p) = p := by omega
  have H : Hid (bits .or .u32 (x * 2 ^ p % 4294967296) (x / 2 ^ (32 - p)) = lft x p) := Lib.hid (by
    unfold lft rotI
    rw [e3]
    exact or_comm32 ⟨by omega, by omega⟩ (r32_shr hx (32 - p)))
  clear e3
  go_enter Tryd.func78, Tryd.ntmps78
  go_wp2
  go_ret
  exact ⟨ret_int H.out, rfl⟩
end Go.Proofs.YtjelacblnjbfgaaDoor.Cha
namespace Go.Proofs.YtjelacblnjbfgaaDoor.Cha
open Go.RowKit Mem Help Go.Proofs.YtjelacblnjbfgaaDoor.Sum Cc
attribute [local irreducible] wpList wpListIn
theorem lft_16 (x : Int) (w : World) (hx : R32 x) : Calls Tryd.prog 78 #[.int .u32 x, .int .i64 16] w fun e w' => e = .returned (.int .u32 (lft x 16)) ∧ w = w' := lft_any x 16 w hx (by omega) (by omega)
theorem lft_12 (x : Int) (w : World) (hx : R32 x) : Calls Tryd.prog 78 #[.int .u32 x, .int .i64 12] w fun e w' => e = .returned (.int .u32 (lft x 12)) ∧ w = w' := lft_any x 12 w hx (by omega) (by omega)
theorem lft_8 (x : Int) (w : World) (hx : R32 x) : Calls Tryd.prog 78 #[.int .u32 x, .int .i64 8] w fun e w' => e = .returned (.int .u32 (lft x 8)) ∧ w = w' := lft_any x 8 w hx (by omega) (by omega)
theorem lft_7 (x : Int) (w : World) (hx : R32 x) : Calls Tryd.prog 78 #[.int .u32 x, .int .i64 7] w fun e w' => e = .returned (.int .u32 (lft x 7)) ∧ w = w' := lft_any x 7 w hx (by omega) (by omega)
theorem results_tmp4 {fn : Func} {t u v x : Tmp} (h : fn.results = #[.tmp t, .tmp u, .tmp v, .tmp x]) (tmps : Array Value) (P : Program) (w : World) :
    (results fn tmps).run P w = .ok (.tuple #[tmps.getD t undef, tmps.getD u undef, tmps.getD v undef, tmps.getD x undef]) w := by
  simp [results, h]
theorem addI3 (a b c : Int) : (a + b + c) % 4294967296 = addI (addI a b) c := by unfold addI; omega
theorem quarter_any (a b c d : Int) (w : World) :
    Calls Tryd.prog 74 #[.int .u32 a, .int .u32 b, .int .u32 c, .int .u32 d] w fun e w' => e = .returned (.tuple #[.int .u32 (qr a b c d).1, .int .u32 (qr a b c d).2.1, .int .u32 (qr a b c d).2.2.1, .int .u32 (qr a b c d).2.2.2]) ∧ w = w' := by
  go_enter Tryd.func74, Tryd.ntmps74
  go_wp2_with fail
  refine (lft_16 _ _ (r32_bits _ _ _)).mono ?_
  rintro e w' ⟨rfl, rfl⟩
  go_wp2_with fail
  refine (lft_12 _ _ (r32_bits _ _ _)).mono ?_
  rintro e w' ⟨rfl, rfl⟩
  go_wp2_with fail
  refine (lft_8 _ _ (r32_bits _ _ _)).mono ?_
  rintro e w' ⟨rfl, rfl⟩
  go_wp2_with fail
  refine (lft_7 _ _ (r32_bits _ _ _)).mono ?_
  rintro e w' ⟨rfl, rfl⟩
  go_wp2_with fail
  refine bodyPost_ret (results_tmp4 rfl _ _ _) rfl ?_
  exact ⟨by simp only [addI3]; rfl, rfl⟩
end Go.Proofs.YtjelacblnjbfgaaDoor.Cha
namespace Go.Proofs.YtjelacblnjbfgaaDoor.Cha
open Go.RowKit Mem Help Go.Proofs.YtjelacblnjbfgaaDoor.Sum Cc
attribute [local irreducible] wpList wpListIn
def le4 (z0 z1 z2 z3 : Int) : Int := ((z3 * 256 + z2) * 256 + z1) * 256 + z0
theorem word_join {z0 z1 z2 z3 : Int} (h0 : 0 ≤ z0 ∧ z0 ≤ 255) (h1 : 0 ≤ z1 ∧ z1 ≤ 255) (h2 : 0 ≤ z2 ∧ z2 ≤ 255) (h3 : 0 ≤ z3 ∧ z3 ≤ 255) :
    bits .or .u32 (bits .or .u32 (bits .or .u32 z0 (z1 * 256)) (z2 * 65536)) (z3 * 16777216) = le4 z0 z1 z2 z3 := by
  have hw : ∀ n : Int, 0 ≤ n → n < 2 ^ 32 → IntKind.u32.wrap n = n := fun n h1 h2 => by rw [IntKind.wrap_u32]; omega
  rw [bits_join_low .u32 32 (by decide) hw 8 z0 (z1 * 256) (by omega) (by omega) (by omega) (by omega) (by omega) (by omega),
    bits_join_low .u32 32 (by decide) hw 16 (z0 + z1 * 256) (z2 * 65536) (by omega) (by omega) (by omega) (by omega) (by omega) (by omega),
    bits_join_low .u32 32 (by decide) hw 24 (z0 + z1 * 256 + z2 * 65536) (z3 * 16777216) (by omega) (by omega) (by omega) (by omega) (by omega) (by omega)]
  unfold le4
  omega
theorem word_any (g off n c : Nat) (B : Nat) (zs : List Int) (w : World) (h : Ints w .u8 B (some ⟨g, off, none⟩) n zs) (hn : n = 4) :
    Calls Tryd.prog 73 #[.slice (some ⟨g, off, none⟩) n c] w fun e w' => e = .returned (.int .u32 (le4 (zs.getD 0 0) (zs.getD 1 0) (zs.getD 2 0) (zs.getD 3 0))) ∧ Still w w' := by
  subst hn
  have b0 := wf_u8 (h.range (i := 0) (by omega))
  have b1 := wf_u8 (h.range (i := 1) (by omega))
  have b2 := wf_u8 (h.range (i := 2) (by omega))
  have b3 := wf_u8 (h.range (i := 3) (by omega))
  obtain ⟨_, _, e0, _, c0⟩ := h.at_ (i := 0) (by omega)
  cases e0
  obtain ⟨_, _, e0, _, c1⟩ := h.at_ (i := 1) (by omega)
  cases e0
  obtain ⟨_, _, e0, _, c2⟩ := h.at_ (i := 2) (by omega)
  cases e0
  obtain ⟨_, _, e0, _, c3⟩ := h.at_ (i := 3) (by omega)
  cases e0
  rw [Nat.add_zero] at c0
  have J := Lib.hid (word_join b0 b1 b2 b3)
  generalize zs.getD 0 0 = z0 at *
  generalize zs.getD 1 0 = z1 at *
  generalize zs.getD 2 0 = z2 at *
  generalize zs.getD 3 0 = z3 at *
  clear h
  go_enter Tryd.func73, Tryd.ntmps73
  go_wp2_with fail
  go_quiet (fail)
  go_wp2_with fail
  go_ret
  exact ⟨ret_int J.out, ⟨_, rfl⟩⟩
def put4 (zs : List Int) (off : Nat) (n : Int) : List Int := (((zs.set off (n % 256)).set (off + 1) (n / 256 % 256)).set (off + 2) (n / 65536 % 256)).set (off + 3) (n / 16777216 % 256)
theorem put_any (g off c : Nat) (ty : TypeId) (zs : List Int) (n : Int) (w : World) (h : Row w g ty .u8 zs) (hl : off + 4 ≤ zs.length) (hn : R32 n) :
    Calls Tryd.prog 68 #[.slice (some ⟨g, off, none⟩) 4 c, .int .u32 n] w fun e w' => (∃ v, e = .returned v) ∧ Row w' g ty .u8 (put4 zs off n) ∧ w.grownBy w' (some g) := by
  have c0 := h.cell (i := off) (by omega)
  have c1 := h.cell (i := off + 1) (by omega)
  have c2 := h.cell (i := off + 2) (by omega)
  have c3 := h.cell (i := off + 3) (by omega)
  have f0 := h.frozen off
  have f1 := h.frozen (off + 1)
  have f2 := h.frozen (off + 2)
  have f3 := h.frozen (off + 3)
  have H := Lib.hid (show Row ((((w.setCell ⟨g, off, none⟩ (.int .u8 (n % 256))).setCell ⟨g, off + 1, none⟩ (.int .u8 (n / 256 % 256))).setCell ⟨g, off + 2, none⟩ (.int .u8 (n / 65536 % 256))).setCell ⟨g, off + 3, none⟩ (.int .u8 (n / 16777216 % 256))) g ty .u8 (put4 zs off n) from
    (((h.set off (wf_byte ⟨by omega, by omega⟩)).set _ (wf_byte ⟨by omega, by omega⟩)).set _ (wf_byte ⟨by omega, by omega⟩)).set _ (wf_byte ⟨by omega, by omega⟩))
  generalize zs.getD off 0 = z0 at *
  generalize zs.getD (off + 1) 0 = z1 at *
  generalize zs.getD (off + 2) 0 = z2 at *
  generalize zs.getD (off + 3) 0 = z3 at *
  clear h
  go_enter Tryd.func68, Tryd.ntmps68
  go_wp2_with fail
  go_end0
  exact ⟨⟨_, rfl⟩, H.out, Lib.grownBy_trans (Lib.grownBy_trans (Lib.grownBy_trans (grown_setCell w g _ _) (grown_setCell _ g _ _)) (grown_setCell _ g _ _)) (grown_setCell _ g _ _)⟩
theorem info_u32 : (Tryd.prog.info? 54).map (·.size) = some 1 := by kernel_rfl
theorem info_16 : (Tryd.prog.info? 121).map (·.size) = some 16 := by kernel_rfl
theorem zero_16 : (Tryd.prog.info? 121).bind (·.zero) = some (.agg (arr .u32 (List.replicate 16 0))) := by kernel_rfl
theorem wf_32 {x : Int} (h : R32 x) : (Lit.int .u32 x).wf = true := by
  unfold R32 at h
  simp [Lit.wf, IntKind.min, IntKind.max, IntKind.signed, IntKind.bits]
  omega
end Go.Proofs.YtjelacblnjbfgaaDoor.Cha
namespace Go.Proofs.YtjelacblnjbfgaaDoor.Cha
open Go.RowKit Go.Shelf Go.Proofs.YtjelacblnjbfgaaDoor Mem Help Go.Proofs.YtjelacblnjbfgaaDoor.Sum Cc Sha
attribute [local irreducible] wpList wpListIn
def Upto (F : List Int) (m : Nat) (zs : List Int) : Prop := zs.length = F.length ∧ ∀ i, i < m → zs.getD i 0 = F.getD i 0
theorem Upto.set {F zs : List Int} {m : Nat} (h : Upto F m zs) (hm : m < F.length) : Upto F (m + 1) (zs.set m (F.getD m 0)) := by
  refine ⟨by rw [List.length_set]; exact h.1, fun i hi => ?_⟩
  by_cases e : i = m
  · subst e
    simp [List.getD_eq_getElem?_getD, h.1, hm]
  · rw [← h.2 i (by omega)]
    simp only [List.getD_eq_getElem?_getD, List.getElem?_set]
    rw [if_neg (by omega)]
theorem Upto.eq {F zs : List Int} {m : Nat} (h : Upto F m zs) (hm : F.length ≤ m) : zs = F := list_eq h.1 fun i hi => h.2 i (by have := h.1; omega)
theorem first_key (key : List Int) (ctr : Int) (nonce : List Int) {t : Nat} (ht : t < 8) : (first key ctr nonce).getD (4 + t) 0 = lew key t := by
  simp only [first, List.getD_eq_getElem?_getD]
  rw [List.getElem?_append_right (by simp [sigma]), List.getElem?_append_left (by simp [sigma]; omega)]
  simp [sigma, ht]
theorem first_ctr (key : List Int) (ctr : Int) (nonce : List Int) : (first key ctr nonce).getD 12 0 = ctr := by
  simp only [first, List.getD_eq_getElem?_getD]
  rw [List.getElem?_append_right (by simp [sigma]), List.getElem?_append_right (by simp [sigma])]
  simp [sigma]
theorem first_nonce (key : List Int) (ctr : Int) (nonce : List Int) {t : Nat} (ht : t < 3) : (first key ctr nonce).getD (13 + t) 0 = lew nonce t := by
  simp only [first, List.getD_eq_getElem?_getD]
  rw [List.getElem?_append_right (by simp [sigma]; omega), List.getElem?_append_right (by simp [sigma]; omega)]
  have e : 13 + t - sigma.length - (List.map (lew key) (List.range 8)).length = t + 1 := by simp [sigma]; omega
  rw [e]
  simp [ht]
theorem first_sigma (key : List Int) (ctr : Int) (nonce : List Int) : Upto (first key ctr nonce) 4 (laidOver (List.replicate 16 0) 0 sigma) := by
  refine ⟨by rw [laidOver_length _ _ _ (by simp [sigma]), first_length]; simp, fun i hi => ?_⟩
  rw [laidOver_get _ _ _ (by simp [sigma]), if_pos ⟨by omega, by simpa [sigma] using hi⟩]
  simp only [first, List.getD_eq_getElem?_getD]
  rw [List.getElem?_append_left (by simpa [sigma] using hi)]
  rfl
theorem lew_of (xs : List Int) {l : Nat} (t : Nat) (h : 4 * t + 4 ≤ l) (hl : xs.length = l) : le4 (((xs.drop (4 * t)).take 4).getD 0 0) (((xs.drop (4 * t)).take 4).getD 1 0) (((xs.drop (4 * t)).take 4).getD 2 0) (((xs.drop (4 * t)).take 4).getD 3 0) = lew xs t := by
  have e : ∀ j, j < 4 → ((xs.drop (4 * t)).take 4).getD j 0 = xs.getD (4 * t + j) 0 := fun j hj => by
    simp [List.getD_eq_getElem?_getD, List.getElem?_drop, hj]
  rw [e 0 (by omega), e 1 (by omega), e 2 (by omega), e 3 (by omega)]
  rfl
theorem bs_wf {zs : List Int} (h : Bs zs) : ∀ z ∈ zs, (Lit.int .u8 z).wf = true := fun z hz => wf_byte (h z hz)
theorem Tab.ints {w : World} {g : Nat} {zs : List Int} (h : Tab w g zs) (hz : ∀ z ∈ zs, (Lit.int .u32 z).wf = true) : Ints w .u32 w.heap.size (some ⟨g, 0, none⟩) zs.length zs :=
  ⟨rfl, hz, fun _ => ⟨g, 0, rfl, h.lt, fun i hi => by rw [Nat.zero_add]; exact h.cell hi⟩⟩
theorem sigma_wf : ∀ z ∈ sigma, (Lit.int .u32 z).wf = true := by decide
set_option maxRecDepth 100000 in
set_option maxHeartbeats 1000000 in
theorem state_any (key nonce : List Int) (ctr : Int) (w : World) (hk : key.length = 32) (hkb : Bs key) (hn : nonce.length = 12) (hnb : Bs nonce) (hc : R32 ctr) (hT : Tab w 1 sigma) :
    Calls Tryd.prog 66 #[.agg (arr .u8 key), .int .u32 ctr, .agg (arr .u8 nonce)] w fun e w' => e = .returned (.agg (arr .u32 (first key ctr nonce))) ∧ Below w.heap.size w w' := by
  have zero_16 : (Tryd.prog.info? 121).bind (·.zero) = some (.agg (arr .u32 (List.replicate 16 0))) := by kernel_rfl
  have HK := Lib.hid hk
  have HN := Lib.hid hn
  clear hk hn
  have FK := Lib.hid (fun t (ht : t < 8) => first_key key ctr nonce ht)
  have FC := Lib.hid (first_ctr key ctr nonce)
  have FN := Lib.hid (fun t (ht : t < 3) => first_nonce key ctr nonce ht)
  have FL := Lib.hid (first_length key ctr nonce)
  have FS := Lib.hid (sixteen_first hkb hnb hc)
  have LK := Lib.hid (fun t (ht : 4 * t + 4 ≤ 32) => lew_of key t ht HK.out)
  have LN := Lib.hid (fun t (ht : 4 * t + 4 ≤ 12) => lew_of nonce t ht HN.out)
  have RK := Lib.hid (fun t => r32_lew hkb t)
  have RN := Lib.hid (fun t => r32_lew hnb t)
  obtain ⟨F, hF⟩ : ∃ F, first key ctr nonce = F := ⟨_, rfl⟩
  have u4 := first_sigma key ctr nonce
  rw [hF] at u4 FC FL FS
  simp only [hF] at FK FN
  have HF := Lib.hid hF
  clear hF
  go_enter Tryd.func66, Tryd.ntmps66
  go_wp2_with (first
    | (refine wpList_box_Row (w := w) rfl 22 _ rfl .u8 key rfl (bs_wf hkb) ?_; intro w1 r1 g1 z1)
    | (refine wpList_box_Row (w := w1) rfl 41 _ rfl .u8 nonce rfl (bs_wf hnb) ?_; intro w2 r2 g2 z2)
    | (refine wpList_alloc_Row (w := w2) rfl 121 rfl .u32 16 zero_16 ?_; intro w3 r3 g3 z3)
    | (refine wpList_alloc_Row (w := w3) rfl 121 rfl .u32 16 zero_16 ?_; intro w4 r4 g4 z4))
  obtain ⟨gn, hgn⟩ : ∃ g, w1.heap.size = g := ⟨_, rfl⟩
  obtain ⟨gr, hgr⟩ : ∃ g, w2.heap.size = g := ⟨_, rfl⟩
  obtain ⟨gs, hgs⟩ : ∃ g, w3.heap.size = g := ⟨_, rfl⟩
  have l1 := r1.lt
  have l2 := r2.lt
  have l3 := r3.lt
  have b4 : Below w.heap.size w w4 := ((((Below.refl _ w).grown g1 (Nat.le_refl _) (by simp)).grown g2 g1.size (by simp)).grown g3 (by omega) (by simp)).grown g4 (by omega) (by simp)
  have k4 := ((r1.grown g2 (by simp)).grown g3 (by simp)).grown g4 (by simp)
  have n4 := (r2.grown g3 (by simp)).grown g4 (by simp)
  have e4 := r3.grown g4 (by simp)
  rw [hgn] at l1 l2 n4
  rw [hgr] at l2 l3 e4
  rw [hgs] at l3 r4
  rw [hgn, hgr, hgs]
  clear hgn hgr hgs r1 r2 r3 g1 g2 g3 g4 z1 z2 z3 z4
  have hT4 := hT.below b4 hT.lt
  have iT := Tab.ints hT4 sigma_wf
  simp only [Act.put, Z1, Z2, Z3]
  refine wp_region_held (S := fun _ => True) (by kernel_rfl) ?_
  change wpAnyH _ _ _ _ _ _ _ _ w4.drew
  have c0 : True := trivial
  refine Held.tk (v := .slice (some ⟨gs, 0, none⟩) 16 16) 0 (some 10) rfl (Held.y_slice rfl (fun W => run_slice_arr_all (P := Tryd.prog) 121 54 16 gs W Tryd.underlying121 (by kernel_rfl) (by omega))) c0 ?_
  simp only [Act.put, Z1, Z2, Z3]
  refine Held.tk (v := .slice (some ⟨1, 0, none⟩) 4 4) 1 (some 11) rfl (Held.y_slice rfl (fun W => run_slice_arr_all (P := Tryd.prog) 131 54 4 1 W Tryd.underlying131 (by kernel_rfl) (by omega))) c0 ?_
  simp only [Act.put, Z1, Z2, Z3]
  refine Held.one 2 (by kernel_rfl) ?_
  refine Held.op_copy_Row 2 (some 12) 130 130 rfl rfl rfl rfl 54 Tryd.underlying130 info_u32 gs 0 16 16 w4.heap.size (some ⟨1, 0, none⟩) 4 4 rfl rfl 121 .u32 _ sigma r4 iT (by simp) ?_
  intro w5 r5 g5'
  have g5 : w4.grownBy w5 (some gs) := ⟨g5'.os, g5'.tape, g5'.output, g5'.size, g5'.block⟩
  clear g5'
  rw [List.take_of_length_le (by simp [sigma])] at r5
  refine ⟨trivial, ?_⟩
  simp only [Act.put, Z1, Z2, Z3]
  refine wpAnyH_done (by kernel_rfl) ?_ _
  rw [show ((min 4 16 : Nat) : Int) = 4 from rfl]
  have b5 : Below w.heap.size w w5 := b4.grown g5 b4.size (fun r e => by cases e; omega)
  have k5 := k4.grown g5 (by intro e; injection e with e; omega)
  have n5 := n4.grown g5 (by intro e; injection e with e; omega)
  have e5 := e4.grown g5 (by intro e; injection e with e; omega)
  obtain ⟨z5, hz5⟩ : ∃ z, laidOver (List.replicate 16 0) 0 sigma = z := ⟨_, rfl⟩
  rw [hz5] at r5 u4
  clear hz5 b4 k4 n4 e4 r4 g5 c0 iT hT4
  go_wp2_with fail
  go_loopw [13] (fun i wr => ∃ k : Nat, k ≤ 8 ∧ i = .int .i64 k ∧ Below w.heap.size w wr ∧ Row wr w.heap.size 22 .u8 key ∧ Row wr gn 41 .u8 nonce ∧ Row wr gr 121 .u32 (List.replicate 16 0) ∧ ∃ zs, Row wr gs 121 .u32 zs ∧ Upto F (4 + k) zs) (fun i _ => 8 - (intOf i).toNat)
  case atStart => exact ⟨0, by omega, rfl, b5, k5, n5, e5, z5, r5, u4⟩
  case round =>
    clear b5 k5 n5 e5 r5 u4
    obtain ⟨k, hk, rfl, hbl, kr, nr, er, zs, sr, hu⟩ := hrel
    have hk0 : (0 : Int) ≤ (k : Int) := by omega
    by_cases hlt : k < 8
    · have hlt' : (k : Int) < 8 := by omega
      have hsl : ∀ W, (Instr.sliceAt 22 (.pointer (some ⟨w.heap.size, 0, none⟩)) (some (.int .i64 (4 * (k : Int)))) (some (.int .i64 (4 * (k : Int) + 4))) none).run Tryd.prog W = .ok (.slice (some ⟨w.heap.size, 4 * k, none⟩) 4 (32 - 4 * k)) W := fun W => by
        have := run_slice_arr_lh (P := Tryd.prog) 22 5 32 w.heap.size (4 * k) (4 * k + 4) W Tryd.underlying22 (by kernel_rfl) (by omega) (by omega) (by omega)
        rw [show 4 * k + 4 - 4 * k = 4 by omega] at this
        exact this
      have ik := kr.mid (l := 4 * k) (m := 4) (by rw [HK.out]; omega)
      go_wp2_with fail
      refine (word_any w.heap.size (4 * k) 4 (32 - 4 * k) _ _ wr ik rfl).mono ?_
      rintro e w6 ⟨rfl, st⟩
      rw [LK.out k (by omega), ← FK.out k hlt]
      have kr6 := kr.below (st.below _) kr.lt
      have nr6 := nr.below (st.below _) nr.lt
      have er6 := er.below (st.below _) er.lt
      have sr6 := sr.below (st.below _) sr.lt
      have hb6 := hbl.trans (st.below _)
      have HU := Lib.hid (hu.set (by rw [FL.out]; omega))
      have hr32 : R32 (F.getD (4 + k) 0) := FS.out.get (by omega)
      have HZ := Lib.hid hu.1
      clear ik hsl hbl kr nr er sr
      generalize F.getD (4 + k) 0 = x at *
      go_wp2_with (refine wpList_store_elem (w := w6) rfl 54 _ _ rfl gs (4 + k) rfl 121 .u32 _ _ rfl sr6 (by rw [HZ.out, FL.out]; omega) info_u32 (wf_32 hr32) ?_; intro w7 q7 g7 z7)
      go_roundw
      case rel => exact ⟨k + 1, by omega, by go_num, hb6.grown g7 hb6.size (fun r e => by cases e; omega), kr6.grown g7 (by intro e; injection e with e; omega), nr6.grown g7 (by intro e; injection e with e; omega), er6.grown g7 (by intro e; injection e with e; omega), _, q7, HU.out⟩
      case measure => simp [intOf]; omega
    · have hk8 : k = 8 := by omega
      subst hk8
      have HU := Lib.hid (hu.set (by rw [FL.out]; omega))
      have HZ := Lib.hid hu.1
      rw [FC.out] at HU
      go_wp2_with (refine wpList_store_elem (w := wr) rfl 54 _ _ rfl gs 12 rfl 121 .u32 _ _ rfl sr (by rw [HZ.out, FL.out]; omega) info_u32 (wf_32 hc) ?_; intro w6 sr6 g6 z6)
      have hb6 := hbl.grown g6 hbl.size (fun r e => by cases e; omega)
      have nr6 := nr.grown g6 (by intro e; injection e with e; omega)
      have er6 := er.grown g6 (by intro e; injection e with e; omega)
      have hu6 := HU.out
      clear hbl kr nr er sr g6 z6 hu hk0
      go_loopw [29] (fun i wr => ∃ k : Nat, k ≤ 3 ∧ i = .int .i64 k ∧ Below w.heap.size w wr ∧ Row wr gn 41 .u8 nonce ∧ Row wr gr 121 .u32 (List.replicate 16 0) ∧ ∃ zs, Row wr gs 121 .u32 zs ∧ Upto F (13 + k) zs) (fun i _ => 3 - (intOf i).toNat)
      case atStart => exact ⟨0, by omega, rfl, hb6, nr6, er6, _, sr6, hu6⟩
      case round =>
        clear hb6 nr6 er6 sr6 hu6 HU HZ
        obtain ⟨k, hk, rfl, hbl, nr, er, zs, sr, hu⟩ := hrel
        have hk0 : (0 : Int) ≤ (k : Int) := by omega
        by_cases hlt : k < 3
        · have hlt' : (k : Int) < 3 := by omega
          have hsl : ∀ W, (Instr.sliceAt 41 (.pointer (some ⟨gn, 0, none⟩)) (some (.int .i64 (4 * (k : Int)))) (some (.int .i64 (4 * (k : Int) + 4))) none).run Tryd.prog W = .ok (.slice (some ⟨gn, 4 * k, none⟩) 4 (12 - 4 * k)) W := fun W => by
            have := run_slice_arr_lh (P := Tryd.prog) 41 5 12 gn (4 * k) (4 * k + 4) W Tryd.underlying41 (by kernel_rfl) (by omega) (by omega) (by omega)
            rw [show 4 * k + 4 - 4 * k = 4 by omega] at this
            exact this
          have ik := nr.mid (l := 4 * k) (m := 4) (by rw [HN.out]; omega)
          go_wp2_with fail
          refine (word_any gn (4 * k) 4 (12 - 4 * k) _ _ wr ik rfl).mono ?_
          rintro e w6 ⟨rfl, st⟩
          rw [LN.out k (by omega), ← FN.out k hlt]
          have nr6 := nr.below (st.below _) nr.lt
          have er6 := er.below (st.below _) er.lt
          have sr6 := sr.below (st.below _) sr.lt
          have hb6 := hbl.trans (st.below _)
          have HU := Lib.hid (hu.set (by rw [FL.out]; omega))
          have hr32 : R32 (F.getD (13 + k) 0) := FS.out.get (by omega)
          have HZ := Lib.hid hu.1
          clear ik hsl hbl nr er sr
          generalize F.getD (13 + k) 0 = x at *
          go_wp2_with (refine wpList_store_elem (w := w6) rfl 54 _ _ rfl gs (13 + k) rfl 121 .u32 _ _ rfl sr6 (by rw [HZ.out, FL.out]; omega) info_u32 (wf_32 hr32) ?_; intro w7 q7 g7 z7)
          go_roundw
          case rel => exact ⟨k + 1, by omega, by go_num, hb6.grown g7 hb6.size (fun r e => by cases e; omega), nr6.grown g7 (by intro e; injection e with e; omega), er6.grown g7 (by intro e; injection e with e; omega), _, q7, HU.out⟩
          case measure => simp [intOf]; omega
        · have hk3 : k = 3 := by omega
          subst hk3
          have hz := hu.eq (by rw [FL.out]; omega)
          subst hz
          go_wp2_with (first
            | (refine wpList_load_Row (w := wr) rfl 121 _ rfl gs rfl 121 .u32 _ sr 16 54 Tryd.underlying121 info_16 FL.out ?_)
            | (refine wpList_store_RowTo (w := wr) rfl 121 _ _ rfl gr rfl 121 .u32 _ zs rfl er 16 info_16 FL.out (by simp) (fun z hz => wf_32 (FS.out.2 z hz)) ?_; intro w8 q8 g8 z8))
          refine bodyPost_ret (results_Row rfl _ _ gr _ _ _ rfl q8 16 54 Tryd.underlying121 info_16 FL.out) rfl ?_
          exact ⟨by rw [HF.out], hbl.grown g8 hbl.size (fun r e => by cases e; omega)⟩
end Go.Proofs.YtjelacblnjbfgaaDoor.Cha
