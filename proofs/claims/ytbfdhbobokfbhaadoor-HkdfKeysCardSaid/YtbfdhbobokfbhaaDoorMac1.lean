/-
  HMAC as a plain function; the functions fitted and keyed of package mac's beginnings. Conditions: keys of at most 2^40 bytes; the two tables of package sha lie where the program's text lays them.
-/
import Derived.Test.YtbfdhbobokfbhaaDoorSumB
import Derived.Test.YtbfdhbobokfbhaaDoorCopy
import Derived.Test.YtbfdhbobokfbhaaDoorIn
namespace Go.Proofs.YtbfdhbobokfbhaaDoor.Mac
open Go.RowKit Go.Proofs.YtbfdhbobokfbhaaDoor.Mem Go.Proofs.YtbfdhbobokfbhaaDoor.Help Go.Proofs.YtbfdhbobokfbhaaDoor.Sum Go.Proofs.YtbfdhbobokfbhaaDoor.Sha
set_option linter.unusedVariables false

/-- a key that is too long goes by its sum -/
def fit (key : List Int) : List Int := if 64 < key.length then Sum.sha key else key
/-- the key as a block, with zeros behind it -/
def blk (key : List Int) : List Int := fit key ++ List.replicate (64 - (fit key).length) 0
def flip (t x : Int) : Int := bits .xor .u8 x t
def turned (t : Int) (zs : List Int) : List Int := zs.map (flip t)
/-- HMAC -/
def tag (key msg : List Int) : List Int := Sum.sha (turned 92 (blk key) ++ Sum.sha (turned 54 (blk key) ++ msg))

theorem sha_length (zs : List Int) : (Sum.sha zs).length = 32 := out_length _
theorem sha_bytes (zs : List Int) : Bs (Sum.sha zs) := out_bytes _
theorem fit_length (key : List Int) : (fit key).length ≤ 64 := by
  unfold fit
  split
  · rw [sha_length]; omega
  · omega
theorem blk_length (key : List Int) : (blk key).length = 64 := by have := fit_length key; simp [blk]; omega
theorem wf_of_byte {z : Int} (h : 0 ≤ z ∧ z ≤ 255) : (Lit.int .u8 z).wf = true := by simp [Lit.wf, IntKind.min, IntKind.max, IntKind.signed, IntKind.bits]; omega
theorem fit_bytes {key : List Int} (h : Bs key) : Bs (fit key) := by
  unfold fit
  split
  · exact sha_bytes _
  · exact h
theorem blk_bytes {key : List Int} (h : Bs key) : Bs (blk key) := fun z hz => by
  rcases List.mem_append.1 hz with h1 | h1
  · exact fit_bytes h z h1
  · rw [List.eq_of_mem_replicate h1]; omega
theorem flip_wf (t x : Int) : (Lit.int .u8 (flip t x)).wf = true := wf_bits _ _ _ _
theorem turned_length (t : Int) (zs : List Int) : (turned t zs).length = zs.length := by simp [turned]
theorem turned_wf (t : Int) (zs : List Int) : ∀ z ∈ turned t zs, (Lit.int .u8 z).wf = true := fun z hz => by
  obtain ⟨x, _, rfl⟩ := List.mem_map.1 hz
  exact flip_wf _ _
theorem turned_bytes (t : Int) (zs : List Int) : Bs (turned t zs) := fun z hz => wf_u8 (turned_wf t zs z hz)
theorem tag_length (key msg : List Int) : (tag key msg).length = 32 := sha_length _
theorem tag_bytes (key msg : List Int) : Bs (tag key msg) := sha_bytes _

/-- the first k turned -/
def part (t : Int) (zs : List Int) (k : Nat) : List Int := turned t (zs.take k) ++ zs.drop k
theorem part_start (t : Int) (zs : List Int) : part t zs 0 = zs := by simp [part, turned]
theorem part_end (t : Int) (zs : List Int) {k : Nat} (h : zs.length ≤ k) : part t zs k = turned t zs := by simp [part, List.take_of_length_le h, List.drop_of_length_le h]
theorem part_get (t : Int) (zs : List Int) {k : Nat} (h : k < zs.length) : (part t zs k).getD k 0 = zs.getD k 0 := by
  have hl : (turned t (zs.take k)).length = k := by rw [turned_length, List.length_take]; omega
  rw [part, List.getD_eq_getElem?_getD, List.getElem?_append_right (by omega), hl, List.getElem?_drop]
  simp [List.getD_eq_getElem?_getD]
theorem part_set (t : Int) (zs : List Int) {k : Nat} (h : k < zs.length) : (part t zs k).set k (flip t (zs.getD k 0)) = part t zs (k + 1) := by
  have hl : (turned t (zs.take k)).length = k := by rw [turned_length, List.length_take]; omega
  unfold part
  rw [List.set_append_right _ _ (by omega), hl, Nat.sub_self, List.drop_eq_getElem_cons h, List.set_cons_zero, List.take_succ_eq_append_getElem h]
  rw [show turned t (zs.take k ++ [zs[k]]) = turned t (zs.take k) ++ [flip t zs[k]] by rw [turned, List.map_append]; rfl, List.append_assoc, List.getD_eq_getElem?_getD, List.getElem?_eq_getElem h]
  rfl

theorem info_64m : (Tryd.prog.info? 44).map (·.size) = some 64 := by kernel_rfl
theorem fit_over {key : List Int} : laidOver (List.replicate 64 0) 0 (fit key) = blk key := by
  rw [laidOver, List.take_zero, List.nil_append, Nat.zero_add, List.drop_replicate, blk]

theorem zero_64 : (Tryd.prog.info? 44).bind (·.zero) = some (.agg (arr .u8 (List.replicate 64 0))) := by kernel_rfl
theorem zero_32 : (Tryd.prog.info? 25).bind (·.zero) = some (.agg (arr .u8 (List.replicate 32 0))) := by kernel_rfl

set_option maxRecDepth 100000 in
set_option maxHeartbeats 4000000 in
theorem fitted_any (B : Nat) (A : Option Addr) (n c : Nat) (zs : List Int) (w : World) (h : Ints w .u8 B A n zs) (hB : B ≤ w.heap.size) (hc : n ≤ c) (hc' : c ≤ maxLen) (hn : n ≤ 1099511627776)
    (hT0 : Tab w 0 Sum.H0) (hT1 : Tab w 1 Sum.K) :
    Calls Tryd.prog 22 #[.slice A n c] w fun e w' => e = .returned (.agg (arr .u8 (blk zs))) ∧ Below w.heap.size w w' := by
  have hL := h.1
  have hsl32 := fun W g => run_slice_arr_all (P := Tryd.prog) 25 5 32 g W Tryd.underlying25 (by kernel_rfl) (by omega)
  have hsl64 := fun W g => run_slice_arr_all (P := Tryd.prog) 44 5 64 g W Tryd.underlying44 (by kernel_rfl) (by omega)
  have HB := Lib.hid (blk_length zs)
  by_cases hbig : 64 < n
  · have hbig' : (64 : Int) < (n : Int) := by omega
    have hfit : fit zs = Sum.sha zs := by unfold fit; rw [if_pos (by omega)]
    have HF := Lib.hid hfit
    clear hL hfit
    go_enter Tryd.func22, Tryd.ntmps22
    go_wp2_with (refine wpList_alloc_Row rfl 44 rfl .u8 64 zero_64 ?_; intro w0 r0 g0 z0)
    have b0 : Below w.heap.size w w0 := (Below.refl _ w).grown g0 (Nat.le_refl _) (by simp)
    have s0 : w.heap.size < w0.heap.size := r0.lt
    refine (sum_one _ B A n _ c zs (h.below (b0.mono hB)) (by omega) hc hc' hn (hT0.below b0 hT0.lt) (hT1.below b0 hT1.lt)).mono ?_
    rintro e w1 ⟨rfl, hb1⟩
    have b1 := b0.trans (hb1.mono (by omega))
    have s1 := hb1.size
    have r1 := r0.below hb1 (by omega)
    clear hb1 b0 hT0 hT1 h
    go_wp2_with (first
      | (refine wpList_alloc_Row rfl 25 rfl .u8 32 zero_32 ?_; intro w2 r2 g2 z2)
      | (refine wpList_store_RowTo rfl 25 _ _ rfl w1.heap.size rfl 25 .u8 _ (Sum.sha zs) rfl r2 32 info_32 (sha_length _) (by simp) (fun z hz => wf_of_byte (sha_bytes _ z hz)) ?_; intro wX r3 g3 z3; have iX := r3.ints (n := 32) (by rw [sha_length]; omega); rw [List.take_of_length_le (by rw [sha_length]; omega), ← HF.out] at iX; have rX := (r1.grown g2 (by simp)).grown g3 (by intro e; injection e with e; omega); have lX := rX.lt)
      | (refine wpList_alloc_Row rfl 44 rfl .u8 64 zero_64 ?_; intro w5 r5 g5 z5; have jX := iX.keep (w' := w5) fun p hp => World.cell?_of_block (g5.block _ hp (by simp)); have r5X := rX.grown g5 (by simp))
      | (refine wpList_copy_Row rfl _ _ 22 22 rfl 5 Tryd.underlying22 (by kernel_rfl) wX.heap.size 0 64 64 wX.heap.size (some ⟨w1.heap.size, 0, none⟩) 32 32 rfl rfl 44 .u8 _ (fit zs) r5 jX (by simp) ?_; intro w6 r6 g6 z6; rw [List.take_of_length_le (by rw [iX.1]; omega), fit_over] at r6; have r6X := r5X.grown g6 (by intro e; injection e with e; omega))
      | (refine wpList_load_Row rfl 44 _ rfl wX.heap.size rfl 44 .u8 _ r6 64 5 Tryd.underlying44 info_64m HB.out ?_)
      | (refine wpList_store_RowTo rfl 44 _ _ rfl w.heap.size rfl 44 .u8 _ (blk zs) rfl r6X 64 info_64m HB.out (by simp) r6.1 ?_; intro w7 r7 g7 z7))
    have bX : Below w.heap.size w wX := (b1.grown g2 b1.size (by simp)).grown g3 (by have := g2.size; omega) (fun r e => by cases e; omega)
    have b7 : Below w.heap.size w w7 := ((bX.grown g5 bX.size (by simp)).grown g6 (by have := g5.size; omega) (fun r e => by cases e; omega)).grown g7 (by have := g5.size; have := g6.size; omega) (fun r e => by cases e; omega)
    exact bodyPost_ret (results_Row rfl _ _ w.heap.size _ _ _ rfl r7 64 5 Tryd.underlying44 info_64m HB.out) rfl ⟨rfl, b7⟩
  · have hbig' : ¬ (64 : Int) < (n : Int) := by omega
    have hfit : fit zs = zs := by unfold fit; rw [if_neg (by omega)]
    have HF := Lib.hid hfit
    clear hL hfit
    go_enter Tryd.func22, Tryd.ntmps22
    go_wp2_with (first
      | (refine wpList_alloc_Row (w := w) rfl 44 rfl .u8 64 zero_64 ?_; intro wX rX gX zX; have lX := rX.lt; have iX := h.keep (w' := wX) fun p hp => World.cell?_of_block (gX.block _ (by omega) (by simp)))
      | (refine wpList_alloc_Row (w := wX) rfl 44 rfl .u8 64 zero_64 ?_; intro w5 r5 g5 z5; have jX := iX.keep (w' := w5) fun p hp => World.cell?_of_block (g5.block _ (by omega) (by simp)); have r5X := rX.grown g5 (by simp))
      | (refine wpList_copy_Row rfl _ _ 22 22 rfl 5 Tryd.underlying22 (by kernel_rfl) wX.heap.size 0 64 64 B A n c rfl rfl 44 .u8 _ zs r5 jX (by simp) ?_; intro w6 r6 g6 z6; rw [List.take_of_length_le (by rw [h.1]; omega), ← HF.out, fit_over] at r6; have r6X := r5X.grown g6 (by intro e; injection e with e; omega))
      | (refine wpList_load_Row rfl 44 _ rfl wX.heap.size rfl 44 .u8 _ r6 64 5 Tryd.underlying44 info_64m HB.out ?_)
      | (refine wpList_store_RowTo rfl 44 _ _ rfl w.heap.size rfl 44 .u8 _ (blk zs) rfl r6X 64 info_64m HB.out (by simp) r6.1 ?_; intro w7 r7 g7 z7))
    have bX : Below w.heap.size w wX := (Below.refl _ w).grown gX (Nat.le_refl _) (by simp)
    have b7 : Below w.heap.size w w7 := ((bX.grown g5 bX.size (by simp)).grown g6 (by have := g5.size; omega) (fun r e => by cases e; omega)).grown g7 (by have := g5.size; have := g6.size; omega) (fun r e => by cases e; omega)
    exact bodyPost_ret (results_Row rfl _ _ w.heap.size _ _ _ rfl r7 64 5 Tryd.underlying44 info_64m HB.out) rfl ⟨rfl, b7⟩
end Go.Proofs.YtbfdhbobokfbhaaDoor.Mac

