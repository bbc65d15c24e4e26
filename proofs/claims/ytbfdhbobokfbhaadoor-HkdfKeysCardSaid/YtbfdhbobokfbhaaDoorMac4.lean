/-
  The function Tag of package mac by its contract: HMAC of all parts, one behind the other. Conditions: at most 2^20 parts, of at most 2^39 bytes together; the two tables of package sha lie where the program's text lays them.
-/
import Derived.Test.YtbfdhbobokfbhaaDoorMac3
import Derived.Test.YtbfdhbobokfbhaaDoorHeld
namespace Go.Proofs.YtbfdhbobokfbhaaDoor.Mac
open Go.RowKit Go.Shelf Go.Proofs.YtbfdhbobokfbhaaDoor.Mem Go.Proofs.YtbfdhbobokfbhaaDoor.Help Go.Proofs.YtbfdhbobokfbhaaDoor.Sum Go.Proofs.YtbfdhbobokfbhaaDoor.Sha
set_option linter.unusedVariables false

set_option maxRecDepth 100000 in
set_option maxHeartbeats 4000000 in
theorem tag_any (B B' : Nat) (A A' : Option Addr) (n c m c' : Nat) (zs : List Int) (vs : List Value) (xss : List (List Int)) (w : World) (hi : Ints w .u8 B A n zs) (hc : n ≤ c) (hc' : c ≤ maxLen) (hnn : n ≤ 1099511627776) (h : Vals w B' A' m vs) (ht : Texts w B' vs xss) (hB : B ≤ w.heap.size) (hB' : B' ≤ w.heap.size) (hm : m ≤ 1048576) (hn : xss.flatten.length ≤ 549755813888)
    (hT0 : Tab w 0 Sum.H0) (hT1 : Tab w 1 Sum.K) :
    Calls Tryd.prog 18 #[.slice A n c, .slice A' m c'] w fun e w' => e = .returned (.agg (arr .u8 (tag zs xss.flatten))) ∧ Below w.heap.size w w' := by
  have hzb : Bs zs := fun z hz => wf_u8 (hi.2.1 z hz)
  have HB := Lib.hid (blk_length zs)
  have HBB := Lib.hid (blk_bytes hzb)
  go_enter Tryd.func18, Tryd.ntmps18
  go_wp2_with (refine wpList_alloc_Row rfl 25 rfl .u8 32 zero_32 ?_; intro w0 r0 g0 z0)
  have b0 : Below w.heap.size w w0 := (Below.refl _ w).grown g0 (Nat.le_refl _) (by simp)
  have l0 := r0.lt
  refine (fitted_any B A n c zs _ (hi.below (b0.mono hB)) (by omega) hc hc' hnn (hT0.below b0 hT0.lt) (hT1.below b0 hT1.lt)).mono ?_
  rintro e w1 ⟨rfl, hb1⟩
  have b1 := b0.trans (hb1.mono b0.size)
  have r1 := r0.below hb1 l0
  have s1 := hb1.size
  have l1 := r1.lt
  clear hb1 r0 b0 g0 z0
  go_wp2_with (first
    | (refine wpList_alloc_Row (w := w1) rfl 44 rfl .u8 64 zero_64 ?_; intro w2 r2 g2 z2)
    | (refine wpList_store_RowTo (w := w2) rfl 44 _ _ rfl w1.heap.size rfl 44 .u8 _ (blk zs) rfl r2 64 info_64m HB.out (by simp) (fun z hz => wf_of_byte (HBB.out z hz)) ?_; intro w3 r3 g3 z3)
    | (refine wpList_load_Row rfl 44 _ rfl w1.heap.size rfl 44 .u8 _ r3 64 5 Tryd.underlying44 info_64m HB.out ?_))
  have b3 : Below w.heap.size w w3 := (b1.grown g2 b1.size (by simp)).grown g3 (by have := g2.size; have := b1.size; omega) (fun r e => by have := b1.size; cases e; omega)
  have r13 := (r1.grown g2 (by simp)).grown g3 (by intro e; injection e with e; omega)
  clear r1 r2 g2 g3 z2 z3 b1
  refine (keyed_any 54 (blk zs) B' A' m c' vs xss _ HB.out HBB.out (h.below (b3.mono hB')) (ht.below (b3.mono hB')) (by have := b3.size; omega) hm hn ht.bs (hT0.below b3 hT0.lt) (hT1.below b3 hT1.lt)).mono ?_
  rintro e w4 ⟨rfl, hb4⟩
  have b4 := b3.trans (hb4.mono b3.size)
  have q0 := r13.below hb4 r13.lt
  have q5 := r3.below hb4 r3.lt
  have l5 := r3.lt
  obtain ⟨msg, hmsg⟩ : ∃ msg, Sum.sha (turned 54 (blk zs) ++ xss.flatten) = msg := ⟨_, rfl⟩
  have hml : msg.length = 32 := by rw [← hmsg]; exact sha_length _
  have hmb : Bs msg := by rw [← hmsg]; exact sha_bytes _
  rw [hmsg]
  have HTG := Lib.hid (show tag zs xss.flatten = Sum.sha (turned 92 (blk zs) ++ msg) by unfold tag; rw [hmsg])
  have HML := Lib.hid hml
  have hs4 := hb4.size
  clear r13 r3 b3 hb4 hmsg hml
  go_wp2_with (first
    | (refine wpList_alloc_Row (w := w4) rfl 25 rfl .u8 32 zero_32 ?_; intro w5 r5 g5 z5)
    | (refine wpList_store_RowTo (w := w5) rfl 25 _ _ rfl w4.heap.size rfl 25 .u8 _ msg rfl r5 32 info_32 HML.out (by simp) (fun z hz => wf_of_byte (hmb z hz)) ?_; intro w6 r6 g6 z6))
  have b6 : Below w.heap.size w w6 := (b4.grown g5 b4.size (by simp)).grown g6 (by have := g5.size; have := b4.size; omega) (fun r e => by have := b4.size; cases e; omega)
  have p0 := (q0.grown g5 (by simp)).grown g6 (by intro e; injection e with e; omega)
  have p5 := (q5.grown g5 (by simp)).grown g6 (by intro e; injection e with e; omega)
  have l4 := r6.lt
  have l6 := p0.lt
  have l56 := p5.lt
  clear q0 q5 r5 g5 g6 z5 z6 b4 hs4
  refine wp_region_held (S := fun w' => Row w' w1.heap.size 44 .u8 (blk zs)) (by kernel_rfl) ?_
  refine Held.take 0 (some 12) rfl rfl (by kernel_rfl) (by kernel_rfl) (by kernel_rfl) (fun _ _ _ h => h) rfl (Held.y_load_Row (t := 44) (zs := blk zs) rfl rfl Tryd.underlying44 info_64m HB.out (fun w h => h)) p5 ?_
  simp only [Act.put, List.setIfInBounds_toArray, List.set_cons_zero, List.set_cons_succ]
  refine Held.take 1 (some 13) rfl rfl (by kernel_rfl) (by kernel_rfl) (by kernel_rfl) (fun _ _ _ h => h) rfl (Held.y_slice rfl (fun w => run_slice_arr_all (P := Tryd.prog) 25 5 32 w4.heap.size w Tryd.underlying25 (by kernel_rfl) (by omega))) p5 ?_
  simp only [Act.put, List.setIfInBounds_toArray, List.set_cons_zero, List.set_cons_succ]
  change wpAnyH _ _ _ _ _ _ _ _ w6.drew
  have b6d : Below w.heap.size w w6.drew := b6.drew
  have rD : Row w6.drew w4.heap.size 25 .u8 msg := r6
  have pA : Row w6.drew w.heap.size 25 .u8 (List.replicate 32 0) := p0
  have pB : Row w6.drew w1.heap.size 44 .u8 (blk zs) := p5
  refine Held.one 2 (by kernel_rfl) ?_
  refine Held.op_build 2 (some 14) 43 22 1 (.slice none 0 0) 24 [.slice (some ⟨w4.heap.size, 0, none⟩) 32 32] rfl rfl rfl rfl Tryd.underlying43 info_bytes (by simp [Act.eval]) (by simp [Value.cells]) (by simp [Value.oneCell']) rfl (by omega) (by omega) ?_
  intro p wA n1 hbA
  have bA := b6d.trans (hbA.mono b6d.size)
  have rA := rD.below hbA rD.lt
  have pA1 := pA.below hbA pA.lt
  have pB1 := pB.below hbA pB.lt
  have i6 := rA.ints (n := 32) (by rw [HML.out]; omega)
  rw [List.take_of_length_le (by rw [HML.out]; omega)] at i6
  have t1 := Texts.one i6 (Nat.le_refl 32) (by simp [maxLen])
  refine ⟨pB1, ?_⟩
  simp only [Act.put, List.setIfInBounds_toArray, List.set_cons_zero, List.set_cons_succ]
  refine Held.one 3 (by kernel_rfl) ?_
  refine Held.op_call 3 (some 15) 23 #[.agg (arr .u8 (blk zs)), .int .u8 92, .slice (some ⟨p, 0, none⟩) 1 1] rfl rfl rfl rfl (enters_of Tryd.func23 (by kernel_rfl) rfl) (by simp [Act.eval])
    (keyed_any 92 (blk zs) _ _ 1 1 _ [msg] _ HB.out HBB.out n1 t1 (Nat.le_refl _) (by omega) (by simp [HML.out]) (by simpa using hmb) (hT0.below bA hT0.lt) (hT1.below bA hT1.lt)) ?_
  rintro e w7 ⟨rfl, hb7⟩
  have p07 := pA1.below hb7 pA1.lt
  have pB7 := pB1.below hb7 pB1.lt
  refine ⟨_, rfl, pB7, ?_⟩
  simp only [Act.put, List.setIfInBounds_toArray, List.set_cons_zero, List.set_cons_succ]
  have hne : w1.heap.size ≠ w.heap.size := by omega
  refine Held.one 4 (by kernel_rfl) ?_
  refine Held.op_store_Row 4 none 25 w.heap.size 25 .u8 _ (Sum.sha (turned 92 (blk zs) ++ [msg].flatten)) rfl rfl rfl rfl rfl rfl p07 32 info_32 (sha_length _) (by simp) ⟨pB7.setRow_other (fun e => hne e.symm) _, ?_⟩
  simp only [Act.put, List.setIfInBounds_toArray, List.set_cons_zero, List.set_cons_succ]
  refine wpAnyH_done (by kernel_rfl) ?_ _
  have r8 := p07.setRow (zs := Sum.sha (turned 92 (blk zs) ++ [msg].flatten)) (fun z hz => wf_of_byte (sha_bytes _ z hz))
  have b7 := bA.trans (hb7.mono bA.size)
  have b8 : Below w.heap.size w (w7.setRow w.heap.size (arr .u8 (Sum.sha (turned 92 (blk zs) ++ [msg].flatten)))) := b7.grown (grown_setRow _ _ _) b7.size (fun r e => by cases e; exact Nat.le_refl _)
  generalize w7.setRow w.heap.size (arr .u8 (Sum.sha (turned 92 (blk zs) ++ [msg].flatten))) = w8 at r8 b8
  have em : [msg].flatten = msg := by simp
  rw [em] at r8 ⊢
  rw [← HTG.out] at r8
  have HTL := Lib.hid (tag_length zs xss.flatten)
  clear em p07 hb7 pA pB pA1 pB1 pB7 t1 n1 i6 bA rA rD
  go_wp2_with fail
  exact bodyPost_ret (results_Row rfl _ _ w.heap.size _ _ _ rfl r8 32 5 Tryd.underlying25 info_32 HTL.out) rfl ⟨rfl, b8⟩
end Go.Proofs.YtbfdhbobokfbhaaDoor.Mac

