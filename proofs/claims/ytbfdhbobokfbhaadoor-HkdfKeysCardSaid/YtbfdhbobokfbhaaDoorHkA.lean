/-
  The laws' first line on package hkdf: it returns true. Conditions: the two tables of package sha lie where the program's text lays them.
-/
import Derived.Test.YtbfdhbobokfbhaaDoorHk3
import Derived.Test.YtbfdhbobokfbhaaDoorMacR
import Derived.Test.YtbfdhbobokfbhaaDoorTxt
import Derived.Test.YtbfdhbobokfbhaaDoorCut
namespace Go.Proofs.YtbfdhbobokfbhaaDoor.Hkdf
open Go.RowKit Go.Shelf Go.Proofs.YtbfdhbobokfbhaaDoor.Mem Go.Proofs.YtbfdhbobokfbhaaDoor.Help Go.Proofs.YtbfdhbobokfbhaaDoor.Sum Go.Proofs.YtbfdhbobokfbhaaDoor.Sha Go.Proofs.YtbfdhbobokfbhaaDoor.Mac Go.Proofs.YtbfdhbobokfbhaaDoor
set_option linter.unusedVariables false
attribute [local irreducible] wpList

def key1 : List Int := [1, 0, 0, 0, 0, 0, 0, 0, 0, 0, 0, 0, 0, 0, 0, 0, 0, 0, 0, 0, 0, 0, 0, 0, 0, 0, 0, 0, 0, 0, 0, 0]
theorem key1_length : key1.length = 32 := rfl
theorem key1_wf : ∀ z ∈ key1, (Lit.int .u8 z).wf = true := by decide
/-- Expand to 40 bytes, nothing being said -/
theorem expand_40 (key : List Int) (hk : key.length = 32) (hkb : ∀ z ∈ key, (Lit.int .u8 z).wf = true) (w : World) (hT0 : Tab w 0 Sum.H0) (hT1 : Tab w 1 Sum.K) :
    Calls Tryd.prog 10 #[.agg (arr .u8 key), .slice none 0 0, .int .i64 40] w fun e w' => ∃ g, e = .returned (.tuple #[.slice (some ⟨g, 0, none⟩) 40 40, .int .i64 0]) ∧ w.heap.size ≤ g ∧ Row w' g 5 .u8 (out key [] 40) ∧ Below w.heap.size w w' :=
  expand_any key [] hk hkb w.heap.size none 0 0 40 w (Ints.nil _ _ _ _) (Nat.le_refl _) (Nat.le_refl _) (by simp [maxLen]) (by omega) (by omega) (by omega) hT0 hT1

set_option maxRecDepth 100000 in
set_option maxHeartbeats 2000000 in
theorem awake4_any (w : World) (hT0 : Tab w 0 Sum.H0) (hT1 : Tab w 1 Sum.K) :
    Calls Tryd.prog 7 #[] w fun e w' => e = .returned (.bool true) ∧ Below w.heap.size w w' := by
  go_enter Tryd.func7, Tryd.ntmps7
  go_wp2_with (refine wpList_build_Row rfl 25 _ rfl .u8 key1 (by kernel_rfl) ?_)
  refine (expand_40 key1 key1_length key1_wf w hT0 hT1).mono ?_
  rintro e w2 ⟨ga, rfl, hga, ra, b2⟩
  have HO := Lib.hid (out_length key1 [] 40 (by omega))
  have hT := Lib.hid (show (out key1 [] 40).take 32 = tag key1 [1] by rw [out_take _ _ _ _ (by omega), out_one]; rfl)
  have l2 := ra.lt
  go_wp2_with (first
    | (refine Held.wpList_build_row (w := w2) rfl 22 5 1 _ rfl .u8 1 [1] Tryd.underlying22 info_u8 (by simp [Act.eval]) rfl (by omega) (by omega) (by decide) ?_; intro w3 r3 g3 z3)
    | (at_builtin; obtain ⟨v4, w4, hrun, o4, g4, hat4⟩ := run_append_zeros (P := Tryd.prog) w3 w.heap.size 22 3 22 5 .u8 .i64 .i64 1 Tryd.underlying22 Tryd.underlying3 info_u8 (.slice (some ⟨w2.heap.size, 0, none⟩) 1 1) [1] (r3.own (base := w.heap.size) b2.size (n := 1) (by simp) (by simp [maxLen])) 31 (by simp) (by omega) (by have := g3.size; have := b2.size; omega); change Mem.Own w4 _ _ _ v4 key1 at o4; obtain ⟨A4, c4, rfl, hc4, hc4m, i4⟩ := o4.form; refine Lib.wpList_append_run w3 rfl _ _ _ _ rfl _ _ rfl rfl _ w4 hrun ?_)
    | (refine Held.wpList_build_row (w := w4) rfl 22 5 1 _ rfl .u8 1 [1] Tryd.underlying22 info_u8 (by simp [Act.eval]) rfl (by omega) (by omega) (by decide) ?_; intro w5 r5 g5 z5))
  have s3 := g3.size
  have s4 := g4.size
  have s5 := g5.size
  have sb := b2.size
  have b5 : Below w.heap.size w w5 := ((b2.grown g3 sb (by simp)).grown g4 (by omega) (fun r e => by have e : some w2.heap.size = some r := e; injection e with e; omega)).grown g5 (by omega) (by simp)
  have ra5 := ((ra.grown g3 (by simp)).grown g4 (fun e => by have e : some ga = some w2.heap.size := e; injection e with e; omega)).grown g5 (by simp)
  have i5 := i4.keep (w' := w5) fun p hp => World.cell?_of_block (g5.block _ hp (by simp))
  have j5 := r5.ints (n := 1) (by simp)
  clear g3 g4 g5 z3 z5 r3 r5 i4 o4 hat4 ra hrun
  refine (rtag_any _ _ A4 _ key1.length c4 1 1 key1 [1] w5 i5 (by omega) (by rw [key1_length]; omega) j5 (Nat.le_refl _) (by omega)).mono ?_
  rintro e w6 ⟨rfl, b6⟩
  have c6 := b5.trans (b6.mono b5.size)
  have ra6 := ra5.below b6 ra5.lt
  have la6 := ra6.lt
  have HTW := Lib.hid (tag_wf key1 [1])
  have HTL := Lib.hid (tag_length key1 [1])
  clear i5 j5 ra5 b5 b6 s3 s4 s5
  go_wp2_with (first
    | (refine wpList_alloc_Row (w := w6) rfl 25 rfl .u8 32 zero_32 ?_; intro w7 r7 g7 z7)
    | (refine wpList_store_RowTo (w := w7) rfl 25 _ _ rfl w6.heap.size rfl 25 .u8 _ (tag key1 [1]) rfl r7 32 info_32 HTL.out (by simp) HTW.out ?_; intro wz rz gz zz))
  obtain ⟨gx, hgx⟩ : ∃ gx, w6.heap.size = gx := ⟨_, rfl⟩
  rw [hgx] at rz gz r7 la6 ⊢
  have s6 := c6.size
  have s7 := g7.size
  have bz : Below w.heap.size w wz := (c6.grown g7 s6 (by simp)).grown gz (by omega) (fun r e => by cases e; omega)
  have raz := (ra6.grown g7 (by simp)).grown gz (by intro e; injection e with e; omega)
  have ia := raz.ints (n := 32) (by rw [HO.out]; omega)
  rw [hT.out] at ia
  have ix := rz.ints (n := 32) (by rw [HTL.out]; omega)
  rw [List.take_of_length_le (by rw [HTL.out]; omega)] at ix
  refine wp_region_held (S := fun W => Below wz.heap.size wz W) (by kernel_rfl) ?_
  change wpAnyH _ _ _ _ _ _ _ _ wz.drew
  have c0_0 := (Below.refl wz.heap.size wz).drew
  refine Held.take (v := .int .i64 0) 0 (some 13) rfl rfl (by kernel_rfl) (by kernel_rfl) (by kernel_rfl) (fun _ _ _ h => h) rfl (Held.y_move rfl rfl) c0_0 ?_
  simp only [Act.put, List.setIfInBounds_toArray, List.set_cons_zero, List.set_cons_succ]
  refine Held.take (v := .bool true) 1 (some 14) rfl rfl (by kernel_rfl) (by kernel_rfl) (by kernel_rfl) (fun _ _ _ h => h) rfl (Held.y_eqi rfl rfl rfl) c0_0 ?_
  simp only [Act.put, List.setIfInBounds_toArray, List.set_cons_zero, List.set_cons_succ]
  refine Held.take (v := .bool true) 2 (some 15) rfl rfl (by kernel_rfl) (by kernel_rfl) (by kernel_rfl) (fun _ _ _ h => h) rfl (Held.y_move rfl rfl) c0_0 ?_
  simp only [Act.put, List.setIfInBounds_toArray, List.set_cons_zero, List.set_cons_succ]
  refine Held.take (v := .slice (some ⟨ga, 0, none⟩) 40 40) 3 (some 16) rfl rfl (by kernel_rfl) (by kernel_rfl) (by kernel_rfl) (fun _ _ _ h => h) rfl (Held.y_move rfl rfl) c0_0 ?_
  simp only [Act.put, List.setIfInBounds_toArray, List.set_cons_zero, List.set_cons_succ]
  refine Held.take (v := .int .i64 40) 4 (some 17) rfl rfl (by kernel_rfl) (by kernel_rfl) (by kernel_rfl) (fun _ _ _ h => h) rfl (Held.y_len_ rfl rfl (by kernel_rfl) rfl) c0_0 ?_
  simp only [Act.put, List.setIfInBounds_toArray, List.set_cons_zero, List.set_cons_succ]
  refine Held.take (v := .bool true) 5 (some 18) rfl rfl (by kernel_rfl) (by kernel_rfl) (by kernel_rfl) (fun _ _ _ h => h) rfl (Held.y_eqi rfl rfl rfl) c0_0 ?_
  simp only [Act.put, List.setIfInBounds_toArray, List.set_cons_zero, List.set_cons_succ]
  refine Held.take (v := .bool true) 6 (some 19) rfl rfl (by kernel_rfl) (by kernel_rfl) (by kernel_rfl) (fun _ _ _ h => h) rfl (Held.y_pick rfl rfl rfl) c0_0 ?_
  simp only [Act.put, List.setIfInBounds_toArray, List.set_cons_zero, List.set_cons_succ]
  refine Held.take (v := .bool true) 7 (some 20) rfl rfl (by kernel_rfl) (by kernel_rfl) (by kernel_rfl) (fun _ _ _ h => h) rfl (Held.y_move rfl rfl) c0_0 ?_
  simp only [Act.put, List.setIfInBounds_toArray, List.set_cons_zero, List.set_cons_succ]
  refine Held.take (v := .slice (some ⟨ga, 0, none⟩) 40 40) 8 (some 21) rfl rfl (by kernel_rfl) (by kernel_rfl) (by kernel_rfl) (fun _ _ _ h => h) rfl (Held.y_move rfl rfl) c0_0 ?_
  simp only [Act.put, List.setIfInBounds_toArray, List.set_cons_zero, List.set_cons_succ]
  refine Held.take (v := .slice (some ⟨ga, 0, none⟩) 32 40) 9 (some 22) rfl rfl (by kernel_rfl) (by kernel_rfl) (by kernel_rfl) (fun _ _ _ h => h) rfl (Held.y_slice rfl (fun W => run_front (P := Tryd.prog) (t := 22) (e := 5) (n := 40) Tryd.underlying22 (by kernel_rfl) (Flat.head ga 0 40) (h := 32) (by omega) W)) c0_0 ?_
  simp only [Act.put, List.setIfInBounds_toArray, List.set_cons_zero, List.set_cons_succ]
  refine Held.take (v := .string (strOfNums (tag key1 [1]))) 10 (some 23) rfl rfl (by kernel_rfl) (by kernel_rfl) (by kernel_rfl) (fun _ _ _ h => h) rfl (Held.y_text rfl rfl Tryd.underlying22 Tryd.underlying5 Tryd.underlying9 (fun W h => ia.below h)) c0_0 ?_
  simp only [Act.put, List.setIfInBounds_toArray, List.set_cons_zero, List.set_cons_succ]
  refine Held.take (v := .slice (some ⟨gx, 0, none⟩) 32 32) 11 (some 24) rfl rfl (by kernel_rfl) (by kernel_rfl) (by kernel_rfl) (fun _ _ _ h => h) rfl (Held.y_slice rfl (fun W => run_slice_arr_all (P := Tryd.prog) 25 5 32 gx W Tryd.underlying25 (by kernel_rfl) (by omega))) c0_0 ?_
  simp only [Act.put, List.setIfInBounds_toArray, List.set_cons_zero, List.set_cons_succ]
  refine Held.take (v := .string (strOfNums (tag key1 [1]))) 12 (some 25) rfl rfl (by kernel_rfl) (by kernel_rfl) (by kernel_rfl) (fun _ _ _ h => h) rfl (Held.y_text rfl rfl Tryd.underlying22 Tryd.underlying5 Tryd.underlying9 (fun W h => ix.below h)) c0_0 ?_
  simp only [Act.put, List.setIfInBounds_toArray, List.set_cons_zero, List.set_cons_succ]
  refine Held.take (v := .bool true) 13 (some 26) rfl rfl (by kernel_rfl) (by kernel_rfl) (by kernel_rfl) (fun _ _ _ h => h) rfl (Held.y_eqs rfl rfl rfl Tryd.underlying9) c0_0 ?_
  simp only [Act.put, List.setIfInBounds_toArray, List.set_cons_zero, List.set_cons_succ]
  refine Held.take (v := .bool true) 14 (some 27) rfl rfl (by kernel_rfl) (by kernel_rfl) (by kernel_rfl) (fun _ _ _ h => h) rfl (Held.y_pick rfl rfl rfl) c0_0 ?_
  simp only [Act.put, List.setIfInBounds_toArray, List.set_cons_zero, List.set_cons_succ]
  refine Held.take (v := .bool true) 15 (some 0) rfl rfl (by kernel_rfl) (by kernel_rfl) (by kernel_rfl) (fun _ _ _ h => h) rfl (Held.y_assign rfl rfl) c0_0 ?_
  simp only [Act.put, List.setIfInBounds_toArray, List.set_cons_zero]
  refine wpAnyH_done (by kernel_rfl) ?_ _
  go_wp2_with fail
  go_ret
  exact ⟨rfl, bz.trans (c0_0.mono bz.size)⟩
end Go.Proofs.YtbfdhbobokfbhaaDoor.Hkdf

