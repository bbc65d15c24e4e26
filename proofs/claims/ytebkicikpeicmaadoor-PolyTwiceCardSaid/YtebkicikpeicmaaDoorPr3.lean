/-
  The document's own least by its contract. Conditions: a number below 2^130.
-/
import Derived.Test.YtebkicikpeicmaaDoorPr2
namespace Go.Proofs.YtebkicikpeicmaaDoor.Po
open Go.RowKit Go.Shelf Go.Proofs.YtebkicikpeicmaaDoor.Mem Go.Proofs.YtebkicikpeicmaaDoor.Sum
set_option linter.unusedVariables false
attribute [local irreducible] wpList wpListIn

theorem five_more {n : Int} (h0 : 0 ≤ n) (hn : n < 256 ^ 40) : val ((digits n 40).set 0 ((digits n 40).getD 0 0 + 5)) = n + 5 := by
  rw [val_set _ _ _ (by rw [digits_length]; omega), val_digits]
  omega
theorem five_bound (n : Int) : ∀ x ∈ (digits n 40).set 0 ((digits n 40).getD 0 0 + 5), 0 ≤ x ∧ x < 16777216 := by
  intro x hx
  rcases List.mem_or_eq_of_mem_set hx with h | h
  · have := digits_bytes 40 n x h
    omega
  · have := (digits_bytes 40 n).at_ 0
    omega
set_option maxRecDepth 100000 in
theorem rleast_any (n : Int) (w : World) (h0 : 0 ≤ n) (hn : n < 2 ^ 130) :
    Calls Tryd.prog 26 #[.agg (arr .u32 (digits n 40))] w fun e w' => e = .returned (.agg (arr .u32 (digits (n % modulus) 40))) ∧ Below w.heap.size w w' := by
  have HDW := Lib.hid (fun m : Int => bytes32 (digits_bytes 40 m))
  have HDL := Lib.hid (fun m : Int => digits_length 40 m)
  have hdw := HDW.out n
  have hdl := HDL.out n
  have hv := five_more h0 (show n < 256 ^ 40 by omega)
  have hb := five_bound n
  have hs := fun h => least_small h0 hn h
  have hg := fun h => least_big h0 hn h
  have hx := (digits_bytes 40 n).at_ 0
  have hy := (digits_bytes 40 (n + 5)).at_ 16
  obtain ⟨x, hxe⟩ : ∃ x, (digits n 40).getD 0 0 = x := ⟨_, rfl⟩
  obtain ⟨y, hye⟩ : ∃ y, (digits (n + 5) 40).getD 16 0 = y := ⟨_, rfl⟩
  rw [hxe] at hv hb hx
  rw [hye] at hs hg hy
  have HV := Lib.hid hv
  have HB := Lib.hid hb
  have HS := Lib.hid hs
  have HG := Lib.hid hg
  have HXE := Lib.hid hxe
  have HYE := Lib.hid hye
  clear hv hb hs hg hxe hye
  have w0 : (Lit.int .u32 (x + 5)).wf = true := wf_32 (by omega)
  have hadd : IntKind.u32.wrap (x + 5) = x + 5 := IntWalk.u32_in _ (by omega)
  have hadd2 : (x + 5) % 4294967296 = x + 5 := by omega
  have HDN := Lib.hid (show ((digits n 40).set 0 (x + 5)).length = 40 by rw [List.length_set]; exact hdl)
  go_enter Tryd.func26, Tryd.ntmps26
  go_wp2_with (first
    | (refine wpList_box_Row (w := w) rfl 55 _ rfl .u32 (digits n 40) rfl hdw ?_; intro w1 r1 g1 z1)
    | (refine wpList_alloc_Row (w := w1) rfl 55 rfl .u32 40 zero_forty ?_; intro w2 r2 g2 z2; have p2 := r1.grown g2 (by simp))
    | (refine wpList_load_Row (w := w2) rfl 55 _ rfl w.heap.size rfl 55 .u32 _ p2 40 53 Tryd.underlying55 info_forty hdl ?_)
    | (refine wpList_alloc_Row (w := w2) rfl 55 rfl .u32 40 zero_forty ?_; intro w3 r3 g3 z3)
    | (refine wpList_store_RowTo (w := w3) rfl 55 _ _ rfl w2.heap.size rfl 55 .u32 _ (digits n 40) rfl r3 40 info_forty hdl (by simp) hdw ?_; intro w4 r4 g4 z4; have c4 := r4.cell (i := 0) (by rw [hdl]; omega); rw [HXE.out] at c4)
    | (refine wpList_store_elem (w := w4) rfl 53 _ _ rfl w2.heap.size 0 rfl 55 .u32 _ (x + 5) rfl r4 (by rw [hdl]; omega) info_u32 w0 ?_; intro w5 r5 g5 z5)
    | (refine wpList_load_Row (w := w5) rfl 55 _ rfl w2.heap.size rfl 55 .u32 _ r5 40 53 Tryd.underlying55 info_forty HDN.out ?_))
  obtain ⟨gr, hgr⟩ : ∃ g, w1.heap.size = g := ⟨_, rfl⟩
  obtain ⟨gb, hgb⟩ : ∃ g, w2.heap.size = g := ⟨_, rfl⟩
  have l1 := r1.lt
  have l2 := r2.lt
  have s4 := g4.size
  have s3 := g3.size
  have b5 : Below w.heap.size w w5 := (((((Below.refl _ w).grown g1 (Nat.le_refl _) (by simp)).grown g2 g1.size (by simp)).grown g3 (by omega) (by simp)).grown g4 (by omega) (fun r e => by cases e; omega)).grown g5 (by omega) (fun r e => by cases e; omega)
  have a5 := ((p2.grown g3 (by simp)).grown g4 (by intro e; injection e with e; omega)).grown g5 (by intro e; injection e with e; omega)
  have e5 := ((r2.grown g3 (by simp)).grown g4 (by intro e; injection e with e; omega)).grown g5 (by intro e; injection e with e; omega)
  rw [hgr] at l1 l2 e5
  rw [hgb] at l2 r5
  rw [hgr, hgb]
  clear hgr hgb r1 r2 r3 r4 p2 g1 g2 g3 g4 g5 z1 z2 z3 z4 z5 s3 s4 hadd hadd2 w0
  refine (rcarry_any _ (n + 5) w5 HDN.out HB.out HV.out).mono ?_
  rintro e w6 ⟨rfl, hb6⟩
  have a6 := a5.below hb6 a5.lt
  have e6 := e5.below hb6 e5.lt
  have r6 := r5.below hb6 r5.lt
  have b6 := b5.trans (hb6.mono b5.size)
  have hdw5 := HDW.out (n + 5)
  have hdl5 := HDL.out (n + 5)
  have hdwm := HDW.out (n % modulus)
  have hdlm := HDL.out (n % modulus)
  clear a5 e5 r5 b5 hb6
  by_cases hlt : y < 4
  · have HEQ := Lib.hid (HS.out hlt)
    go_wp2_with (first
      | (refine wpList_store_RowTo (w := w6) rfl 55 _ _ rfl gb rfl 55 .u32 _ (digits (n + 5) 40) rfl r6 40 info_forty hdl5 HDN.out hdw5 ?_; intro w7 r7 g7 z7; have c7 := r7.cell (i := 16) (by rw [hdl5]; omega); rw [HYE.out] at c7; have a7 := a6.grown g7 (by intro e; injection e with e; omega); have e7 := e6.grown g7 (by intro e; injection e with e; omega); rw [HEQ.out] at a7)
      | (refine wpList_load_Row (w := w7) rfl 55 _ rfl w.heap.size rfl 55 .u32 _ a7 40 53 Tryd.underlying55 info_forty hdlm ?_)
      | (refine wpList_store_RowTo (w := w7) rfl 55 _ _ rfl gr rfl 55 .u32 _ (digits (n % modulus) 40) rfl e7 40 info_forty hdlm (by simp) hdwm ?_; intro w8 q8 g8 z8))
    refine bodyPost_ret (results_Row rfl _ _ gr _ _ _ rfl q8 40 53 Tryd.underlying55 info_forty hdlm) rfl ?_
    exact ⟨rfl, (b6.grown g7 b6.size (fun r e => by cases e; omega)).grown g8 (by have := b6.size; have := g7.size; omega) (fun r e => by cases e; omega)⟩
  · have HEQ := Lib.hid (HG.out (by omega))
    have hsub : IntKind.u32.wrap (y - 4) = y - 4 := IntWalk.u32_in _ (by omega)
    have hsub2 : (y - 4) % 4294967296 = y - 4 := by omega
    have w1' : (Lit.int .u32 (y - 4)).wf = true := wf_32 (by omega)
    go_wp2_with (first
      | (refine wpList_store_RowTo (w := w6) rfl 55 _ _ rfl gb rfl 55 .u32 _ (digits (n + 5) 40) rfl r6 40 info_forty hdl5 HDN.out hdw5 ?_; intro w7 r7 g7 z7; have c7 := r7.cell (i := 16) (by rw [hdl5]; omega); rw [HYE.out] at c7)
      | (refine wpList_store_elem (w := w7) rfl 53 _ _ rfl gb 16 rfl 55 .u32 _ (y - 4) rfl r7 (by rw [hdl5]; omega) info_u32 w1' ?_; intro w9 r9 g9 z9; rw [HEQ.out] at r9; have e9 := (e6.grown g7 (by intro e; injection e with e; omega)).grown g9 (by intro e; injection e with e; omega))
      | (refine wpList_load_Row (w := w9) rfl 55 _ rfl gb rfl 55 .u32 _ r9 40 53 Tryd.underlying55 info_forty hdlm ?_)
      | (refine wpList_store_RowTo (w := w9) rfl 55 _ _ rfl gr rfl 55 .u32 _ (digits (n % modulus) 40) rfl e9 40 info_forty hdlm (by simp) hdwm ?_; intro w8 q8 g8 z8))
    refine bodyPost_ret (results_Row rfl _ _ gr _ _ _ rfl q8 40 53 Tryd.underlying55 info_forty hdlm) rfl ?_
    exact ⟨rfl, ((b6.grown g7 b6.size (fun r e => by cases e; omega)).grown g9 (by have := b6.size; have := g7.size; omega) (fun r e => by cases e; omega)).grown g8 (by have := b6.size; have := g7.size; have := g9.size; omega) (fun r e => by cases e; omega)⟩
end Go.Proofs.YtebkicikpeicmaaDoor.Po

