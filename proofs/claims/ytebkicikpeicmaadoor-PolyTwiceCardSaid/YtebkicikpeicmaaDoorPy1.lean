/-
  Small functions of package poly, each by its contract: Clamp, withoutOne, plus. Conditions: bytes, and the table of kept bits lies where the program's text lays it.
-/
import Derived.Test.YtebkicikpeicmaaDoorRows
import Derived.Test.YtebkicikpeicmaaDoorPy0
import Derived.WalkLawsBesides
import Derived.IntWalk
import Derived.Lib.BufferOwn
import Derived.StillTailTactics
namespace Go.Proofs.YtebkicikpeicmaaDoor.Po
open Go.RowKit Go.Shelf Go.Proofs.YtebkicikpeicmaaDoor.Mem Go.Proofs.YtebkicikpeicmaaDoor.Sum
set_option linter.unusedVariables false
attribute [local irreducible] wpList wpListIn

theorem info_16b : (Tryd.prog.info? 27).map (·.size) = some 16 := by kernel_rfl
theorem info_17 : (Tryd.prog.info? 42).map (·.size) = some 17 := by kernel_rfl
theorem info_num : (Tryd.prog.info? 40).map (·.size) = some 5 := by kernel_rfl
theorem info_ten : (Tryd.prog.info? 44).map (·.size) = some 10 := by kernel_rfl
theorem info_u8 : (Tryd.prog.info? 5).map (·.size) = some 1 := by kernel_rfl
theorem info_u64 : (Tryd.prog.info? 38).map (·.size) = some 1 := by kernel_rfl
theorem zero_16b : (Tryd.prog.info? 27).bind (·.zero) = some (.agg (arr .u8 (List.replicate 16 0))) := by kernel_rfl
theorem zero_17 : (Tryd.prog.info? 42).bind (·.zero) = some (.agg (arr .u8 (List.replicate 17 0))) := by kernel_rfl
theorem zero_num : (Tryd.prog.info? 40).bind (·.zero) = some (.agg (arr .u64 (List.replicate 5 0))) := by kernel_rfl
theorem zero_ten : (Tryd.prog.info? 44).bind (·.zero) = some (.agg (arr .u64 (List.replicate 10 0))) := by kernel_rfl

set_option maxRecDepth 100000 in
theorem clamp_any (key : List Int) (w : World) (hk : key.length = 32) (hkb : Bs key) (hT : TabK w 0 .u8 keptI) :
    Calls Tryd.prog 13 #[.agg (arr .u8 key)] w fun e w' => e = .returned (.agg (arr .u8 (clamp key))) ∧ Below w.heap.size w w' := by
  have HK := Lib.hid hk
  have HC := Lib.hid (fun i (h : i < 16) => clamp_kept hkb h)
  have HL := Lib.hid (clamp_length key)
  have HW := Lib.hid (bs_wf (clamp_bytes hkb))
  have HT := Lib.hid (show (key.take 16).length = 16 by simp [hk])
  have HG := Lib.hid (fun i (h : i < 16) => show (key.take 16).getD i 0 = key.getD i 0 by simp [List.getD_eq_getElem?_getD, h])
  clear hk
  go_enter Tryd.func13, Tryd.ntmps13
  go_wp2_with (first
    | (refine wpList_box_Row (w := w) rfl 22 _ rfl .u8 key rfl (bs_wf hkb) ?_; intro w1 r1 g1 z1)
    | (refine wpList_alloc_Row (w := w1) rfl 27 rfl .u8 16 zero_16b ?_; intro w2 r2 g2 z2; have p2 := r1.grown g2 (by simp); have hsl : ∀ W, (Instr.sliceAt 22 (.pointer (some ⟨w.heap.size, 0, none⟩)) none (some (.int .i64 16)) none).run Tryd.prog W = .ok (.slice (some ⟨w.heap.size, 0, none⟩) 16 32) W := fun W => Held.run_slice_arr_h (P := Tryd.prog) 22 5 32 w.heap.size 16 W Tryd.underlying22 (by kernel_rfl) (by omega) (by omega))
    | (refine wpList_arrayAt rfl 27 _ rfl _ 16 32 16 5 rfl Tryd.underlying27 (by omega) ?_)
    | (refine wpList_load_midRow (w := w2) rfl 27 _ rfl w.heap.size 0 rfl 22 .u8 key p2 16 5 Tryd.underlying27 info_16b (by rw [HK.out]; omega) ?_)
    | (refine wpList_alloc_Row (w := w2) rfl 27 rfl .u8 16 zero_16b ?_; intro w3 r3 g3 z3)
    | (refine wpList_store_RowTo (w := w3) rfl 27 _ _ rfl w2.heap.size rfl 27 .u8 _ (key.take 16) rfl r3 16 info_16b HT.out (by simp) (fun z hz => bs_wf hkb z (List.mem_of_mem_take hz)) ?_; intro w4 r4 g4 z4))
  obtain ⟨gr, hgr⟩ : ∃ g, w1.heap.size = g := ⟨_, rfl⟩
  obtain ⟨ga, hga⟩ : ∃ g, w2.heap.size = g := ⟨_, rfl⟩
  have l1 := r1.lt
  have l2 := r2.lt
  have l3 := r3.lt
  have s4 := g4.size
  have b4 : Below w.heap.size w w4 := ((((Below.refl _ w).grown g1 (Nat.le_refl _) (by simp)).grown g2 g1.size (by simp)).grown g3 (by omega) (by simp)).grown g4 (by omega) (fun r e => by cases e; omega)
  have e4 := (r2.grown g3 (by simp)).grown g4 (by intro e; injection e with e; omega)
  rw [hgr] at l2 e4
  rw [hga] at l2 l3 r4 ⊢
  rw [hgr]
  have hwa : w.heap.size < ga := by omega
  have hra : gr < ga := l2
  have hwr : w.heap.size < gr := by omega
  clear hgr hga r1 r2 r3 g1 g2 g3 g4 z1 z2 z3 z4 p2 hsl l1 l2 l3 s4
  go_loopw [8] (fun i wr => ∃ k : Nat, k ≤ 16 ∧ i = .int .i64 k ∧ Below w.heap.size w wr ∧ Row wr gr 27 .u8 (List.replicate 16 0) ∧ Row wr ga 27 .u8 (blend (clamp key) (key.take 16) k)) (fun i _ => 16 - (intOf i).toNat)
  case atStart => exact ⟨0, by omega, rfl, b4, e4, by rw [blend_zero]; exact r4⟩
  case round =>
    clear b4 e4 r4
    obtain ⟨k, hk, rfl, hbl, er, ar⟩ := hrel
    have hk0 : (0 : Int) ≤ (k : Int) := by omega
    by_cases hlt : k < 16
    · have hlt' : (k : Int) < 16 := by omega
      have hLen : (clamp key).length = (key.take 16).length := by rw [HL.out, HT.out]
      have ca := ar.cell (i := k) (by rw [blend_length hLen, HT.out]; exact hlt)
      have ck := (hT.below hbl hT.lt).cell (i := k) hlt
      rw [blend_get hLen (by rw [HT.out]; exact hlt), HG.out k hlt] at ca
      have fa := ar.frozen k
      have HS := Lib.hid (show Row (wr.setCell ⟨ga, k, none⟩ (.int .u8 ((clamp key).getD k 0))) ga 27 .u8 (blend (clamp key) (key.take 16) (k + 1)) by
        rw [← blend_set hLen (by rw [HT.out]; exact hlt)]
        exact ar.set k (HW.out _ (by rw [List.getD_eq_getElem?_getD, List.getElem?_eq_getElem (by rw [HL.out]; exact hlt)]; exact List.getElem_mem _)))
      have HE := er.other (p := ⟨ga, k, none⟩) (by simp; omega) (.int .u8 ((clamp key).getD k 0))
      have hand := HC.out k hlt
      have HB := Lib.hid (hbl.setCell (p := ⟨ga, k, none⟩) (by simp; omega) (.int .u8 ((clamp key).getD k 0)))
      generalize (clamp key).getD k 0 = x at *
      generalize key.getD k 0 = y at *
      generalize keptI.getD k 0 = z at *
      clear hLen ar er hbl
      go_wp2_with fail
      go_still_tail 8, (by kernel_rfl)
      change wpList _ _ _ _ _ wr.drew
      go_wp2_with fail
      go_roundw
      case rel => exact ⟨k + 1, by omega, by go_num, HB.out.drew, HE, HS.out⟩
      case measure => simp [intOf]; omega
    · have hk16 : k = 16 := by omega
      subst hk16
      have hz : blend (clamp key) (key.take 16) 16 = clamp key := by
        have := blend_all (F := clamp key) (a := key.take 16) (by rw [HL.out, HT.out])
        rwa [HT.out] at this
      rw [hz] at ar
      clear hz hk0 hlt
      go_wp2_with (first
        | (refine wpList_load_Row (w := wr) rfl 27 _ rfl ga rfl 27 .u8 _ ar 16 5 Tryd.underlying27 info_16b HL.out ?_)
        | (refine wpList_store_RowTo (w := wr) rfl 27 _ _ rfl gr rfl 27 .u8 _ (clamp key) rfl er 16 info_16b HL.out (by simp) HW.out ?_; intro w8 q8 g8 z8))
      refine bodyPost_ret (results_Row rfl _ _ gr _ _ _ rfl q8 16 5 Tryd.underlying27 info_16b HL.out) rfl ?_
      exact ⟨rfl, hbl.grown g8 hbl.size (fun r e => by cases e; omega)⟩

theorem laid_half {half : List Int} (h : half.length = 16) : laidOver (List.replicate 17 0) 0 half = half ++ [0] := by simp [laidOver, h, List.drop_replicate]
set_option maxRecDepth 100000 in
theorem without_any (half : List Int) (w : World) (hh : half.length = 16) (hb : Bs half) :
    Calls Tryd.prog 17 #[.agg (arr .u8 half)] w fun e w' => e = .returned (.agg (arr .u8 (half ++ [0]))) ∧ Below w.heap.size w w' := by
  have HH := Lib.hid hh
  have HL := Lib.hid (show (half ++ [0]).length = 17 by simp [hh])
  have HW := Lib.hid (show ∀ z ∈ half ++ [0], (Lit.int .u8 z).wf = true from bs_wf (fun z hz => by
    rcases List.mem_append.1 hz with h | h
    · exact hb z h
    · rw [List.mem_singleton.1 h]; omega))
  have HO := Lib.hid (laid_half hh)
  clear hh
  go_enter Tryd.func17, Tryd.ntmps17
  go_wp2_with (first
    | (refine wpList_box_Row (w := w) rfl 27 _ rfl .u8 half rfl (bs_wf hb) ?_; intro w1 r1 g1 z1)
    | (refine wpList_alloc_Row (w := w1) rfl 42 rfl .u8 17 zero_17 ?_; intro w2 r2 g2 z2)
    | (refine wpList_alloc_Row (w := w2) rfl 42 rfl .u8 17 zero_17 ?_; intro w3 r3 g3 z3))
  obtain ⟨gr, hgr⟩ : ∃ g, w1.heap.size = g := ⟨_, rfl⟩
  obtain ⟨gp, hgp⟩ : ∃ g, w2.heap.size = g := ⟨_, rfl⟩
  have l1 := r1.lt
  have l2 := r2.lt
  have b3 : Below w.heap.size w w3 := (((Below.refl _ w).grown g1 (Nat.le_refl _) (by simp)).grown g2 g1.size (by simp)).grown g3 (by omega) (by simp)
  have e3 := r2.grown g3 (by simp)
  have h3 := (r1.grown g2 (by simp)).grown g3 (by simp)
  rw [hgr] at l1 l2 e3
  rw [hgp] at l2 r3
  rw [hgr, hgp]
  clear hgr hgp r1 r2 g1 g2 g3 z1 z2 z3
  have ih := h3.ints (n := 16) (by rw [HH.out]; omega)
  simp only [Act.put, List.setIfInBounds_toArray, List.set_cons_zero, List.set_cons_succ]
  refine wp_region_held (S := fun _ => True) (by kernel_rfl) ?_
  change wpAnyH _ _ _ _ _ _ _ _ w3.drew
  have c0 : True := trivial
  refine Held.take (v := .slice (some ⟨gp, 0, none⟩) 17 17) 0 (some 4) rfl rfl (by kernel_rfl) (by kernel_rfl) (by kernel_rfl) (fun _ _ _ h => h) rfl (Held.y_slice rfl (fun W => run_slice_arr_all (P := Tryd.prog) 42 5 17 gp W Tryd.underlying42 (by kernel_rfl) (by omega))) c0 ?_
  simp only [Act.put, List.setIfInBounds_toArray, List.set_cons_zero, List.set_cons_succ]
  refine Held.take (v := .slice (some ⟨w.heap.size, 0, none⟩) 16 16) 1 (some 5) rfl rfl (by kernel_rfl) (by kernel_rfl) (by kernel_rfl) (fun _ _ _ h => h) rfl (Held.y_slice rfl (fun W => run_slice_arr_all (P := Tryd.prog) 27 5 16 w.heap.size W Tryd.underlying27 (by kernel_rfl) (by omega))) c0 ?_
  simp only [Act.put, List.setIfInBounds_toArray, List.set_cons_zero, List.set_cons_succ]
  refine Held.one 2 (by kernel_rfl) ?_
  refine Held.op_copy_Row 2 (some 6) 25 25 rfl rfl rfl rfl 5 Tryd.underlying25 info_u8 gp 0 17 17 w3.heap.size (some ⟨w.heap.size, 0, none⟩) 16 16 rfl rfl 42 .u8 _ (half.take 16) r3 ih (by simp) ?_
  intro w5 r5 g5'
  have g5 : w3.grownBy w5 (some gp) := ⟨g5'.os, g5'.tape, g5'.output, g5'.size, g5'.block⟩
  clear g5'
  rw [show min 16 17 = 16 from rfl, List.take_take, Nat.min_self, List.take_of_length_le (by rw [HH.out]; omega), HO.out] at r5
  refine ⟨trivial, ?_⟩
  simp only [Act.put, List.setIfInBounds_toArray, List.set_cons_zero, List.set_cons_succ]
  refine wpAnyH_done (by kernel_rfl) ?_ _
  rw [show ((min 16 17 : Nat) : Int) = 16 from rfl]
  have b5 : Below w.heap.size w w5 := b3.grown g5 b3.size (fun r e => by cases e; omega)
  have e5 := e3.grown g5 (by intro e; injection e with e; omega)
  clear b3 e3 h3 r3 ih g5
  go_wp2_with (first
    | (refine wpList_load_Row (w := w5) rfl 42 _ rfl gp rfl 42 .u8 _ r5 17 5 Tryd.underlying42 info_17 HL.out ?_)
    | (refine wpList_store_RowTo (w := w5) rfl 42 _ _ rfl gr rfl 42 .u8 _ (half ++ [0]) rfl e5 17 info_17 HL.out (by simp) HW.out ?_; intro w8 q8 g8 z8))
  refine bodyPost_ret (results_Row rfl _ _ gr _ _ _ rfl q8 17 5 Tryd.underlying42 info_17 HL.out) rfl ?_
  exact ⟨rfl, b5.grown g8 b5.size (fun r e => by cases e; omega)⟩

theorem addL_length {a b : List Int} (ha : a.length = 5) (hb : b.length = 5) : (addL a b).length = 5 := by simp [addL, ha, hb]
theorem addL_get {a b : List Int} (ha : a.length = 5) (hb : b.length = 5) {i : Nat} (hi : i < 5) : (addL a b).getD i 0 = a.getD i 0 + b.getD i 0 := by
  have h1 : i < a.length := by omega
  have h2 : i < b.length := by omega
  simp [addL, List.getD_eq_getElem?_getD, List.getElem?_zipWith, h1, h2]
theorem addL_bound {a b : List Int} {A B : Int} (ha : ∀ x ∈ a, 0 ≤ x ∧ x < A) (hb : ∀ x ∈ b, 0 ≤ x ∧ x < B) : ∀ x ∈ addL a b, 0 ≤ x ∧ x < A + B := by
  intro x hx
  obtain ⟨i, hi, rfl⟩ := List.mem_iff_getElem.1 hx
  simp only [addL, List.length_zipWith] at hi
  simp only [addL, List.getElem_zipWith]
  have h1 := ha _ (List.getElem_mem (show i < a.length by omega))
  have h2 := hb _ (List.getElem_mem (show i < b.length by omega))
  omega
set_option maxRecDepth 100000 in
theorem plus_any (a b : List Int) (w : World) (ha : a.length = 5) (hb : b.length = 5) (hab : ∀ x ∈ a, 0 ≤ x ∧ x < 9223372036854775808) (hbb : ∀ x ∈ b, 0 ≤ x ∧ x < 9223372036854775808) :
    Calls Tryd.prog 21 #[.agg (arr .u64 a), .agg (arr .u64 b)] w fun e w' => e = .returned (.agg (arr .u64 (addL a b))) ∧ Below w.heap.size w w' := by
  have HA := Lib.hid ha
  have HB := Lib.hid hb
  have HL := Lib.hid (addL_length ha hb)
  have HF := Lib.hid (fun i (h : i < 5) => addL_get ha hb h)
  have HW := Lib.hid (show ∀ z ∈ addL a b, (Lit.int .u64 z).wf = true from fun z hz => wf_64 (by have := addL_bound hab hbb z hz; omega))
  have HAB := Lib.hid (fun i => getD_range (P := fun x => 0 ≤ x ∧ x < 9223372036854775808) hab (by omega) i)
  have HBB := Lib.hid (fun i => getD_range (P := fun x => 0 ≤ x ∧ x < 9223372036854775808) hbb (by omega) i)
  have haw : ∀ z ∈ a, (Lit.int .u64 z).wf = true := fun z hz => wf_64 (by have := hab z hz; omega)
  have hbw : ∀ z ∈ b, (Lit.int .u64 z).wf = true := fun z hz => wf_64 (by have := hbb z hz; omega)
  clear ha hb hab hbb
  go_enter Tryd.func21, Tryd.ntmps21
  go_wp2_with (first
    | (refine wpList_box_Row (w := w) rfl 40 _ rfl .u64 a rfl haw ?_; intro w1 r1 g1 z1)
    | (refine wpList_box_Row (w := w1) rfl 40 _ rfl .u64 b rfl hbw ?_; intro w2 r2 g2 z2)
    | (refine wpList_alloc_Row (w := w2) rfl 40 rfl .u64 5 zero_num ?_; intro w3 r3 g3 z3))
  obtain ⟨gb, hgb⟩ : ∃ g, w1.heap.size = g := ⟨_, rfl⟩
  obtain ⟨gr, hgr⟩ : ∃ g, w2.heap.size = g := ⟨_, rfl⟩
  have l1 := r1.lt
  have l2 := r2.lt
  have b3 : Below w.heap.size w w3 := (((Below.refl _ w).grown g1 (Nat.le_refl _) (by simp)).grown g2 g1.size (by simp)).grown g3 (by omega) (by simp)
  have p3 := (r1.grown g2 (by simp)).grown g3 (by simp)
  have q3 := r2.grown g3 (by simp)
  rw [hgb] at l1 l2 q3
  rw [hgr] at l2 r3
  rw [hgb, hgr]
  clear hgb hgr r1 r2 g1 g2 g3 z1 z2 z3
  go_loopw [6] (fun i wr => ∃ k : Nat, k ≤ 5 ∧ i = .int .i64 k ∧ Below w.heap.size w wr ∧ Row wr w.heap.size 40 .u64 (blend (addL a b) a k) ∧ Row wr gb 40 .u64 b ∧ Row wr gr 40 .u64 (List.replicate 5 0)) (fun i _ => 5 - (intOf i).toNat)
  case atStart => exact ⟨0, by omega, rfl, b3, by rw [blend_zero]; exact p3, q3, r3⟩
  case round =>
    clear b3 p3 q3 r3
    obtain ⟨k, hk, rfl, hbl, ar, br, er⟩ := hrel
    have hk0 : (0 : Int) ≤ (k : Int) := by omega
    by_cases hlt : k < 5
    · have hlt' : (k : Int) < 5 := by omega
      have hLen : (addL a b).length = a.length := by rw [HL.out, HA.out]
      have ca := ar.cell (i := k) (by rw [blend_length hLen, HA.out]; exact hlt)
      have cb := br.cell (i := k) (by rw [HB.out]; exact hlt)
      rw [blend_get hLen (by rw [HA.out]; exact hlt)] at ca
      have fa := ar.frozen k
      have HS := Lib.hid (show Row (wr.setCell ⟨w.heap.size, k, none⟩ (.int .u64 ((addL a b).getD k 0))) w.heap.size 40 .u64 (blend (addL a b) a (k + 1)) by
        rw [← blend_set hLen (by rw [HA.out]; exact hlt)]
        exact ar.set k (HW.out _ (by rw [List.getD_eq_getElem?_getD, List.getElem?_eq_getElem (by rw [HL.out]; exact hlt)]; exact List.getElem_mem _)))
      have HE := er.other (p := ⟨w.heap.size, k, none⟩) (by simp; omega) (.int .u64 ((addL a b).getD k 0))
      have HE2 := br.other (p := ⟨w.heap.size, k, none⟩) (by simp; omega) (.int .u64 ((addL a b).getD k 0))
      have ha := HAB.out k
      have hb := HBB.out k
      have HBL := Lib.hid (hbl.setCell (p := ⟨w.heap.size, k, none⟩) (by simp) (.int .u64 ((addL a b).getD k 0)))
      rw [HF.out k hlt] at HS HE HE2 HBL
      generalize a.getD k 0 = x at *
      generalize b.getD k 0 = y at *
      clear hLen ar br er hbl
      have hadd : IntKind.u64.wrap (x + y) = x + y := IntWalk.u64_in _ (by omega)
      go_wp2_with fail
      go_still_tail 8, (by kernel_rfl)
      change wpList _ _ _ _ _ wr.drew
      go_wp2_with fail
      go_roundw
      case rel => exact ⟨k + 1, by omega, by go_num, HBL.out.drew, HS.out, HE2, HE⟩
      case measure => simp [intOf]; omega
    · have hk5 : k = 5 := by omega
      subst hk5
      have hz : blend (addL a b) a 5 = addL a b := by
        have := blend_all (F := addL a b) (a := a) (by rw [HL.out, HA.out])
        rwa [HA.out] at this
      rw [hz] at ar
      clear hz hk0 hlt
      go_wp2_with (first
        | (refine wpList_load_Row (w := wr) rfl 40 _ rfl w.heap.size rfl 40 .u64 _ ar 5 38 Tryd.underlying40 info_num HL.out ?_)
        | (refine wpList_store_RowTo (w := wr) rfl 40 _ _ rfl gr rfl 40 .u64 _ (addL a b) rfl er 5 info_num HL.out (by simp) HW.out ?_; intro w8 q8 g8 z8))
      refine bodyPost_ret (results_Row rfl _ _ gr _ _ _ rfl q8 5 38 Tryd.underlying40 info_num HL.out) rfl ?_
      exact ⟨rfl, hbl.grown g8 hbl.size (fun r e => by cases e; omega)⟩
end Go.Proofs.YtebkicikpeicmaaDoor.Po

