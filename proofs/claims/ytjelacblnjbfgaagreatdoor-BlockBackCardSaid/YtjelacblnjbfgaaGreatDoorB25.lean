/-
  The function Tag of package poly by its contract: the tag is the one that the standard's own words say.
-/
import Derived.Test.YtjelacblnjbfgaaGreatDoorB24
import Derived.OneCell
set_option linter.unusedVariables false
namespace Go.Proofs.YtjelacblnjbfgaaGreatDoor.Po
open Go.RowKit Go.Shelf Mem Go.Proofs.YtjelacblnjbfgaaGreatDoor.Sum Go.Proofs.YtjelacblnjbfgaaGreatDoor.Range Sha
attribute [local go_sem] Oper.semAt_some
attribute [local irreducible] wpList wpListIn
def halfL (half : List Int) : List Int := limbs (val (half ++ [0]))
theorem val_half (half : List Int) : val (half ++ [0]) = val half := by rw [val_append]; simp [val]
theorem half_lv {half : List Int} (h : Bs half) (hl : half.length = 16) : lv (halfL half) = val half := by
  have h1 := val_lt h
  have h0 := val_nonneg (xs := half) fun z hz => (h z hz).1
  rw [hl] at h1
  rw [halfL, val_half]
  exact lv_limbs h0 (by omega)
theorem half_bound (half : List Int) : ∀ x ∈ halfL half, 0 ≤ x ∧ x < 67108864 := limbs_bound _
theorem half_length (half : List Int) : (halfL half).length = 5 := rfl
theorem half_bytes {half : List Int} (h : Bs half) : Bs (half ++ [0]) := fun z hz => by
  rcases List.mem_append.1 hz with h1 | h1
  · exact h z h1
  · rw [List.mem_singleton.1 h1]; omega
def Inv (w : World) (ga gf gs gr : Nat) (key M : List Int) (pre : List (List Int)) (W : World) : Prop :=
  (∃ a, Row W ga 111 .u64 a ∧ Settled a ∧ lv a % modulus = acc (val (clamp key)) M pre.length) ∧ Row W gf 116 .u64 (factors (halfL (clamp key))) ∧ Row W gs 111 .u64 (halfL ((key.drop 16).take 16)) ∧
    Row W gr 58 .u8 (List.replicate 16 0) ∧ Below w.heap.size w W
theorem Inv.far (w : World) (ga gf gs gr : Nat) (key M : List Int) {B : Nat} (h1 : ga < B) (h2 : gf < B) (h3 : gs < B) (h4 : gr < B) (h5 : w.heap.size ≤ B) : Far B (Inv w ga gf gs gr key M) := by
  intro pre W W' row h hgr hr
  have hne : ∀ i, i < B → some i ≠ row := fun i hi e => by have := hr i e.symm; omega
  obtain ⟨⟨a, p1, p2, p3⟩, p4, p5, p6, p7⟩ := h
  exact ⟨⟨a, p1.grown hgr (hne _ h1), p2, p3⟩, p4.grown hgr (hne _ h2), p5.grown hgr (hne _ h3), p6.grown hgr (hne _ h4), p7.grown hgr p7.size (fun r e => by have := hr r e; omega)⟩
theorem read_half (half : List Int) (w : World) (hl : half.length = 16) (hb : Bs half) : Calls Tryz.prog 80 #[.agg (arr .u8 (half ++ [0]))] w fun e w' => e = .returned (.agg (arr .u64 (halfL half))) ∧ Below w.heap.size w w' :=
  read_any _ _ (by simp [hl]) (half_bytes hb)
theorem settled_zero : Settled (List.replicate 5 0) := ⟨0, 0, 0, 0, 0, rfl, by omega, by omega, by omega, by omega, by omega⟩
theorem pieces_mem {m x : List Int} (h : Bs m) (hx : x ∈ pieces m) : x.length = 17 ∧ Bs x := by
  obtain ⟨k, _, rfl⟩ := List.mem_map.1 hx
  exact ⟨pieceAt_length m k, pieceAt_bytes h k⟩
theorem pieces_next {m x : List Int} {pre : List (List Int)} (h : Bs m) (hp : (pre ++ [x]) <+: pieces m) : val x = val (pieceAt m pre.length) ∧ 0 ≤ val x ∧ val x < 2 ^ 130 := by
  have hl := hp.length_le
  rw [List.length_append, List.length_singleton] at hl
  have e : (pre ++ [x])[pre.length]? = (pieces m)[pre.length]? := by
    obtain ⟨t, ht⟩ := hp
    rw [← ht]
    exact (List.getElem?_append_left (by simp)).symm
  rw [List.getElem?_append_right (Nat.le_refl _), Nat.sub_self] at e
  have hx : x = pieceAt m pre.length := by
    rw [pieces_length] at hl
    simpa [pieces, show pre.length < count m by omega] using e
  have := val_chunk_lt h pre.length
  rw [← val_pieceAt] at this
  rw [hx]
  exact ⟨rfl, this.1, by omega⟩
theorem mod_step (a v r : Int) : (a + v) * r % modulus = (a % modulus + v) * r % modulus := by
  have h := Int.mul_ediv_add_emod a modulus
  generalize a / modulus = q at h
  generalize a % modulus = s at h ⊢
  have e : (a + v) * r = (s + v) * r + modulus * (q * r) := by rw [← h]; grind
  rw [e, Int.add_mul_emod_self_left]
set_option maxRecDepth 100000 in
set_option maxHeartbeats 4000000 in
theorem tag_any (key : List Int) (B : Nat) (A : Option Addr) (m c : Nat) (vs : List Value) (xss : List (List Int)) (w : World) (hk : key.length = 32) (hkb : Bs key) (h : Vals w B A m vs) (ht : Texts w B vs xss) (hB : B ≤ w.heap.size) (hm : m ≤ 1073741824) (hn : xss.flatten.length ≤ 1099511627776)
    (hb : Bs xss.flatten) (hT : TabK w 0 .u8 keptI) :
    Calls Tryz.prog 59 #[.agg (arr .u8 key), .slice A m c] w fun e w' => e = .returned (.agg (arr .u8 (poly key xss.flatten))) ∧ Below w.heap.size w w' := by
  refine (callsIn_wide (n := 3)).1 ?_
  refine callsIn_of_wp_marks Tryz.func59 rfl trivial ?_ rfl
  simp only [Tryz.ntmps59, List.size_toArray, List.length_cons, List.length_nil, Nat.reduceAdd, Nat.reduceSub, Array.replicate_succ, Array.replicate_zero, List.push_toArray, List.append_toArray, List.nil_append, List.cons_append]
  have HK := Lib.hid hk
  have HC := Lib.hid (clamp_bytes hkb)
  have HD := Lib.hid (show Bs ((key.drop 16).take 16) from fun z hz => hkb z (List.mem_of_mem_drop (List.mem_of_mem_take hz)))
  have HDL := Lib.hid (show ((key.drop 16).take 16).length = 16 by simp [hk])
  have hrw : ∀ half, ∀ z ∈ halfL half, (Lit.int .u64 z).wf = true := fun half z hz => wf_64 (by have := half_bound half z hz; omega)
  have hfw : ∀ z ∈ factors (halfL (clamp key)), (Lit.int .u64 z).wf = true := fun z hz => wf_64 (by have := factors_bound (half_bound _) z hz; omega)
  have HFL := Lib.hid (factors_length (half_length (clamp key)))
  clear hk
  gi_wp2_with (first
    | (refine wpListIn_box_Row rfl 22 _ rfl .u8 key rfl (bs_wf hkb) ?_; intro w1 r1 g1 z1)
    | (refine wpListIn_alloc_Row (w := w1) rfl 58 rfl .u8 16 zero_16b ?_; intro w2 r2 g2 z2; have k2 := r1.grown g2 (by simp))
    | (refine wpListIn_load_Row (w := w2) rfl 22 _ rfl w.heap.size rfl 22 .u8 _ k2 32 5 Tryz.underlying22 (by kernel_rfl) HK.out ?_))
  obtain ⟨gr, hgr⟩ : ∃ g, w1.heap.size = g := ⟨_, rfl⟩
  have l1 := r1.lt
  have b2 : Below w.heap.size w w2 := ((Below.refl _ w).grown g1 (Nat.le_refl _) (by simp)).grown g2 g1.size (by simp)
  rw [hgr] at l1 r2 ⊢
  clear hgr r1 g1 g2 z1 z2 w1
  refine ⟨trivial, ?_⟩
  refine (callsIn_wide.2 (clamp_any key w2 HK.out hkb (hT.below b2 hT.lt))).mono ?_
  rintro e w3 ⟨rfl, hb3⟩
  gi_wp2_with fail
  refine ⟨trivial, ?_⟩
  refine (callsIn_wide.2 (without_any (clamp key) w3 (clamp_length key) HC.out)).mono ?_
  rintro e w4 ⟨rfl, hb4⟩
  gi_wp2_with fail
  refine ⟨trivial, ?_⟩
  refine (callsIn_wide.2 (read_half (clamp key) w4 (clamp_length key) HC.out)).mono ?_
  rintro e w5 ⟨rfl, hb5⟩
  have hb25 : Below w2.heap.size w2 w5 := (hb3.trans (hb4.mono hb3.size)).trans (hb5.mono (Nat.le_trans hb3.size hb4.size))
  have k5 := k2.below hb25 k2.lt
  have e5 := r2.below hb25 r2.lt
  have b5 := b2.trans (hb25.mono b2.size)
  have l5 := e5.lt
  clear k2 r2 b2 hb3 hb4 hb5 hb25 w2 w3 w4
  gi_wp2_with (first
    | (refine wpListIn_alloc_Row (w := w5) rfl 111 rfl .u64 5 zero_num ?_; intro w6 r6 g6 z6)
    | (refine wpListIn_store_RowTo (w := w6) rfl 111 _ _ rfl w5.heap.size rfl 111 .u64 _ (halfL (clamp key)) rfl r6 5 info_num rfl (by simp) (hrw _) ?_; intro w7 r7 g7 z7; have k7 := (k5.grown g6 (by simp)).grown g7 (by intro e; injection e with e; have := k5.lt; omega); have hsl : ∀ W, (Instr.sliceAt 22 (.pointer (some ⟨w.heap.size, 0, none⟩)) (some (.int .i64 16)) none none).run Tryz.prog W = .ok (.slice (some ⟨w.heap.size, 16, none⟩) 16 16) W := fun W => run_slice_arr_l (P := Tryz.prog) 22 5 32 w.heap.size 16 W Tryz.underlying22 (by kernel_rfl) (by omega))
    | (refine wpListIn_arrayAt rfl 58 _ rfl _ 16 16 16 5 rfl Tryz.underlying58 (by omega) ?_)
    | (refine wpListIn_load_midRow (w := w7) rfl 58 _ rfl w.heap.size 16 rfl 22 .u8 key k7 16 5 Tryz.underlying58 info_16b (by rw [HK.out]; omega) ?_))
  obtain ⟨gq, hgq⟩ : ∃ g, w5.heap.size = g := ⟨_, rfl⟩
  rw [hgq] at l5 r7 ⊢
  have b7 : Below w.heap.size w w7 := (b5.grown g6 b5.size (by simp)).grown g7 (by have := b5.size; have := g6.size; omega) (fun r e => by have := b5.size; cases e; omega)
  have e7 := (e5.grown g6 (by simp)).grown g7 (by intro e; injection e with e; omega)
  clear hgq k5 e5 b5 r6 g6 g7 z6 z7 w6 hsl
  refine ⟨trivial, ?_⟩
  refine (callsIn_wide.2 (without_any _ w7 HDL.out HD.out)).mono ?_
  rintro e w8 ⟨rfl, hb8⟩
  gi_wp2_with fail
  refine ⟨trivial, ?_⟩
  refine (callsIn_wide.2 (read_half _ w8 HDL.out HD.out)).mono ?_
  rintro e w9 ⟨rfl, hb9⟩
  have hb79 : Below w7.heap.size w7 w9 := hb8.trans (hb9.mono hb8.size)
  have q9 := r7.below hb79 r7.lt
  have e9 := e7.below hb79 e7.lt
  have b9 := b7.trans (hb79.mono b7.size)
  have l9 := q9.lt
  clear r7 e7 b7 hb8 hb9 hb79 k7 w7 w8
  gi_wp2_with (first
    | (refine wpListIn_alloc_Row (w := w9) rfl 111 rfl .u64 5 zero_num ?_; intro w6 r6 g6 z6)
    | (refine wpListIn_store_RowTo (w := w6) rfl 111 _ _ rfl w9.heap.size rfl 111 .u64 _ (halfL ((key.drop 16).take 16)) rfl r6 5 info_num rfl (by simp) (hrw _) ?_; intro w7 r7 g7 z7; have q7 := (q9.grown g6 (by simp)).grown g7 (by intro e; injection e with e; omega))
    | (refine wpListIn_load_Row (w := w7) rfl 111 _ rfl gq rfl 111 .u64 _ q7 5 23 Tryz.underlying111 info_num rfl ?_))
  obtain ⟨gs, hgs⟩ : ∃ g, w9.heap.size = g := ⟨_, rfl⟩
  rw [hgs] at l9 r7 ⊢
  have b7 : Below w.heap.size w w7 := (b9.grown g6 b9.size (by simp)).grown g7 (by have := b9.size; have := g6.size; omega) (fun r e => by have := b9.size; cases e; omega)
  have e7 := (e9.grown g6 (by simp)).grown g7 (by intro e; injection e with e; omega)
  clear hgs q9 e9 b9 r6 g6 g7 z6 z7 w6
  refine ⟨trivial, ?_⟩
  refine (callsIn_wide.2 (doubled_any (halfL (clamp key)) w7 rfl (half_bound _))).mono ?_
  rintro e w10 ⟨rfl, hb10⟩
  have s10 := r7.below hb10 r7.lt
  have e10 := e7.below hb10 e7.lt
  have b10 := b7.trans (hb10.mono b7.size)
  have l10 := s10.lt
  clear r7 e7 b7 hb10 q7 w7
  gi_wp2_with (first
    | (refine wpListIn_alloc_Row (w := w10) rfl 116 rfl .u64 10 zero_ten ?_; intro w6 r6 g6 z6)
    | (refine wpListIn_store_RowTo (w := w6) rfl 116 _ _ rfl w10.heap.size rfl 116 .u64 _ (factors (halfL (clamp key))) rfl r6 10 info_ten HFL.out (by simp) hfw ?_; intro w7 r7 g7 z7)
    | (refine wpListIn_alloc_Row (w := w7) rfl 111 rfl .u64 5 zero_num ?_; intro w8 r8 g8 z8))
  obtain ⟨gf, hgf⟩ : ∃ g, w10.heap.size = g := ⟨_, rfl⟩
  obtain ⟨ga, hga⟩ : ∃ g, w7.heap.size = g := ⟨_, rfl⟩
  have l7 := r7.lt
  rw [hgf] at l10 r7 l7 ⊢
  rw [hga] at l7 r8 ⊢
  have b8 : Below w.heap.size w w8 := ((b10.grown g6 b10.size (by simp)).grown g7 (by have := b10.size; have := g6.size; omega) (fun r e => by have := b10.size; cases e; omega)).grown g8 (by have := b10.size; have := g6.size; have := g7.size; omega) (by simp)
  have e8 := ((e10.grown g6 (by simp)).grown g7 (by intro e; injection e with e; omega)).grown g8 (by simp)
  have s8 := ((s10.grown g6 (by simp)).grown g7 (by intro e; injection e with e; omega)).grown g8 (by simp)
  have f8 := r7.grown g8 (by simp)
  have lb := b10.size
  rw [hgf] at lb
  clear hgf hga s10 e10 b10 r6 g6 g7 g8 z6 z7 z8 r7 w6 w7
  refine ⟨trivial, ?_⟩
  refine (callsIn_wide.2 (pieces_any A m c _)).mono ?_
  rintro e W ⟨rfl, hW⟩
  have lw8 : w8.heap.size < W.heap.size := by rw [hW, World.size_alloc]; omega
  have hbx : W.cell? ⟨w8.heap.size, 0, none⟩ = some (.slice A m c) := by
    rw [hW, cell_of_row _ _ 0 _ _ (0, 0) (heap_alloc_new w8 _)]; rfl
  have i0 : Inv w ga gf gs gr key xss.flatten [] W := by
    rw [hW]
    exact ⟨⟨_, r8.alloc _, settled_zero, by simp [lv, acc, List.replicate, modulus]⟩, f8.alloc _, s8.alloc _, e8.alloc _, b8.alloc b8.size _⟩
  have la := r8.lt
  obtain ⟨bx, hbxe⟩ : ∃ bx, w8.heap.size = bx := ⟨_, rfl⟩
  rw [hbxe] at lw8 hbx la ⊢
  have bW := i0.2.2.2.2
  have hbW : B ≤ W.heap.size := Nat.le_trans hB bW.size
  have hit := fun n => pieces_far n bx B (fun b => b = ga) A m c vs xss W hbx (h.below (bW.mono hB)) (ht.below (bW.mono hB)) hbW (fun b e => by have := bW.size; omega) hm hn hb
  have HPC := Lib.hid (fun x (hx : x ∈ pieces xss.flatten) => pieces_mem hb hx)
  have pieces_next := fun {pre : List (List Int)} {x : List Int} (hp : (pre ++ [x]) <+: pieces xss.flatten) => pieces_next (m := xss.flatten) hb hp
  clear hW r8 f8 s8 e8 b8 hbxe w8 w9 w10 w5
  gi_wp2_with fail
  refine wpIn_rangeFunc_far rfl (by omega) (gf := 103) (lb := #[.pointer (some ⟨bx, 0, none⟩)]) rfl trivial (enters_of Tryz.func103 (by kernel_rfl) rfl)
    (hit _) (fun h k => h.trans k) (fun W l o o' hl ho hc _ => Only.put W l o o' ho hc) (Below.refl _ _) (fun _ => rfl)
    (Inv w ga gf gs gr key xss.flatten) (Inv.far w ga gf gs gr key _ (by omega) (by omega) (by omega) (by omega) bW.size) i0
    (fun x a' pre X => Inv w ga gf gs gr key xss.flatten pre X ∧ ∃ Bx, W.heap.size ≤ Bx ∧ Row X Bx 113 .u8 x ∧ a' = { tmps := #[.agg (arr .u8 key), .slice A m c, .pointer (some ⟨w.heap.size, 0, none⟩), undef, .pointer (some ⟨gr, 0, none⟩), .pointer (some ⟨gq, 0, none⟩), .pointer (some ⟨gs, 0, none⟩), .pointer (some ⟨gf, 0, none⟩), .pointer (some ⟨ga, 0, none⟩), .pointer (some ⟨Bx, 0, none⟩), .agg (arr .u8 key), .agg (arr .u8 (clamp key)), .agg (arr .u8 (clamp key ++ [0])), .agg (arr .u64 (halfL (clamp key))), .slice (some ⟨w.heap.size, 16, none⟩) 16 16, .pointer (some ⟨w.heap.size, 16, none⟩), .agg (arr .u8 ((key.drop 16).take 16)), .agg (arr .u8 ((key.drop 16).take 16 ++ [0])), .agg (arr .u64 (halfL ((key.drop 16).take 16))), .agg (arr .u64 (halfL (clamp key))), .agg (arr .u64 (factors (halfL (clamp key)))), .slice A m c, .func (.func 103) #[] #[.pointer (some ⟨bx, 0, none⟩)], .agg (arr .u8 x), undef, undef, undef, undef, undef, undef, undef, undef, undef, undef, undef], defers := [] }) ?ib ?assign ?body ?done
  case ib =>
    rintro x a' pre X X' row ⟨hi, Bx, h1, h2, h3⟩ hg hr
    refine ⟨Inv.far w ga gf gs gr key _ (B := W.heap.size) (by omega) (by omega) (by omega) (by omega) bW.size pre X X' row hi hg (fun r e => (hr r e).1), Bx, h1, h2.grown hg (fun e => ?_), h3⟩
    obtain ⟨_, o, ho, hc⟩ := hr Bx e.symm
    rw [h2.2] at ho
    cases ho
    cases hc
  case assign =>
    intro l pre x X K hi hp hsz hK
    have hx := HPC.out x (hp.subset (by simp))
    have HXL := Lib.hid hx.1
    have hxw := bs_wf hx.2
    clear hx
    simp only [Held.zip_one, List.setIfInBounds_toArray, List.set_cons_zero, List.set_cons_succ]
    gi_wp2_with (first
      | (refine wpListIn_alloc_Row (w := X) rfl 113 rfl .u8 17 zero_17 ?_; intro X1 q1 g1 z1)
      | (refine wpListIn_store_RowTo (w := X1) rfl 113 _ _ rfl X.heap.size rfl 113 .u8 _ x rfl q1 17 info_17 HXL.out (by simp) hxw ?_; intro X2 q2 g2 z2))
    have b2 : Below X.heap.size X X2 := ((Below.refl _ X).grown g1 (Nat.le_refl _) (by simp)).grown g2 g1.size (fun r e => by cases e; exact Nat.le_refl _)
    refine hK _ _ ((Held.others_of_new g1).trans (Held.others_of_grown q1.2 g2)) (Only.of_below b2) ⟨Inv.far w ga gf gs gr key _ (B := W.heap.size) (by omega) (by omega) (by omega) (by omega) bW.size pre X _ none hi (grown_of_below b2 none) (fun r e => by cases e), X.heap.size, hsz, q2, rfl⟩
  case body =>
    rintro l pre x a' X ⟨⟨⟨a, i1, i2, i3⟩, i4, i5, i6, ib⟩, Bx, hBx, hrx, rfl⟩ hp hsz
    have hx := HPC.out x (hp.subset (by simp))
    have hnx := pieces_next hp
    have h3 := i2.length
    have hlim : ∀ z ∈ limbs (val x), 0 ≤ z ∧ z < 67108864 := limbs_bound _
    have hsum : ∀ z ∈ addL a (limbs (val x)), 0 ≤ z ∧ z < 268435456 := fun z hz => by have := addL_bound i2.bound hlim z hz; omega
    have hsl5 : (addL a (limbs (val x))).length = 5 := addL_length h3 rfl
    have hmb := mulL_bound hsum (half_bound (clamp key))
    have hst := settle_settled (mulL_length (addL a (limbs (val x))) (halfL (clamp key))) hmb
    have hmod : lv (settle (mulL (addL a (limbs (val x))) (halfL (clamp key)))) % modulus = acc (val (clamp key)) xss.flatten (pre ++ [x]).length := by
      rw [settle_mod (mulL_length _ _), mulL_mod hsl5 rfl, lv_addL h3, lv_limbs hnx.2.1 hnx.2.2, half_lv HC.out (clamp_length key), List.length_append, List.length_singleton, step_eq, ← hnx.1, ← i3]
      exact mod_step _ _ _
    have HMOD := Lib.hid hmod
    have HST := Lib.hid hst
    have hsw : ∀ z ∈ settle (mulL (addL a (limbs (val x))) (halfL (clamp key))), (Lit.int .u64 z).wf = true := fun z hz => wf_64 (by have := hst.bound z hz; omega)
    have hsln : (settle (mulL (addL a (limbs (val x))) (halfL (clamp key)))).length = 5 := hst.length
    clear hmod hp
    gi_wp2_with fail
    refine Held.wpIn_region_heldR (r := some l) (S := fun Y => X.grownBy Y (some ga)) rfl (by kernel_rfl) (by kernel_rfl) (fun a w h => h) ?_
    change wpAnyH _ _ _ _ _ _ _ _ X.drew
    have c0 : X.grownBy X.drew (some ga) := grown_of_below (below_drewN (Below.refl X.heap.size X) 1) _
    refine Held.tk (v := .agg (arr .u8 x)) 1 (some 25) rfl (Held.y_load_Row rfl rfl Tryz.underlying113 info_17 hx.1 (fun X hX => hrx.grown hX (by intro e; injection e with e; omega))) c0 ?_
    simp only [Act.put, Z1, Z2, Z3]
    refine Held.tk (v := .agg (arr .u64 (factors (halfL (clamp key))))) 4 (some 28) rfl (Held.y_load_Row rfl rfl Tryz.underlying116 info_ten HFL.out (fun X hX => i4.grown hX (by intro e; injection e with e; omega))) c0 ?_
    simp only [Act.put, Z1, Z2, Z3]
    refine Held.two 0 2 (by kernel_rfl) ?_ ?_
    · refine Held.op_load 0 (some 24) 111 ⟨ga, 0, none⟩ (.agg (arr .u64 a)) rfl rfl rfl rfl rfl (run_loadVar_row X.drew ga 111 111 (arr .u64 a) (0, 0) _ i1.2 Tryz.underlying111 rfl (by rw [info_num, arr_size, h3])) ?_
      refine ⟨c0, ?_⟩
      simp only [Act.put, Z1, Z2, Z3]
      refine Held.one 2 (by kernel_rfl) ?_
      refine Held.op_call 2 (some 26) 80 #[.agg (arr .u8 x)] rfl rfl rfl rfl (enters_of Tryz.func80 (by kernel_rfl) rfl) (by simp [Act.eval]) (read_any x X.drew hx.1 hx.2) ?_
      rintro e w1 ⟨rfl, b1⟩
      have c1 : X.grownBy w1 (some ga) := Lib.grownBy_trans c0 (grown_of_below b1 _)
      have p1 := Row.below (w := X.drew) i1 b1 i1.lt
      refine ⟨_, rfl, c1, ?_⟩
      simp only [Act.put, Z1, Z2, Z3]
      refine Held.one 3 (by kernel_rfl) ?_
      refine Held.op_call 3 (some 27) 86 #[.agg (arr .u64 a), .agg (arr .u64 (limbs (val x)))] rfl rfl rfl rfl (enters_of Tryz.func86 (by kernel_rfl) rfl) (by simp [Act.eval]) (plus_any a (limbs (val x)) w1 h3 rfl (fun z hz => by have := i2.bound z hz; omega) (fun z hz => by have := hlim z hz; omega)) ?_
      rintro e w2 ⟨rfl, b2⟩
      have c2 : X.grownBy w2 (some ga) := Lib.grownBy_trans c1 (grown_of_below b2 _)
      refine ⟨_, rfl, c2, ?_⟩
      simp only [Act.put, Z1, Z2, Z3]
      refine Held.one 5 (by kernel_rfl) ?_
      refine Held.op_call 5 (some 29) 85 #[.agg (arr .u64 (addL a (limbs (val x)))), .agg (arr .u64 (factors (halfL (clamp key))))] rfl rfl rfl rfl (enters_of Tryz.func85 (by kernel_rfl) rfl) (by simp [Act.eval]) (times_any (addL a (limbs (val x))) (halfL (clamp key)) w2 hsl5 rfl hsum (half_bound _)) ?_
      rintro e w3 ⟨rfl, b3⟩
      have c3 : X.grownBy w3 (some ga) := Lib.grownBy_trans c2 (grown_of_below b3 _)
      refine ⟨_, rfl, c3, ?_⟩
      simp only [Act.put, Z1, Z2, Z3]
      refine Held.one 6 (by kernel_rfl) ?_
      have p3 := (p1.below b2 p1.lt).below b3 (p1.below b2 p1.lt).lt
      refine Held.op_store_RowL 6 none 111 ga 111 .u64 a (settle (mulL (addL a (limbs (val x))) (halfL (clamp key)))) rfl rfl rfl rfl rfl rfl p3 5 info_num hsln h3 hsw ?_
      intro w4 r4 g4
      have c4 : X.grownBy w4 (some ga) := Lib.grownBy_trans c3 g4
      refine ⟨c4, ?_⟩
      simp only [Act.put]
      refine wpAnyH_done (by kernel_rfl) ?_ _
      exact ⟨Held.others_of_grown i1.2 c4, Only.of_grown c4 (fun r e => by cases e; rfl), ⟨_, r4, HST.out, HMOD.out⟩, i4.grown c4 (by intro e; injection e with e; omega), i5.grown c4 (by intro e; injection e with e; omega), i6.grown c4 (by intro e; injection e with e; omega), ib.grown c4 ib.size (fun r e => by cases e; omega)⟩
    · refine Held.op_call 2 (some 26) 80 #[.agg (arr .u8 x)] rfl rfl rfl rfl (enters_of Tryz.func80 (by kernel_rfl) rfl) (by simp [Act.eval]) (read_any x X.drew hx.1 hx.2) ?_
      rintro e w1 ⟨rfl, b1⟩
      have c1 : X.grownBy w1 (some ga) := Lib.grownBy_trans c0 (grown_of_below b1 _)
      have p1 := Row.below (w := X.drew) i1 b1 i1.lt
      refine ⟨_, rfl, c1, ?_⟩
      simp only [Act.put, Z1, Z2, Z3]
      refine Held.one 0 (by kernel_rfl) ?_
      refine Held.op_load 0 (some 24) 111 ⟨ga, 0, none⟩ (.agg (arr .u64 a)) rfl rfl rfl rfl rfl (run_loadVar_row w1 ga 111 111 (arr .u64 a) (0, 0) _ p1.2 Tryz.underlying111 rfl (by rw [info_num, arr_size, h3])) ?_
      refine ⟨c1, ?_⟩
      simp only [Act.put, Z1, Z2, Z3]
      refine Held.one 3 (by kernel_rfl) ?_
      refine Held.op_call 3 (some 27) 86 #[.agg (arr .u64 a), .agg (arr .u64 (limbs (val x)))] rfl rfl rfl rfl (enters_of Tryz.func86 (by kernel_rfl) rfl) (by simp [Act.eval]) (plus_any a (limbs (val x)) w1 h3 rfl (fun z hz => by have := i2.bound z hz; omega) (fun z hz => by have := hlim z hz; omega)) ?_
      rintro e w2 ⟨rfl, b2⟩
      have c2 : X.grownBy w2 (some ga) := Lib.grownBy_trans c1 (grown_of_below b2 _)
      refine ⟨_, rfl, c2, ?_⟩
      simp only [Act.put, Z1, Z2, Z3]
      refine Held.one 5 (by kernel_rfl) ?_
      refine Held.op_call 5 (some 29) 85 #[.agg (arr .u64 (addL a (limbs (val x)))), .agg (arr .u64 (factors (halfL (clamp key))))] rfl rfl rfl rfl (enters_of Tryz.func85 (by kernel_rfl) rfl) (by simp [Act.eval]) (times_any (addL a (limbs (val x))) (halfL (clamp key)) w2 hsl5 rfl hsum (half_bound _)) ?_
      rintro e w3 ⟨rfl, b3⟩
      have c3 : X.grownBy w3 (some ga) := Lib.grownBy_trans c2 (grown_of_below b3 _)
      refine ⟨_, rfl, c3, ?_⟩
      simp only [Act.put, Z1, Z2, Z3]
      refine Held.one 6 (by kernel_rfl) ?_
      have p3 := (p1.below b2 p1.lt).below b3 (p1.below b2 p1.lt).lt
      refine Held.op_store_RowL 6 none 111 ga 111 .u64 a (settle (mulL (addL a (limbs (val x))) (halfL (clamp key)))) rfl rfl rfl rfl rfl rfl p3 5 info_num hsln h3 hsw ?_
      intro w4 r4 g4
      have c4 : X.grownBy w4 (some ga) := Lib.grownBy_trans c3 g4
      refine ⟨c4, ?_⟩
      simp only [Act.put]
      refine wpAnyH_done (by kernel_rfl) ?_ _
      exact ⟨Held.others_of_grown i1.2 c4, Only.of_grown c4 (fun r e => by cases e; rfl), ⟨_, r4, HST.out, HMOD.out⟩, i4.grown c4 (by intro e; injection e with e; omega), i5.grown c4 (by intro e; injection e with e; omega), i6.grown c4 (by intro e; injection e with e; omega), ib.grown c4 ib.size (fun r e => by cases e; omega)⟩
  case done =>
    intro D X hD ⟨⟨a, i1, i2, i3⟩, i4, i5, i6, ib⟩ hDl
    rw [pieces_length] at i3
    have hrd := reduce_wf i2
    have h3 := i2.length
    have hsl5 : (addL (reduce a) (halfL ((key.drop 16).take 16))).length = 5 := addL_length hrd.1 rfl
    have hsum : ∀ z ∈ addL (reduce a) (halfL ((key.drop 16).take 16)), 0 ≤ z ∧ z < 268435456 := fun z hz => by have := addL_bound hrd.2.2 (half_bound _) z hz; omega
    have hout : digits (lv (addL (reduce a) (halfL ((key.drop 16).take 16)))) 16 = poly key xss.flatten := by
      rw [lv_addL hrd.1, half_lv HD.out HDL.out, poly, ← i3]
      refine digits_mod 16 ?_
      have := reduce_mod i2
      omega
    have HOUT := Lib.hid hout
    have hsz : X.heap.size = X.heap.size := rfl
    clear hout i3
    gi_wp2_with fail
    refine Held.wpIn_region_heldR (r := none) (S := fun _ => True) rfl (by kernel_rfl) (by kernel_rfl) (fun a w h => by obtain ⟨e, _⟩ := h; cases e) ?_
    change wpAnyH _ _ _ _ _ _ _ _ X.drew
    have c0 : X.grownBy X.drew (some gr) := grown_of_below (below_drewN (Below.refl X.heap.size X) 1) _
    refine Held.two 0 2 (by kernel_rfl) ?_ ?_
    · refine Held.op_load 0 (some 30) 111 ⟨ga, 0, none⟩ (.agg (arr .u64 a)) rfl rfl rfl rfl rfl (run_loadVar_row X.drew ga 111 111 (arr .u64 a) (0, 0) _ (i1).2 Tryz.underlying111 rfl (by rw [info_num, arr_size, h3])) ?_
      refine ⟨trivial, ?_⟩
      simp only [Act.put, Z1, Z2, Z3]
      refine Held.two 1 2 (by kernel_rfl) ?_ ?_
      · refine Held.op_call 1 (some 31) 88 #[.agg (arr .u64 a)] rfl rfl rfl rfl (enters_of Tryz.func88 (by kernel_rfl) rfl) (by simp [Act.eval]) (reduced_any a X.drew i2) ?_
        rintro e w1 ⟨rfl, b1⟩
        refine ⟨_, rfl, trivial, ?_⟩
        simp only [Act.put, Z1, Z2, Z3]
        refine Held.one 2 (by kernel_rfl) ?_
        refine Held.op_load 2 (some 32) 111 ⟨gs, 0, none⟩ (.agg (arr .u64 (halfL ((key.drop 16).take 16)))) rfl rfl rfl rfl rfl (run_loadVar_row w1 gs 111 111 (arr .u64 (halfL ((key.drop 16).take 16))) (0, 0) _ (Row.below (w := X.drew) i5 b1 i5.lt).2 Tryz.underlying111 rfl (by rw [info_num, arr_size, half_length])) ?_
        refine ⟨trivial, ?_⟩
        simp only [Act.put, Z1, Z2, Z3]
        have c1 : X.grownBy w1 (some gr) := Lib.grownBy_trans c0 (grown_of_below b1 _)
        refine Held.one 3 (by kernel_rfl) ?_
        refine Held.op_call 3 (some 33) 86 #[.agg (arr .u64 (reduce a)), .agg (arr .u64 (halfL ((key.drop 16).take 16)))] rfl rfl rfl rfl (enters_of Tryz.func86 (by kernel_rfl) rfl) (by simp [Act.eval]) (plus_any (reduce a) (halfL ((key.drop 16).take 16)) w1 hrd.1 rfl (fun z hz => by have := hrd.2.2 z hz; omega) (fun z hz => by have := half_bound _ z hz; omega)) ?_
        rintro e w2 ⟨rfl, b2⟩
        have c2 : X.grownBy w2 (some gr) := Lib.grownBy_trans c1 (grown_of_below b2 _)
        refine ⟨_, rfl, trivial, ?_⟩
        simp only [Act.put, Z1, Z2, Z3]
        refine Held.one 4 (by kernel_rfl) ?_
        refine Held.op_call 4 (some 34) 87 #[.agg (arr .u64 (addL (reduce a) (halfL ((key.drop 16).take 16))))] rfl rfl rfl rfl (enters_of Tryz.func87 (by kernel_rfl) rfl) (by simp [Act.eval]) (lowest_any (addL (reduce a) (halfL ((key.drop 16).take 16))) w2 hsl5 hsum) ?_
        rintro e w3 ⟨rfl, b3⟩
        have c3 : X.grownBy w3 (some gr) := Lib.grownBy_trans c2 (grown_of_below b3 _)
        rw [HOUT.out]
        refine ⟨_, rfl, trivial, ?_⟩
        simp only [Act.put, Z1, Z2, Z3]
        refine Held.one 5 (by kernel_rfl) ?_
        have p1 := Row.below (w := X.drew) i6 b1 i6.lt
        have p3 := (p1.below b2 p1.lt).below b3 (p1.below b2 p1.lt).lt
        refine Held.op_store_RowL 5 none 58 gr 58 .u8 _ (poly key xss.flatten) rfl rfl rfl rfl rfl rfl p3 16 info_16b (poly_length _ _) (by simp) (bs_wf (poly_bytes _ _)) ?_
        intro w4 r4 g4
        have c4 : X.grownBy w4 (some gr) := Lib.grownBy_trans c3 g4
        refine ⟨trivial, ?_⟩
        simp only [Act.put]
        refine wpAnyH_done (by kernel_rfl) ?_ _
        have d4 := (c4.block D (Array.getElem?_eq_some_iff.1 hDl).1 (by intro e; injection e with e; omega)).trans hDl
        have b4 : Below w.heap.size w w4 := ib.grown c4 ib.size (fun r e => by cases e; omega)
        gi_wp2_with fail
        refine ⟨by simp, .inl ⟨_, _, rfl, run_takeDeferred d4, ?_⟩⟩
        have hDr : D ≠ gr := by omega
        have r9 : Row (w4.putObj D (.deferred none)) gr 58 .u8 (poly key xss.flatten) := ⟨r4.1, (World.putObj_heap_other (fun e => hDr e.symm)).trans r4.2⟩
        refine ⟨.agg (arr .u8 (poly key xss.flatten)), results_Row rfl _ _ gr _ _ _ rfl r9 16 5 Tryz.underlying58 info_16b (poly_length _ _), rfl, ?_⟩
        exact b4.grown (grownBy_putObj' _ D _) b4.size (fun r e => by cases e; omega)
      · refine Held.op_load 2 (some 32) 111 ⟨gs, 0, none⟩ (.agg (arr .u64 (halfL ((key.drop 16).take 16)))) rfl rfl rfl rfl rfl (run_loadVar_row X.drew gs 111 111 (arr .u64 (halfL ((key.drop 16).take 16))) (0, 0) _ (i5).2 Tryz.underlying111 rfl (by rw [info_num, arr_size, half_length])) ?_
        refine ⟨trivial, ?_⟩
        simp only [Act.put, Z1, Z2, Z3]
        refine Held.one 1 (by kernel_rfl) ?_
        refine Held.op_call 1 (some 31) 88 #[.agg (arr .u64 a)] rfl rfl rfl rfl (enters_of Tryz.func88 (by kernel_rfl) rfl) (by simp [Act.eval]) (reduced_any a X.drew i2) ?_
        rintro e w1 ⟨rfl, b1⟩
        refine ⟨_, rfl, trivial, ?_⟩
        simp only [Act.put, Z1, Z2, Z3]
        have c1 : X.grownBy w1 (some gr) := Lib.grownBy_trans c0 (grown_of_below b1 _)
        refine Held.one 3 (by kernel_rfl) ?_
        refine Held.op_call 3 (some 33) 86 #[.agg (arr .u64 (reduce a)), .agg (arr .u64 (halfL ((key.drop 16).take 16)))] rfl rfl rfl rfl (enters_of Tryz.func86 (by kernel_rfl) rfl) (by simp [Act.eval]) (plus_any (reduce a) (halfL ((key.drop 16).take 16)) w1 hrd.1 rfl (fun z hz => by have := hrd.2.2 z hz; omega) (fun z hz => by have := half_bound _ z hz; omega)) ?_
        rintro e w2 ⟨rfl, b2⟩
        have c2 : X.grownBy w2 (some gr) := Lib.grownBy_trans c1 (grown_of_below b2 _)
        refine ⟨_, rfl, trivial, ?_⟩
        simp only [Act.put, Z1, Z2, Z3]
        refine Held.one 4 (by kernel_rfl) ?_
        refine Held.op_call 4 (some 34) 87 #[.agg (arr .u64 (addL (reduce a) (halfL ((key.drop 16).take 16))))] rfl rfl rfl rfl (enters_of Tryz.func87 (by kernel_rfl) rfl) (by simp [Act.eval]) (lowest_any (addL (reduce a) (halfL ((key.drop 16).take 16))) w2 hsl5 hsum) ?_
        rintro e w3 ⟨rfl, b3⟩
        have c3 : X.grownBy w3 (some gr) := Lib.grownBy_trans c2 (grown_of_below b3 _)
        rw [HOUT.out]
        refine ⟨_, rfl, trivial, ?_⟩
        simp only [Act.put, Z1, Z2, Z3]
        refine Held.one 5 (by kernel_rfl) ?_
        have p1 := Row.below (w := X.drew) i6 b1 i6.lt
        have p3 := (p1.below b2 p1.lt).below b3 (p1.below b2 p1.lt).lt
        refine Held.op_store_RowL 5 none 58 gr 58 .u8 _ (poly key xss.flatten) rfl rfl rfl rfl rfl rfl p3 16 info_16b (poly_length _ _) (by simp) (bs_wf (poly_bytes _ _)) ?_
        intro w4 r4 g4
        have c4 : X.grownBy w4 (some gr) := Lib.grownBy_trans c3 g4
        refine ⟨trivial, ?_⟩
        simp only [Act.put]
        refine wpAnyH_done (by kernel_rfl) ?_ _
        have d4 := (c4.block D (Array.getElem?_eq_some_iff.1 hDl).1 (by intro e; injection e with e; omega)).trans hDl
        have b4 : Below w.heap.size w w4 := ib.grown c4 ib.size (fun r e => by cases e; omega)
        gi_wp2_with fail
        refine ⟨by simp, .inl ⟨_, _, rfl, run_takeDeferred d4, ?_⟩⟩
        have hDr : D ≠ gr := by omega
        have r9 : Row (w4.putObj D (.deferred none)) gr 58 .u8 (poly key xss.flatten) := ⟨r4.1, (World.putObj_heap_other (fun e => hDr e.symm)).trans r4.2⟩
        refine ⟨.agg (arr .u8 (poly key xss.flatten)), results_Row rfl _ _ gr _ _ _ rfl r9 16 5 Tryz.underlying58 info_16b (poly_length _ _), rfl, ?_⟩
        exact b4.grown (grownBy_putObj' _ D _) b4.size (fun r e => by cases e; omega)
    · refine Held.op_load 2 (some 32) 111 ⟨gs, 0, none⟩ (.agg (arr .u64 (halfL ((key.drop 16).take 16)))) rfl rfl rfl rfl rfl (run_loadVar_row X.drew gs 111 111 (arr .u64 (halfL ((key.drop 16).take 16))) (0, 0) _ (i5).2 Tryz.underlying111 rfl (by rw [info_num, arr_size, half_length])) ?_
      refine ⟨trivial, ?_⟩
      simp only [Act.put, Z1, Z2, Z3]
      refine Held.one 0 (by kernel_rfl) ?_
      refine Held.op_load 0 (some 30) 111 ⟨ga, 0, none⟩ (.agg (arr .u64 a)) rfl rfl rfl rfl rfl (run_loadVar_row X.drew ga 111 111 (arr .u64 a) (0, 0) _ (i1).2 Tryz.underlying111 rfl (by rw [info_num, arr_size, h3])) ?_
      refine ⟨trivial, ?_⟩
      simp only [Act.put, Z1, Z2, Z3]
      refine Held.one 1 (by kernel_rfl) ?_
      refine Held.op_call 1 (some 31) 88 #[.agg (arr .u64 a)] rfl rfl rfl rfl (enters_of Tryz.func88 (by kernel_rfl) rfl) (by simp [Act.eval]) (reduced_any a X.drew i2) ?_
      rintro e w1 ⟨rfl, b1⟩
      refine ⟨_, rfl, trivial, ?_⟩
      simp only [Act.put, Z1, Z2, Z3]
      have c1 : X.grownBy w1 (some gr) := Lib.grownBy_trans c0 (grown_of_below b1 _)
      refine Held.one 3 (by kernel_rfl) ?_
      refine Held.op_call 3 (some 33) 86 #[.agg (arr .u64 (reduce a)), .agg (arr .u64 (halfL ((key.drop 16).take 16)))] rfl rfl rfl rfl (enters_of Tryz.func86 (by kernel_rfl) rfl) (by simp [Act.eval]) (plus_any (reduce a) (halfL ((key.drop 16).take 16)) w1 hrd.1 rfl (fun z hz => by have := hrd.2.2 z hz; omega) (fun z hz => by have := half_bound _ z hz; omega)) ?_
      rintro e w2 ⟨rfl, b2⟩
      have c2 : X.grownBy w2 (some gr) := Lib.grownBy_trans c1 (grown_of_below b2 _)
      refine ⟨_, rfl, trivial, ?_⟩
      simp only [Act.put, Z1, Z2, Z3]
      refine Held.one 4 (by kernel_rfl) ?_
      refine Held.op_call 4 (some 34) 87 #[.agg (arr .u64 (addL (reduce a) (halfL ((key.drop 16).take 16))))] rfl rfl rfl rfl (enters_of Tryz.func87 (by kernel_rfl) rfl) (by simp [Act.eval]) (lowest_any (addL (reduce a) (halfL ((key.drop 16).take 16))) w2 hsl5 hsum) ?_
      rintro e w3 ⟨rfl, b3⟩
      have c3 : X.grownBy w3 (some gr) := Lib.grownBy_trans c2 (grown_of_below b3 _)
      rw [HOUT.out]
      refine ⟨_, rfl, trivial, ?_⟩
      simp only [Act.put, Z1, Z2, Z3]
      refine Held.one 5 (by kernel_rfl) ?_
      have p1 := Row.below (w := X.drew) i6 b1 i6.lt
      have p3 := (p1.below b2 p1.lt).below b3 (p1.below b2 p1.lt).lt
      refine Held.op_store_RowL 5 none 58 gr 58 .u8 _ (poly key xss.flatten) rfl rfl rfl rfl rfl rfl p3 16 info_16b (poly_length _ _) (by simp) (bs_wf (poly_bytes _ _)) ?_
      intro w4 r4 g4
      have c4 : X.grownBy w4 (some gr) := Lib.grownBy_trans c3 g4
      refine ⟨trivial, ?_⟩
      simp only [Act.put]
      refine wpAnyH_done (by kernel_rfl) ?_ _
      have d4 := (c4.block D (Array.getElem?_eq_some_iff.1 hDl).1 (by intro e; injection e with e; omega)).trans hDl
      have b4 : Below w.heap.size w w4 := ib.grown c4 ib.size (fun r e => by cases e; omega)
      gi_wp2_with fail
      refine ⟨by simp, .inl ⟨_, _, rfl, run_takeDeferred d4, ?_⟩⟩
      have hDr : D ≠ gr := by omega
      have r9 : Row (w4.putObj D (.deferred none)) gr 58 .u8 (poly key xss.flatten) := ⟨r4.1, (World.putObj_heap_other (fun e => hDr e.symm)).trans r4.2⟩
      refine ⟨.agg (arr .u8 (poly key xss.flatten)), results_Row rfl _ _ gr _ _ _ rfl r9 16 5 Tryz.underlying58 info_16b (poly_length _ _), rfl, ?_⟩
      exact b4.grown (grownBy_putObj' _ D _) b4.size (fun r e => by cases e; omega)
end Go.Proofs.YtjelacblnjbfgaaGreatDoor.Po
