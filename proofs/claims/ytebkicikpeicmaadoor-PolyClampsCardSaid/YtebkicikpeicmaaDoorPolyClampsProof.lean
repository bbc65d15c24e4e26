/-
  The law PolyClamps of package dominolaw06 returns true for every key and bytes: what is clamped off a key plays no part; what is clamped stays clamped. The table of kept bits of package poly holds what the program's text lays.
-/
import Derived.Test.YtebkicikpeicmaaDoorRows
import Derived.Test.YtebkicikpeicmaaDoorCards
import Derived.Test.YtebkicikpeicmaaDoorTie
import Derived.SevenTiedAt
import Derived.WalkKit
import Derived.ProofKit
import Derived.OpenShut
import Derived.ShutString
import Derived.ChangeOld
import Derived.Below
import Derived.LaidMore
import Derived.Stop.Joined
import Derived.Test.YtebkicikpeicmaaDoorPy7
import Derived.Test.YtebkicikpeicmaaDoorCut
import Derived.Test.YtebkicikpeicmaaDoorArrP
namespace Go.Proofs.YtebkicikpeicmaaDoor.polyClamps
open Go.ChangeShapes Go.WideShapes Go.ChangeAt Go.RowKit
open Go.ChangeMaps (open_string shut_string)
open Go.Shelf Go.Proofs.YtebkicikpeicmaaDoor.Mem Go.Proofs.YtebkicikpeicmaaDoor.Help Go.Proofs.YtebkicikpeicmaaDoor.Sum Go.Proofs.YtebkicikpeicmaaDoor.Sha Go.Proofs.YtebkicikpeicmaaDoor.Po Go.Proofs.YtebkicikpeicmaaDoor
set_option linter.unusedVariables false

theorem own : ownKnob Tryd.prog.godebug = none := by kernel_rfl
theorem laidOut : laidOutB Tryd.prog = true := by kernel_rfl

/-- what a slice that came in leads to -/
def IsRow (k : IntKind) (w : World) (a : Option Addr) (len cap : Nat) (zs : List Int) : Prop :=
  (a = none ∧ len = 0 ∧ cap = 0 ∧ zs = []) ∨
  ∃ x, a = some x ∧ len ≤ cap ∧ cap ≤ maxLen ∧ zs.length = cap ∧ (∀ i, i < zs.length → w.cell? (x.add i) = some (.int k (zs.getD i 0))) ∧ ∀ n ∈ zs, (Lit.int k n).wf = true

def laidList : List (String × DataW Unit) := [("domino/poly.kept", Rows.laid_domino_poly_kept)]

attribute [local irreducible] wpList Calls
theorem info_bytes : (Tryd.prog.info? 25).map (fun i => (i.zero, i.size, i.bytes)) = some (some (.slice none 0 0), 1, 24) := by kernel_rfl
theorem clamp_same {key F : List Int} (h : ∀ i, i < 16 → F.getD i 0 = (clamp key).getD i 0) (hb : Bs key) : clamp F = clamp key := by
  apply List.map_congr_left
  intro i hi
  have hi' := List.mem_range.1 hi
  have h1 := h i hi'
  rw [clamp_get key hi'] at h1
  have hx := hb.at_ i
  simp only [clampAt] at h1 ⊢
  split <;> rename_i h3
  · rw [if_pos h3] at h1
    omega
  · rw [if_neg h3] at h1
    split <;> rename_i h4
    · rw [if_pos h4] at h1
      omega
    · rw [if_neg h4] at h1
      exact h1
set_option maxRecDepth 100000 in
set_option maxHeartbeats 8000000 in
theorem start (key : List Int) (A : Option Addr) (m c : Nat) (bs : List Int) (w : World) (h : Ints w .u8 w.heap.size A m bs) (hmc : m ≤ c) (hcm : c ≤ maxLen)
    (hk : key.length = 32) (hkb : Bs key) (hT : TabK w 0 .u8 keptI) :
    Calls Tryd.prog 7 #[.agg (arr .u8 key), .slice A m c] w fun e w' => e = .returned (.bool true) ∧ Below w.heap.size w w' := by
  have HK := Lib.hid hk
  have hbs := bs_of_wf h.2.1
  go_enter Tryd.func7, Tryd.ntmps7
  by_cases hbig : 500 < m
  · have q : (500 : Int) < (m : Int) := by omega
    go_wp2_with (refine wpList_box_Row (w := w) rfl 22 _ rfl .u8 key rfl (bs_wf hkb) ?_; intro w1 r1 g1 z1)
    have b1 : Below w.heap.size w w1 := (Below.refl _ w).grown g1 (Nat.le_refl _) (by simp)
    refine (awake6_b _ (hT.below b1 hT.lt)).mono ?_
    rintro e w' ⟨rfl, hb⟩
    go_wp2_with fail
    go_ret
    exact ⟨rfl, b1.trans (hb.mono b1.size)⟩
  · have q : ¬ (500 : Int) < (m : Int) := by omega
    have HCL := Lib.hid (clamp_length key)
    have HCW := Lib.hid (bs_wf (clamp_bytes hkb))
    obtain ⟨F, hF⟩ : ∃ F, clamp key ++ key.drop 16 = F := ⟨_, rfl⟩
    have HFL := Lib.hid (show F.length = 32 by rw [← hF]; simp [clamp_length, hk])
    have HFB := Lib.hid (show Bs F by
      rw [← hF]
      exact bs_append (clamp_bytes hkb) (fun z hz => hkb z (List.mem_of_mem_drop hz)))
    have hF0 : ∀ i, i < 16 → F.getD i 0 = (clamp key).getD i 0 := fun i hi => by
      rw [← hF, List.getD_eq_getElem?_getD, List.getElem?_append_left (by rw [clamp_length]; exact hi), ← List.getD_eq_getElem?_getD]
    have hF1 : ∀ j, 16 ≤ j → F.getD j 0 = key.getD j 0 := fun j hj => by
      rw [← hF, List.getD_eq_getElem?_getD, List.getElem?_append_right (by rw [clamp_length]; exact hj), clamp_length, List.getElem?_drop, ← List.getD_eq_getElem?_getD, show 16 + (j - 16) = j by omega]
    have hdrop : F.drop 16 = key.drop 16 := by rw [← hF, List.drop_left' (clamp_length key)]
    have HCF := Lib.hid (clamp_same hF0 hkb)
    have HPF := Lib.hid (show poly F bs = poly key bs by rw [poly, poly, HCF.out, hdrop])
    have HF0 := Lib.hid hF0
    have HF1 := Lib.hid hF1
    have HPL := Lib.hid (poly_length key bs)
    clear hF hF0 hF1 hdrop hk
    go_wp2_with (first
      | (refine wpList_box_Row (w := w) rfl 22 _ rfl .u8 key rfl (bs_wf hkb) ?_; intro w1 r1 g1 z1)
      | (refine wpList_load_RowG (w := w1) rfl 22 _ rfl w.heap.size rfl 22 .u8 _ r1 32 5 Tryd.underlying22 info_key HK.out ?_))
    have b1 : Below w.heap.size w w1 := (Below.refl _ w).grown g1 (Nat.le_refl _) (by simp)
    refine (clamp_any key w1 HK.out hkb (hT.below b1 hT.lt)).mono ?_
    rintro e w2 ⟨rfl, hb2⟩
    have k2 := r1.below hb2 r1.lt
    have b2 := b1.trans (hb2.mono b1.size)
    have l2 := k2.lt
    clear r1 g1 z1 b1 hb2
    go_wp2_with (first
      | (refine wpList_alloc_Row (w := w2) rfl 27 rfl .u8 16 zero_16b ?_; intro w3 r3 g3 z3)
      | (refine wpList_store_RowTo (w := w3) rfl 27 _ _ rfl w2.heap.size rfl 27 .u8 _ (clamp key) rfl r3 16 info_16b HCL.out (by simp) HCW.out ?_; intro w4 r4 g4 z4; have k4 := (k2.grown g3 (by simp)).grown g4 (by intro e; injection e with e; omega))
      | (refine wpList_load_RowG (w := w4) rfl 22 _ rfl w.heap.size rfl 22 .u8 _ k4 32 5 Tryd.underlying22 info_key HK.out ?_)
      | (refine wpList_alloc_Row (w := w4) rfl 22 rfl .u8 32 zero_key ?_; intro w5 r5 g5 z5)
      | (refine wpList_store_RowTo (w := w5) rfl 22 _ _ rfl w4.heap.size rfl 22 .u8 _ key rfl r5 32 info_key HK.out (by simp) (bs_wf hkb) ?_; intro w6 r6 g6 z6))
    obtain ⟨gc, hgc⟩ : ∃ g, w2.heap.size = g := ⟨_, rfl⟩
    obtain ⟨gk, hgk⟩ : ∃ g, w4.heap.size = g := ⟨_, rfl⟩
    have l4 := r4.lt
    have s2 := b2.size
    have s3 := g3.size
    have s5 := g5.size
    have s4 := g4.size
    have b6 : Below w.heap.size w w6 := (((b2.grown g3 s2 (by simp)).grown g4 (by omega) (fun r e => by cases e; omega)).grown g5 (by omega) (by simp)).grown g6 (by omega) (fun r e => by cases e; omega)
    have k6 := (k4.grown g5 (by simp)).grown g6 (by intro e; injection e with e; omega)
    have c6 := (r4.grown g5 (by simp)).grown g6 (by intro e; injection e with e; omega)
    rw [hgc] at l2 l4 c6
    rw [hgk] at l4 r6 ⊢
    rw [hgc]
    clear hgc hgk k2 b2 r3 g3 z3 r4 g4 z4 k4 r5 g5 z5 g6 z6 s2 s3 s4 s5
    go_loopw [7] (fun i wr => ∃ q : Nat, q ≤ 16 ∧ i = .int .i64 q ∧ Below w.heap.size w wr ∧ Row wr w.heap.size 22 .u8 key ∧ Row wr gc 27 .u8 (clamp key) ∧ Row wr gk 22 .u8 (blend F key q)) (fun i _ => 16 - (intOf i).toNat)
    case atStart => exact ⟨0, by omega, rfl, b6, k6, c6, by rw [blend_zero]; exact r6⟩
    case round =>
      clear b6 k6 c6 r6
      obtain ⟨q, hq, rfl, hbl, kr, cr, fr⟩ := hrel
      have hq0 : (0 : Int) ≤ (q : Int) := by omega
      have hLen : F.length = key.length := by rw [HFL.out, HK.out]
      by_cases hlq : q < 16
      · have hlq' : (q : Int) < 16 := by omega
        have hq32 : (q : Int) < 32 := by omega
        have cc := cr.cell (i := q) (by rw [HCL.out]; exact hlq)
        have hset := blend_set hLen (i := q) (by rw [HK.out]; omega)
        rw [HF0.out q hlq] at hset
        have HSET := Lib.hid hset
        have HB := Lib.hid (show (blend F key q).length = 32 by rw [blend_length hLen, HK.out])
        have hx := (clamp_bytes hkb).at_ q
        clear hset hLen
        generalize (clamp key).getD q 0 = x at *
        have w0 : (Lit.int .u8 x).wf = true := wf_byte hx
        go_wp2_with (refine wpList_store_elem (w := wr) rfl 5 _ _ rfl gk q rfl 22 .u8 _ x rfl fr (by rw [HB.out]; omega) info_u8 w0 ?_; intro w8 q8 g8 z8; rw [HSET.out] at q8)
        go_roundw
        case rel => exact ⟨q + 1, by omega, by go_num, hbl.grown g8 hbl.size (fun r e => by cases e; omega), kr.grown g8 (by intro e; injection e with e; omega), cr.grown g8 (by intro e; injection e with e; omega), q8⟩
        case measure => simp [intOf]; omega
      · have hq16 : q = 16 := by omega
        have hnl : ¬ (q : Int) < 16 := by omega
        rw [hq16, blend_rest hLen 16 (fun j hj _ => HF1.out j hj)] at fr
        clear hq16 hlq hq hLen
        go_wp2_with fail
        have b := hbl
        obtain ⟨wz, rfl⟩ : ∃ wz, wz = wr := ⟨_, rfl⟩
        have kz := kr
        have cz := cr
        have fz := fr
        have iz := (h.below b).more b.size
        refine wp_region_held (S := fun W => Below wz.heap.size wz W) (by kernel_rfl) ?_
        change wpAnyH _ _ _ _ _ _ _ _ wz.drew
        have c0_0 := (Below.refl wz.heap.size wz).drew
        refine Held.one 0 (by kernel_rfl) ?_
        refine Held.op_call 0 (some 24) 9 #[] rfl rfl rfl rfl (enters_of Tryd.func9 (by kernel_rfl) rfl) (by simp)
          (awake6_b _ (hT.below (b.trans (c0_0.mono b.size)) hT.lt)) ?_
        rintro e w1 ⟨rfl, b1⟩
        have c0_1 := c0_0.trans (b1.mono c0_0.size)
        refine ⟨_, rfl, c0_1, ?_⟩
        simp only [Act.put, List.setIfInBounds_toArray, List.set_cons_zero, List.set_cons_succ]
        refine Held.take (v := .bool true) 1 (some 25) rfl rfl (by kernel_rfl) (by kernel_rfl) (by kernel_rfl) (fun _ _ _ h => h) rfl (Held.y_move rfl rfl) c0_1 ?_
        simp only [Act.put, List.setIfInBounds_toArray, List.set_cons_zero, List.set_cons_succ]
        refine Held.take (v := .agg (arr .u8 F)) 2 (some 26) rfl rfl (by kernel_rfl) (by kernel_rfl) (by kernel_rfl) (fun _ _ _ h => h) rfl (Held.y_load_Row (zs := F) rfl rfl Tryd.underlying22 info_key HFL.out (fun W hW => Row.below fz hW fz.lt)) c0_1 ?_
        simp only [Act.put, List.setIfInBounds_toArray, List.set_cons_zero, List.set_cons_succ]
        refine Held.take (v := .agg (arr .u8 (clamp key))) 4 (some 28) rfl rfl (by kernel_rfl) (by kernel_rfl) (by kernel_rfl) (fun _ _ _ h => h) rfl (Held.y_load_Row (zs := (clamp key)) rfl rfl Tryd.underlying27 info_16b HCL.out (fun W hW => Row.below cz hW cz.lt)) c0_1 ?_
        simp only [Act.put, List.setIfInBounds_toArray, List.set_cons_zero, List.set_cons_succ]
        refine Held.one 3 (by kernel_rfl) ?_
        refine Held.op_call 3 (some 27) 13 #[.agg (arr .u8 F)] rfl rfl rfl rfl (enters_of Tryd.func13 (by kernel_rfl) rfl) (by simp [Act.eval])
          (clamp_any F _ HFL.out HFB.out (hT.below (b.trans (c0_1.mono b.size)) hT.lt)) ?_
        rw [HCF.out]
        rintro e w2 ⟨rfl, b2⟩
        have c0_2 := c0_1.trans (b2.mono c0_1.size)
        refine ⟨_, rfl, c0_2, ?_⟩
        simp only [Act.put, List.setIfInBounds_toArray, List.set_cons_zero, List.set_cons_succ]
        refine Held.take (v := .bool true) 5 (some 29) rfl rfl (by kernel_rfl) (by kernel_rfl) (by kernel_rfl) (fun _ _ _ h => h) rfl (Held.y_eql rfl rfl rfl (by kernel_rfl) Tryd.underlying27 Tryd.underlying5 (by kernel_rfl) HCL.out) c0_2 ?_
        simp only [Act.put, List.setIfInBounds_toArray, List.set_cons_zero, List.set_cons_succ]
        refine Held.take (v := .bool true) 6 (some 30) rfl rfl (by kernel_rfl) (by kernel_rfl) (by kernel_rfl) (fun _ _ _ h => h) rfl (Held.y_pick rfl rfl rfl) c0_2 ?_
        simp only [Act.put, List.setIfInBounds_toArray, List.set_cons_zero, List.set_cons_succ]
        refine Held.take (v := .bool true) 7 (some 31) rfl rfl (by kernel_rfl) (by kernel_rfl) (by kernel_rfl) (fun _ _ _ h => h) rfl (Held.y_move rfl rfl) c0_2 ?_
        simp only [Act.put, List.setIfInBounds_toArray, List.set_cons_zero, List.set_cons_succ]
        refine Held.take (v := .agg (arr .u8 F)) 8 (some 32) rfl rfl (by kernel_rfl) (by kernel_rfl) (by kernel_rfl) (fun _ _ _ h => h) rfl (Held.y_load_Row (zs := F) rfl rfl Tryd.underlying22 info_key HFL.out (fun W hW => Row.below fz hW fz.lt)) c0_2 ?_
        simp only [Act.put, List.setIfInBounds_toArray, List.set_cons_zero, List.set_cons_succ]
        refine Held.take (v := .slice A m c) 9 (some 33) rfl rfl (by kernel_rfl) (by kernel_rfl) (by kernel_rfl) (fun _ _ _ h => h) rfl (Held.y_move rfl rfl) c0_2 ?_
        simp only [Act.put, List.setIfInBounds_toArray, List.set_cons_zero, List.set_cons_succ]
        refine Held.take (v := .agg (arr .u8 key)) 12 (some 36) rfl rfl (by kernel_rfl) (by kernel_rfl) (by kernel_rfl) (fun _ _ _ h => h) rfl (Held.y_load_Row (zs := key) rfl rfl Tryd.underlying22 info_key HK.out (fun W hW => Row.below kz hW kz.lt)) c0_2 ?_
        simp only [Act.put, List.setIfInBounds_toArray, List.set_cons_zero, List.set_cons_succ]
        refine Held.take (v := .slice A m c) 13 (some 37) rfl rfl (by kernel_rfl) (by kernel_rfl) (by kernel_rfl) (fun _ _ _ h => h) rfl (Held.y_move rfl rfl) c0_2 ?_
        simp only [Act.put, List.setIfInBounds_toArray, List.set_cons_zero, List.set_cons_succ]
        refine Held.two 10 14 (by kernel_rfl) ?_ ?_
        · refine Held.op_build 10 (some 34) 23 25 1 (.slice none 0 0) 24 [.slice A m c] rfl rfl rfl rfl Tryd.underlying23 info_bytes (by simp [Act.eval]) (by simp [Value.cells]) (by simp [Value.oneCell']) rfl (by omega) (by omega) ?_
          intro p10 w3 v10 b3
          have c0_3 := c0_2.trans (b3.mono c0_2.size)
          have c3_3 := Below.refl w3.heap.size w3
          refine ⟨c0_3, ?_⟩
          simp only [Act.put, List.setIfInBounds_toArray, List.set_cons_zero, List.set_cons_succ]
          refine Held.two 11 14 (by kernel_rfl) ?_ ?_
          · refine Held.op_call 11 (some 35) 11 #[.agg (arr .u8 F), .slice (some ⟨p10, 0, none⟩) 1 1] rfl rfl rfl rfl (enters_of Tryd.func11 (by kernel_rfl) rfl) (by simp [Act.eval])
              (tag_1 F (some ⟨p10, 0, none⟩) A m c bs _ HFL.out HFB.out (v10.below c3_3 |>.more c3_3.size) ((iz.below c0_3).more c0_3.size) hmc hcm (by omega) hbs (hT.below (b.trans (c0_3.mono b.size)) hT.lt)) ?_
            rw [HPF.out]
            rintro e w4 ⟨rfl, b4⟩
            have c0_4 := c0_3.trans (b4.mono c0_3.size)
            have c3_4 := b4
            refine ⟨_, rfl, c0_4, ?_⟩
            simp only [Act.put, List.setIfInBounds_toArray, List.set_cons_zero, List.set_cons_succ]
            refine Held.one 14 (by kernel_rfl) ?_
            refine Held.op_build 14 (some 38) 23 25 1 (.slice none 0 0) 24 [.slice A m c] rfl rfl rfl rfl Tryd.underlying23 info_bytes (by simp [Act.eval]) (by simp [Value.cells]) (by simp [Value.oneCell']) rfl (by omega) (by omega) ?_
            intro p14 w5 v14 b5
            have c0_5 := c0_4.trans (b5.mono c0_4.size)
            have c3_5 := c3_4.trans (b5.mono c3_4.size)
            have c5_5 := Below.refl w5.heap.size w5
            refine ⟨c0_5, ?_⟩
            simp only [Act.put, List.setIfInBounds_toArray, List.set_cons_zero, List.set_cons_succ]
            refine Held.one 15 (by kernel_rfl) ?_
            refine Held.op_call 15 (some 39) 11 #[.agg (arr .u8 key), .slice (some ⟨p14, 0, none⟩) 1 1] rfl rfl rfl rfl (enters_of Tryd.func11 (by kernel_rfl) rfl) (by simp [Act.eval])
              (tag_1 key (some ⟨p14, 0, none⟩) A m c bs _ HK.out hkb (v14.below c5_5 |>.more c5_5.size) ((iz.below c0_5).more c0_5.size) hmc hcm (by omega) hbs (hT.below (b.trans (c0_5.mono b.size)) hT.lt)) ?_
            rintro e w6 ⟨rfl, b6⟩
            have c0_6 := c0_5.trans (b6.mono c0_5.size)
            have c3_6 := c3_5.trans (b6.mono c3_5.size)
            have c5_6 := b6
            refine ⟨_, rfl, c0_6, ?_⟩
            simp only [Act.put, List.setIfInBounds_toArray, List.set_cons_zero, List.set_cons_succ]
            refine Held.take (v := .bool true) 16 (some 40) rfl rfl (by kernel_rfl) (by kernel_rfl) (by kernel_rfl) (fun _ _ _ h => h) rfl (Held.y_eql rfl rfl rfl (by kernel_rfl) Tryd.underlying27 Tryd.underlying5 (by kernel_rfl) HPL.out) c0_6 ?_
            simp only [Act.put, List.setIfInBounds_toArray, List.set_cons_zero, List.set_cons_succ]
            refine Held.take (v := .bool true) 17 (some 41) rfl rfl (by kernel_rfl) (by kernel_rfl) (by kernel_rfl) (fun _ _ _ h => h) rfl (Held.y_pick rfl rfl rfl) c0_6 ?_
            simp only [Act.put, List.setIfInBounds_toArray, List.set_cons_zero, List.set_cons_succ]
            refine Held.take (v := .bool true) 18 (some 4) rfl rfl (by kernel_rfl) (by kernel_rfl) (by kernel_rfl) (fun _ _ _ h => h) rfl (Held.y_assign rfl rfl) c0_6 ?_
            simp only [Act.put, List.setIfInBounds_toArray, List.set_cons_zero, List.set_cons_succ]
            refine wpAnyH_done (by kernel_rfl) ?_ _
            go_wp2_with fail
            go_ret
            exact ⟨rfl, b.trans (c0_6.mono b.size)⟩
          · refine Held.op_build 14 (some 38) 23 25 1 (.slice none 0 0) 24 [.slice A m c] rfl rfl rfl rfl Tryd.underlying23 info_bytes (by simp [Act.eval]) (by simp [Value.cells]) (by simp [Value.oneCell']) rfl (by omega) (by omega) ?_
            intro p14 w4 v14 b4
            have c0_4 := c0_3.trans (b4.mono c0_3.size)
            have c3_4 := b4
            have c4_4 := Below.refl w4.heap.size w4
            refine ⟨c0_4, ?_⟩
            simp only [Act.put, List.setIfInBounds_toArray, List.set_cons_zero, List.set_cons_succ]
            refine Held.one 11 (by kernel_rfl) ?_
            refine Held.op_call 11 (some 35) 11 #[.agg (arr .u8 F), .slice (some ⟨p10, 0, none⟩) 1 1] rfl rfl rfl rfl (enters_of Tryd.func11 (by kernel_rfl) rfl) (by simp [Act.eval])
              (tag_1 F (some ⟨p10, 0, none⟩) A m c bs _ HFL.out HFB.out (v10.below c3_4 |>.more c3_4.size) ((iz.below c0_4).more c0_4.size) hmc hcm (by omega) hbs (hT.below (b.trans (c0_4.mono b.size)) hT.lt)) ?_
            rw [HPF.out]
            rintro e w5 ⟨rfl, b5⟩
            have c0_5 := c0_4.trans (b5.mono c0_4.size)
            have c3_5 := c3_4.trans (b5.mono c3_4.size)
            have c4_5 := b5
            refine ⟨_, rfl, c0_5, ?_⟩
            simp only [Act.put, List.setIfInBounds_toArray, List.set_cons_zero, List.set_cons_succ]
            refine Held.one 15 (by kernel_rfl) ?_
            refine Held.op_call 15 (some 39) 11 #[.agg (arr .u8 key), .slice (some ⟨p14, 0, none⟩) 1 1] rfl rfl rfl rfl (enters_of Tryd.func11 (by kernel_rfl) rfl) (by simp [Act.eval])
              (tag_1 key (some ⟨p14, 0, none⟩) A m c bs _ HK.out hkb (v14.below c4_5 |>.more c4_5.size) ((iz.below c0_5).more c0_5.size) hmc hcm (by omega) hbs (hT.below (b.trans (c0_5.mono b.size)) hT.lt)) ?_
            rintro e w6 ⟨rfl, b6⟩
            have c0_6 := c0_5.trans (b6.mono c0_5.size)
            have c3_6 := c3_5.trans (b6.mono c3_5.size)
            have c4_6 := c4_5.trans (b6.mono c4_5.size)
            refine ⟨_, rfl, c0_6, ?_⟩
            simp only [Act.put, List.setIfInBounds_toArray, List.set_cons_zero, List.set_cons_succ]
            refine Held.take (v := .bool true) 16 (some 40) rfl rfl (by kernel_rfl) (by kernel_rfl) (by kernel_rfl) (fun _ _ _ h => h) rfl (Held.y_eql rfl rfl rfl (by kernel_rfl) Tryd.underlying27 Tryd.underlying5 (by kernel_rfl) HPL.out) c0_6 ?_
            simp only [Act.put, List.setIfInBounds_toArray, List.set_cons_zero, List.set_cons_succ]
            refine Held.take (v := .bool true) 17 (some 41) rfl rfl (by kernel_rfl) (by kernel_rfl) (by kernel_rfl) (fun _ _ _ h => h) rfl (Held.y_pick rfl rfl rfl) c0_6 ?_
            simp only [Act.put, List.setIfInBounds_toArray, List.set_cons_zero, List.set_cons_succ]
            refine Held.take (v := .bool true) 18 (some 4) rfl rfl (by kernel_rfl) (by kernel_rfl) (by kernel_rfl) (fun _ _ _ h => h) rfl (Held.y_assign rfl rfl) c0_6 ?_
            simp only [Act.put, List.setIfInBounds_toArray, List.set_cons_zero, List.set_cons_succ]
            refine wpAnyH_done (by kernel_rfl) ?_ _
            go_wp2_with fail
            go_ret
            exact ⟨rfl, b.trans (c0_6.mono b.size)⟩
        · refine Held.op_build 14 (some 38) 23 25 1 (.slice none 0 0) 24 [.slice A m c] rfl rfl rfl rfl Tryd.underlying23 info_bytes (by simp [Act.eval]) (by simp [Value.cells]) (by simp [Value.oneCell']) rfl (by omega) (by omega) ?_
          intro p14 w3 v14 b3
          have c0_3 := c0_2.trans (b3.mono c0_2.size)
          have c3_3 := Below.refl w3.heap.size w3
          refine ⟨c0_3, ?_⟩
          simp only [Act.put, List.setIfInBounds_toArray, List.set_cons_zero, List.set_cons_succ]
          refine Held.one 10 (by kernel_rfl) ?_
          refine Held.op_build 10 (some 34) 23 25 1 (.slice none 0 0) 24 [.slice A m c] rfl rfl rfl rfl Tryd.underlying23 info_bytes (by simp [Act.eval]) (by simp [Value.cells]) (by simp [Value.oneCell']) rfl (by omega) (by omega) ?_
          intro p10 w4 v10 b4
          have c0_4 := c0_3.trans (b4.mono c0_3.size)
          have c3_4 := b4
          have c4_4 := Below.refl w4.heap.size w4
          refine ⟨c0_4, ?_⟩
          simp only [Act.put, List.setIfInBounds_toArray, List.set_cons_zero, List.set_cons_succ]
          refine Held.one 11 (by kernel_rfl) ?_
          refine Held.op_call 11 (some 35) 11 #[.agg (arr .u8 F), .slice (some ⟨p10, 0, none⟩) 1 1] rfl rfl rfl rfl (enters_of Tryd.func11 (by kernel_rfl) rfl) (by simp [Act.eval])
            (tag_1 F (some ⟨p10, 0, none⟩) A m c bs _ HFL.out HFB.out (v10.below c4_4 |>.more c4_4.size) ((iz.below c0_4).more c0_4.size) hmc hcm (by omega) hbs (hT.below (b.trans (c0_4.mono b.size)) hT.lt)) ?_
          rw [HPF.out]
          rintro e w5 ⟨rfl, b5⟩
          have c0_5 := c0_4.trans (b5.mono c0_4.size)
          have c3_5 := c3_4.trans (b5.mono c3_4.size)
          have c4_5 := b5
          refine ⟨_, rfl, c0_5, ?_⟩
          simp only [Act.put, List.setIfInBounds_toArray, List.set_cons_zero, List.set_cons_succ]
          refine Held.one 15 (by kernel_rfl) ?_
          refine Held.op_call 15 (some 39) 11 #[.agg (arr .u8 key), .slice (some ⟨p14, 0, none⟩) 1 1] rfl rfl rfl rfl (enters_of Tryd.func11 (by kernel_rfl) rfl) (by simp [Act.eval])
            (tag_1 key (some ⟨p14, 0, none⟩) A m c bs _ HK.out hkb (v14.below c3_5 |>.more c3_5.size) ((iz.below c0_5).more c0_5.size) hmc hcm (by omega) hbs (hT.below (b.trans (c0_5.mono b.size)) hT.lt)) ?_
          rintro e w6 ⟨rfl, b6⟩
          have c0_6 := c0_5.trans (b6.mono c0_5.size)
          have c3_6 := c3_5.trans (b6.mono c3_5.size)
          have c4_6 := c4_5.trans (b6.mono c4_5.size)
          refine ⟨_, rfl, c0_6, ?_⟩
          simp only [Act.put, List.setIfInBounds_toArray, List.set_cons_zero, List.set_cons_succ]
          refine Held.take (v := .bool true) 16 (some 40) rfl rfl (by kernel_rfl) (by kernel_rfl) (by kernel_rfl) (fun _ _ _ h => h) rfl (Held.y_eql rfl rfl rfl (by kernel_rfl) Tryd.underlying27 Tryd.underlying5 (by kernel_rfl) HPL.out) c0_6 ?_
          simp only [Act.put, List.setIfInBounds_toArray, List.set_cons_zero, List.set_cons_succ]
          refine Held.take (v := .bool true) 17 (some 41) rfl rfl (by kernel_rfl) (by kernel_rfl) (by kernel_rfl) (fun _ _ _ h => h) rfl (Held.y_pick rfl rfl rfl) c0_6 ?_
          simp only [Act.put, List.setIfInBounds_toArray, List.set_cons_zero, List.set_cons_succ]
          refine Held.take (v := .bool true) 18 (some 4) rfl rfl (by kernel_rfl) (by kernel_rfl) (by kernel_rfl) (fun _ _ _ h => h) rfl (Held.y_assign rfl rfl) c0_6 ?_
          simp only [Act.put, List.setIfInBounds_toArray, List.set_cons_zero, List.set_cons_succ]
          refine wpAnyH_done (by kernel_rfl) ?_ _
          go_wp2_with fail
          go_ret
          exact ⟨rfl, b.trans (c0_6.mono b.size)⟩

theorem walk (z0 : List Int) (a1 : Option Addr) (len1 cap1 : Nat) (z1 : List Int) (w : World) (zl0 : z0.length = 32) (zw0 : ∀ z ∈ z0, (Lit.int .u8 z).wf = true) (w1 : IsRow .u8 w a1 len1 cap1 z1) (hL : laidMetH Tryd.prog laidList w) :
    Calls Tryd.prog 7 #[.agg (Mem.arr .u8 z0), .slice a1 len1 cap1] w fun e w' => e = .returned (.bool true) ∧ Below w.heap.size w w' := by
  obtain ⟨h, hl, hm⟩ := ints_of_row w1
  exact start z0 a1 len1 cap1 _ w h hl hm zl0 (bs_of_wf zw0) (poly_of_laid hL)

set_option maxRecDepth 100000 in
theorem door_met (os : Os) (args : Array Value) : laidMetH Tryd.prog laidList ((World.doorLaid Tryd.prog 400 os).forCall (fun _ _ => 0) ⟨#[], args, []⟩).memory :=
  laidMetH_of_parts3 (fuel := 8) (laidMet_of_run' 8 (by kernel_rfl) (by kernel_rfl)) (by kernel_rfl) (by kernel_rfl)

set_option maxRecDepth 100000 in
theorem lifted (os : Os) (started : os.Started) (H : Type) (enc : TypeId × Value → H) :
    ReturnsInHanded {} Tryd.checked os 7 .any (fun w args => (Rows.polyClampsSpec.pre enc Tryd.prog Tryd.f7 [] false w args ∧ laidMetH Tryd.prog laidList w) ∧ sizedMet enc Tryd.prog Tryd.f7 (OpenSpec.ofChange Rows.polyClampsSpec) false w args)
      (Rows.polyClampsSpec.post enc Tryd.prog Tryd.f7 false true false false) := by
  refine returnsInHanded_of_change_and (C := Tryd.checked) (X := fun w _ => laidMetH Tryd.prog laidList w) (fun _ _ _ hh h => h.of_heap hh) own started (by kernel_rfl) Tryd.func7
    (ChangeSpec.witness_shaped (enc := enc) (C := Tryd.checked) (os := os) (X := fun w _ => laidMetH Tryd.prog laidList w) false (World.doorLaid Tryd.prog 400 os) #[.agg (Array.replicate 32 (.int .u8 0)), .slice none 0 0] 8 rfl (World.shaped_of_RefB (by kernel_rfl) (by kernel_rfl)) (by kernel_rfl) (by kernel_rfl) (by kernel_rfl) (door_met os _)) ?_
  intro W base args ds gs before hval0 hW _ _ hL _
  have hval : ∀ (j : Nat) t v, Tryd.f7.params[j]? = some t → args[j]? = some v → Value.okWide Tryd.prog W .any base t v := hval0
  have hW' := hW
  obtain ⟨p, q, hA0, hV, rfl, hfz, hnd⟩ := hW
  have hA : DataW.TrodAll enc Tryd.prog W 0 (fun _ => true) true Tryd.f7.params.toList args.toList ds p := hA0
  rw [Tryd.params7] at hA hval
  obtain ⟨v0, vs0, d0, ds0, p0, q0, hargs, rfl, rfl, h0, r0⟩ := trodAll_cons hA
  obtain ⟨v1, vs1, d1, ds1, p1, q1, rfl, rfl, rfl, h1, r1⟩ := trodAll_cons r0
  obtain ⟨rfl, rfl, rfl⟩ := trodAll_nil r1
  obtain rfl : args = #[v0, v1] := by cases args; simp_all
  obtain ⟨rfl, rfl⟩ := trodVars_none hV
  have k0 := h0
  have lt0 : ∀ x ∈ p0, x.block < W.heap.size := by obtain ⟨m, hm⟩ := k0; exact DataW.trod_lt m _ _ _ hm
  obtain ⟨z0, rfl, zl0, zw0⟩ := Mem.open_arr Tryd.underlying22 Tryd.underlying5 (by kernel_rfl) (by kernel_rfl) (hval 0 22 v0 rfl rfl) h0
  obtain ⟨a1, len1, cap1, rfl⟩ := okWide_slice Tryd.underlying25 (hval 1 25 v1 rfl rfl)
  have k1 := h1
  have lt1 : ∀ x ∈ p1, x.block < W.heap.size := by obtain ⟨m, hm⟩ := k1; exact DataW.trod_lt m _ _ _ hm
  obtain ⟨z1, w1⟩ : ∃ zs, IsRow .u8 W a1 len1 cap1 zs := by
    obtain ⟨fuel, hf⟩ := h1
    rcases open_ints Tryd.underlying25 Tryd.underlying5 (by kernel_rfl) hf with ⟨hcs, _⟩ | ⟨x, l, c, zs, hcs, _, hl, hm, hz, _, hcell, hwz⟩
    · simp [Value.cells] at hcs
      obtain ⟨rfl, rfl, rfl⟩ := hcs
      exact ⟨[], .inl ⟨rfl, rfl, rfl, rfl⟩⟩
    · simp [Value.cells] at hcs
      obtain ⟨rfl, rfl, rfl⟩ := hcs
      exact ⟨zs, .inr ⟨_, rfl, hl, hm, by simpa using hz, hcell, hwz⟩⟩
  clear hA0 hval0
  refine (walk z0 a1 len1 cap1 z1 W zl0 zw0 w1 hL).mono fun e W' ⟨he, bel⟩ => ?_
  subst he
  exact ⟨_, rfl, _, _, _, [], _, [], hW', trodAll_mk1 (shut_bool Tryd.underlying4 _), (trodAll_cons_mk (Below.trod laidOut (by kernel_rfl) (of_decide_eq_true (by kernel_rfl)) k0 bel lt0) (trodAll_cons_mk (Below.trod laidOut (by kernel_rfl) (of_decide_eq_true (by kernel_rfl)) k1 bel lt1) trodAll_mk0)), rfl, bel.frame _, fun h => by cases h⟩

theorem over : Rows.polyClampsRow.holds Tryd.pinned (OpenSpec.ofChange Rows.polyClampsSpec) :=
  OpenClaim.holds_of_wide 7 Tryd.f7 rfl rfl rfl rfl rfl rfl rfl ⟨rfl, rfl, rfl, rfl, rfl⟩ rfl rfl rfl rfl rfl (by kernel_rfl) Tryd.func7 (by kernel_rfl)
    (of_decide_eq_true (by kernel_rfl)) (by unfold Func.isWrapper; first | (rw [if_pos (by decide +kernel)]; kernel_rfl) | (rw [if_neg (by decide +kernel)]; exact ⟨rfl, rfl⟩))
    (fun os started H enc _ => lifted os started H enc)

/-- the statement -/
theorem proved : Rows.PolyClampsCardSaid :=
  Claim7.holds_tied_plain_at .later [] [.data] true (true, "9d09f719a415488d530ca78bf13ef0359f19f2341467271f1f7cb433901f189e") false
    over (fun _ h => by cases h) (by kernel_rfl) (fun _ h => by cases h) polyClamps_row_tie rfl ⟨rfl, rfl⟩ (by kernel_rfl) rfl
    (fun f fn hf hfn => by
      obtain rfl : f = 7 := Option.some.inj ((show Tryd.prog.funcNamed "domino/dominolaw06.PolyClamps" = some 7 by kernel_rfl).symm.trans hf) |>.symm
      obtain rfl : fn = Tryd.f7 := (Option.some.inj (Tryd.func7.symm.trans hfn)).symm
      exact ⟨by kernel_rfl, fun j t ht => by
        rw [Tryd.params7] at ht
        have hm : t ∈ [22, 25] := by simpa using Array.mem_of_getElem? ht
        have hall : ([22, 25].all fun u => !Tryd.prog.wantsStandIn u) = true := by kernel_rfl
        exact (show Tryd.prog.wantsStandIn t = false by simpa using List.all_eq_true.1 hall t hm)⟩)
    (by kernel_rfl)
#print axioms proved
end Go.Proofs.YtebkicikpeicmaaDoor.polyClamps
