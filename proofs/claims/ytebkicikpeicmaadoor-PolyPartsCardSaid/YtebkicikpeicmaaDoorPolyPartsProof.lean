/-
  The law PolyParts of package dominolaw06 returns true for every key, bytes and number: where bytes are cut plays no part. The table of kept bits of package poly holds what the program's text lays.
-/
import Derived.Test.YtebkicikpeicmaaDoorRows
import Derived.Test.YtebkicikpeicmaaDoorCards
import Derived.Test.YtebkicikpeicmaaDoorTie
import Derived.SevenTiedAt
import Derived.WalkKit
import Derived.ProofKit
import Derived.OpenShut
import Derived.ShutString
import Derived.ChangeOld
import Derived.Below
import Derived.LaidMore
import Derived.Stop.Joined
import Derived.Test.YtebkicikpeicmaaDoorPy7
import Derived.Test.YtebkicikpeicmaaDoorCut
import Derived.Test.YtebkicikpeicmaaDoorArrP
namespace Go.Proofs.YtebkicikpeicmaaDoor.polyParts
open Go.ChangeShapes Go.WideShapes Go.ChangeAt Go.RowKit
open Go.ChangeMaps (open_string shut_string)
open Go.Shelf Go.Proofs.YtebkicikpeicmaaDoor.Mem Go.Proofs.YtebkicikpeicmaaDoor.Help Go.Proofs.YtebkicikpeicmaaDoor.Sum Go.Proofs.YtebkicikpeicmaaDoor.Sha Go.Proofs.YtebkicikpeicmaaDoor.Po Go.Proofs.YtebkicikpeicmaaDoor
set_option linter.unusedVariables false

theorem own : ownKnob Tryd.prog.godebug = none := by kernel_rfl
theorem laidOut : laidOutB Tryd.prog = true := by kernel_rfl

/-- what a slice that came in leads to -/
def IsRow (k : IntKind) (w : World) (a : Option Addr) (len cap : Nat) (zs : List Int) : Prop :=
  (a = none ∧ len = 0 ∧ cap = 0 ∧ zs = []) ∨
  ∃ x, a = some x ∧ len ≤ cap ∧ cap ≤ maxLen ∧ zs.length = cap ∧ (∀ i, i < zs.length → w.cell? (x.add i) = some (.int k (zs.getD i 0))) ∧ ∀ n ∈ zs, (Lit.int k n).wf = true

def laidList : List (String × DataW Unit) := [("domino/poly.kept", Rows.laid_domino_poly_kept)]

attribute [local irreducible] wpList Calls
theorem info_bytes : (Tryd.prog.info? 25).map (fun i => (i.zero, i.size, i.bytes)) = some (some (.slice none 0 0), 1, 24) := by kernel_rfl
set_option maxRecDepth 100000 in
set_option maxHeartbeats 8000000 in
theorem start (key : List Int) (A : Option Addr) (m c : Nat) (bs : List Int) (x : Int) (w : World) (h : Ints w .u8 w.heap.size A m bs) (hmc : m ≤ c) (hcm : c ≤ maxLen) (hfl : Flat A c)
    (hk : key.length = 32) (hkb : Bs key) (hT : TabK w 0 .u8 keptI) :
    Calls Tryd.prog 8 #[.agg (arr .u8 key), .slice A m c, .int .i64 x] w fun e w' => e = .returned (.bool true) ∧ Below w.heap.size w w' := by
  have HK := Lib.hid hk
  have hbs := bs_of_wf h.2.1
  clear hk
  go_enter Tryd.func8, Tryd.ntmps8
  by_cases hbig : 500 < m
  · have q : (500 : Int) < (m : Int) := by omega
    go_wp2_with (refine wpList_box_Row (w := w) rfl 22 _ rfl .u8 key rfl (bs_wf hkb) ?_; intro w1 r1 g1 z1)
    have b1 : Below w.heap.size w w1 := (Below.refl _ w).grown g1 (Nat.le_refl _) (by simp)
    refine (awake6_b _ (hT.below b1 hT.lt)).mono ?_
    rintro e w' ⟨rfl, hb⟩
    go_wp2_with fail
    go_ret
    exact ⟨rfl, b1.trans (hb.mono b1.size)⟩
  · have q : ¬ (500 : Int) < (m : Int) := by omega
    obtain ⟨L, hL⟩ : ∃ L : Nat, L = m + 1 := ⟨_, rfl⟩
    have hm0 : (0 : Int) ≤ (m : Int) := by omega
    have hu : IntKind.u64.wrap ((m : Int) + 1) = (L : Int) := by rw [IntKind.wrap_u64]; omega
    have hL0 : ¬ (L : Int) = 0 := by omega
    obtain ⟨t, ht, ht2⟩ : ∃ t : Nat, wrap64 ((IntKind.u64.wrap x).tmod (L : Int)) = (t : Int) ∧ t < L := by
      have hu0 : 0 ≤ IntKind.u64.wrap x := by rw [IntKind.wrap_u64]; omega
      have h1 : 0 ≤ IntKind.u64.wrap x % (L : Int) := Int.emod_nonneg _ (by omega)
      have h2 : IntKind.u64.wrap x % (L : Int) < L := Int.emod_lt_of_pos _ (by omega)
      rw [Int.tmod_eq_emod_of_nonneg hu0]
      exact ⟨(IntKind.u64.wrap x % (L : Int)).toNat, by unfold wrap64; omega, by omega⟩
    have htm : t ≤ m := by omega
    have htc : t ≤ c := by omega
    have HL := Lib.hid hL
    clear hL ht2
    go_wp2_with (refine wpList_box_Row (w := w) rfl 22 _ rfl .u8 key rfl (bs_wf hkb) ?_; intro wz kz g1 z1)
    clear ht hu hL0
    have b : Below w.heap.size w wz := (Below.refl _ w).grown g1 (Nat.le_refl _) (by simp)
    have iz := (h.below b).more b.size
    have iF := iz.front htm
    have HPL := Lib.hid (poly_length key bs)
    have HBL := Lib.hid (show bs.length ≤ 1099511627776 by rw [h.1]; omega)
    have hsf : ∀ W, (Instr.sliceAt 25 (.slice A m c) none (some (.int .i64 (t : Int))) none).run Tryd.prog W = .ok (.slice A t c) W := fun W => run_front (P := Tryd.prog) (t := 25) (e := 5) (n := m) Tryd.underlying25 (by kernel_rfl) hfl (h := t) htc W
    obtain ⟨Ab, hsb, _, ib⟩ := run_back (P := Tryd.prog) (t := 25) (e := 5) Tryd.underlying25 (by kernel_rfl) hfl hmc htm iz
    clear g1 z1
    refine wp_region_held (S := fun W => Below wz.heap.size wz W) (by kernel_rfl) ?_
    change wpAnyH _ _ _ _ _ _ _ _ wz.drew
    have c0_0 := (Below.refl wz.heap.size wz).drew
    refine Held.one 0 (by kernel_rfl) ?_
    refine Held.op_call 0 (some 20) 9 #[] rfl rfl rfl rfl (enters_of Tryd.func9 (by kernel_rfl) rfl) (by simp)
      (awake6_b _ (hT.below (b.trans (c0_0.mono b.size)) hT.lt)) ?_
    rintro e w1 ⟨rfl, b1⟩
    have c0_1 := c0_0.trans (b1.mono c0_0.size)
    refine ⟨_, rfl, c0_1, ?_⟩
    simp only [Act.put, List.setIfInBounds_toArray, List.set_cons_zero, List.set_cons_succ]
    refine Held.take (v := .bool true) 1 (some 21) rfl rfl (by kernel_rfl) (by kernel_rfl) (by kernel_rfl) (fun _ _ _ h => h) rfl (Held.y_move rfl rfl) c0_1 ?_
    simp only [Act.put, List.setIfInBounds_toArray, List.set_cons_zero, List.set_cons_succ]
    refine Held.take (v := .agg (arr .u8 key)) 2 (some 22) rfl rfl (by kernel_rfl) (by kernel_rfl) (by kernel_rfl) (fun _ _ _ h => h) rfl (Held.y_load_Row (zs := key) rfl rfl Tryd.underlying22 info_key HK.out (fun W hW => Row.below kz hW kz.lt)) c0_1 ?_
    simp only [Act.put, List.setIfInBounds_toArray, List.set_cons_zero, List.set_cons_succ]
    refine Held.take (v := .slice A m c) 3 (some 23) rfl rfl (by kernel_rfl) (by kernel_rfl) (by kernel_rfl) (fun _ _ _ h => h) rfl (Held.y_move rfl rfl) c0_1 ?_
    simp only [Act.put, List.setIfInBounds_toArray, List.set_cons_zero, List.set_cons_succ]
    refine Held.take (v := .int .i64 (t : Int)) 4 (some 24) rfl rfl (by kernel_rfl) (by kernel_rfl) (by kernel_rfl) (fun _ _ _ h => h) rfl (Held.y_move rfl rfl) c0_1 ?_
    simp only [Act.put, List.setIfInBounds_toArray, List.set_cons_zero, List.set_cons_succ]
    refine Held.take (v := .slice A t c) 5 (some 25) rfl rfl (by kernel_rfl) (by kernel_rfl) (by kernel_rfl) (fun _ _ _ h => h) rfl (Held.y_slice rfl hsf) c0_1 ?_
    simp only [Act.put, List.setIfInBounds_toArray, List.set_cons_zero, List.set_cons_succ]
    refine Held.take (v := .slice A m c) 6 (some 26) rfl rfl (by kernel_rfl) (by kernel_rfl) (by kernel_rfl) (fun _ _ _ h => h) rfl (Held.y_move rfl rfl) c0_1 ?_
    simp only [Act.put, List.setIfInBounds_toArray, List.set_cons_zero, List.set_cons_succ]
    refine Held.take (v := .int .i64 (t : Int)) 7 (some 27) rfl rfl (by kernel_rfl) (by kernel_rfl) (by kernel_rfl) (fun _ _ _ h => h) rfl (Held.y_move rfl rfl) c0_1 ?_
    simp only [Act.put, List.setIfInBounds_toArray, List.set_cons_zero, List.set_cons_succ]
    refine Held.take (v := .slice Ab (m - t) (c - t)) 8 (some 28) rfl rfl (by kernel_rfl) (by kernel_rfl) (by kernel_rfl) (fun _ _ _ h => h) rfl (Held.y_slice rfl hsb) c0_1 ?_
    simp only [Act.put, List.setIfInBounds_toArray, List.set_cons_zero, List.set_cons_succ]
    refine Held.take (v := .agg (arr .u8 key)) 11 (some 31) rfl rfl (by kernel_rfl) (by kernel_rfl) (by kernel_rfl) (fun _ _ _ h => h) rfl (Held.y_load_Row (zs := key) rfl rfl Tryd.underlying22 info_key HK.out (fun W hW => Row.below kz hW kz.lt)) c0_1 ?_
    simp only [Act.put, List.setIfInBounds_toArray, List.set_cons_zero, List.set_cons_succ]
    refine Held.take (v := .slice A m c) 12 (some 32) rfl rfl (by kernel_rfl) (by kernel_rfl) (by kernel_rfl) (fun _ _ _ h => h) rfl (Held.y_move rfl rfl) c0_1 ?_
    simp only [Act.put, List.setIfInBounds_toArray, List.set_cons_zero, List.set_cons_succ]
    refine Held.two 9 13 (by kernel_rfl) ?_ ?_
    · refine Held.op_build 9 (some 29) 23 25 2 (.slice none 0 0) 24 [.slice A t c, .slice Ab (m - t) (c - t)] rfl rfl rfl rfl Tryd.underlying23 info_bytes (by simp [Act.eval]) (by simp [Value.cells]) (by simp [Value.oneCell']) rfl (by omega) (by omega) ?_
      intro p9 w2 v9 b2
      have c0_2 := c0_1.trans (b2.mono c0_1.size)
      have c2_2 := Below.refl w2.heap.size w2
      refine ⟨c0_2, ?_⟩
      simp only [Act.put, List.setIfInBounds_toArray, List.set_cons_zero, List.set_cons_succ]
      refine Held.two 10 13 (by kernel_rfl) ?_ ?_
      · refine Held.op_call 10 (some 30) 11 #[.agg (arr .u8 key), .slice (some ⟨p9, 0, none⟩) 2 2] rfl rfl rfl rfl (enters_of Tryd.func11 (by kernel_rfl) rfl) (by simp [Act.eval])
          (tag_2 key (some ⟨p9, 0, none⟩) A Ab t (m - t) c (c - t) (bs.take t) (bs.drop t) bs _ HK.out hkb (v9.below c2_2 |>.more c2_2.size) ((iF.below c0_2).more c0_2.size) htc hcm ((ib.below c0_2).more c0_2.size) (by omega) (by omega) (List.take_append_drop _ _) HBL.out hbs (hT.below (b.trans (c0_2.mono b.size)) hT.lt)) ?_
        rintro e w3 ⟨rfl, b3⟩
        have c0_3 := c0_2.trans (b3.mono c0_2.size)
        have c2_3 := b3
        refine ⟨_, rfl, c0_3, ?_⟩
        simp only [Act.put, List.setIfInBounds_toArray, List.set_cons_zero, List.set_cons_succ]
        refine Held.one 13 (by kernel_rfl) ?_
        refine Held.op_build 13 (some 33) 23 25 1 (.slice none 0 0) 24 [.slice A m c] rfl rfl rfl rfl Tryd.underlying23 info_bytes (by simp [Act.eval]) (by simp [Value.cells]) (by simp [Value.oneCell']) rfl (by omega) (by omega) ?_
        intro p13 w4 v13 b4
        have c0_4 := c0_3.trans (b4.mono c0_3.size)
        have c2_4 := c2_3.trans (b4.mono c2_3.size)
        have c4_4 := Below.refl w4.heap.size w4
        refine ⟨c0_4, ?_⟩
        simp only [Act.put, List.setIfInBounds_toArray, List.set_cons_zero, List.set_cons_succ]
        refine Held.one 14 (by kernel_rfl) ?_
        refine Held.op_call 14 (some 34) 11 #[.agg (arr .u8 key), .slice (some ⟨p13, 0, none⟩) 1 1] rfl rfl rfl rfl (enters_of Tryd.func11 (by kernel_rfl) rfl) (by simp [Act.eval])
          (tag_1 key (some ⟨p13, 0, none⟩) A m c bs _ HK.out hkb (v13.below c4_4 |>.more c4_4.size) ((iz.below c0_4).more c0_4.size) hmc hcm (by omega) hbs (hT.below (b.trans (c0_4.mono b.size)) hT.lt)) ?_
        rintro e w5 ⟨rfl, b5⟩
        have c0_5 := c0_4.trans (b5.mono c0_4.size)
        have c2_5 := c2_4.trans (b5.mono c2_4.size)
        have c4_5 := b5
        refine ⟨_, rfl, c0_5, ?_⟩
        simp only [Act.put, List.setIfInBounds_toArray, List.set_cons_zero, List.set_cons_succ]
        refine Held.take (v := .bool true) 15 (some 35) rfl rfl (by kernel_rfl) (by kernel_rfl) (by kernel_rfl) (fun _ _ _ h => h) rfl (Held.y_eql rfl rfl rfl (by kernel_rfl) Tryd.underlying27 Tryd.underlying5 (by kernel_rfl) HPL.out) c0_5 ?_
        simp only [Act.put, List.setIfInBounds_toArray, List.set_cons_zero, List.set_cons_succ]
        refine Held.take (v := .bool true) 16 (some 36) rfl rfl (by kernel_rfl) (by kernel_rfl) (by kernel_rfl) (fun _ _ _ h => h) rfl (Held.y_pick rfl rfl rfl) c0_5 ?_
        simp only [Act.put, List.setIfInBounds_toArray, List.set_cons_zero, List.set_cons_succ]
        refine Held.take (v := .bool true) 17 (some 37) rfl rfl (by kernel_rfl) (by kernel_rfl) (by kernel_rfl) (fun _ _ _ h => h) rfl (Held.y_move rfl rfl) c0_5 ?_
        simp only [Act.put, List.setIfInBounds_toArray, List.set_cons_zero, List.set_cons_succ]
        refine Held.take (v := .agg (arr .u8 key)) 18 (some 38) rfl rfl (by kernel_rfl) (by kernel_rfl) (by kernel_rfl) (fun _ _ _ h => h) rfl (Held.y_load_Row (zs := key) rfl rfl Tryd.underlying22 info_key HK.out (fun W hW => Row.below kz hW kz.lt)) c0_5 ?_
        simp only [Act.put, List.setIfInBounds_toArray, List.set_cons_zero, List.set_cons_succ]
        refine Held.take (v := .slice A m c) 19 (some 39) rfl rfl (by kernel_rfl) (by kernel_rfl) (by kernel_rfl) (fun _ _ _ h => h) rfl (Held.y_move rfl rfl) c0_5 ?_
        simp only [Act.put, List.setIfInBounds_toArray, List.set_cons_zero, List.set_cons_succ]
        refine Held.take (v := .agg (arr .u8 key)) 22 (some 42) rfl rfl (by kernel_rfl) (by kernel_rfl) (by kernel_rfl) (fun _ _ _ h => h) rfl (Held.y_load_Row (zs := key) rfl rfl Tryd.underlying22 info_key HK.out (fun W hW => Row.below kz hW kz.lt)) c0_5 ?_
        simp only [Act.put, List.setIfInBounds_toArray, List.set_cons_zero, List.set_cons_succ]
        refine Held.take (v := .slice A m c) 23 (some 43) rfl rfl (by kernel_rfl) (by kernel_rfl) (by kernel_rfl) (fun _ _ _ h => h) rfl (Held.y_move rfl rfl) c0_5 ?_
        simp only [Act.put, List.setIfInBounds_toArray, List.set_cons_zero, List.set_cons_succ]
        refine Held.two 20 24 (by kernel_rfl) ?_ ?_
        · refine Held.op_build 20 (some 40) 23 25 3 (.slice none 0 0) 24 [(.slice none 0 0), .slice A m c, (.slice none 0 0)] rfl rfl rfl rfl Tryd.underlying23 info_bytes (by simp [Act.eval]) (by simp [Value.cells]) (by simp [Value.oneCell']) rfl (by omega) (by omega) ?_
          intro p20 w6 v20 b6
          have c0_6 := c0_5.trans (b6.mono c0_5.size)
          have c2_6 := c2_5.trans (b6.mono c2_5.size)
          have c4_6 := c4_5.trans (b6.mono c4_5.size)
          have c6_6 := Below.refl w6.heap.size w6
          refine ⟨c0_6, ?_⟩
          simp only [Act.put, List.setIfInBounds_toArray, List.set_cons_zero, List.set_cons_succ]
          refine Held.two 21 24 (by kernel_rfl) ?_ ?_
          · refine Held.op_call 21 (some 41) 11 #[.agg (arr .u8 key), .slice (some ⟨p20, 0, none⟩) 3 3] rfl rfl rfl rfl (enters_of Tryd.func11 (by kernel_rfl) rfl) (by simp [Act.eval])
              (tag_3 key (some ⟨p20, 0, none⟩) A m c bs _ HK.out hkb (v20.below c6_6 |>.more c6_6.size) ((iz.below c0_6).more c0_6.size) hmc hcm (by omega) hbs (hT.below (b.trans (c0_6.mono b.size)) hT.lt)) ?_
            rintro e w7 ⟨rfl, b7⟩
            have c0_7 := c0_6.trans (b7.mono c0_6.size)
            have c2_7 := c2_6.trans (b7.mono c2_6.size)
            have c4_7 := c4_6.trans (b7.mono c4_6.size)
            have c6_7 := b7
            refine ⟨_, rfl, c0_7, ?_⟩
            simp only [Act.put, List.setIfInBounds_toArray, List.set_cons_zero, List.set_cons_succ]
            refine Held.one 24 (by kernel_rfl) ?_
            refine Held.op_build 24 (some 44) 23 25 1 (.slice none 0 0) 24 [.slice A m c] rfl rfl rfl rfl Tryd.underlying23 info_bytes (by simp [Act.eval]) (by simp [Value.cells]) (by simp [Value.oneCell']) rfl (by omega) (by omega) ?_
            intro p24 w8 v24 b8
            have c0_8 := c0_7.trans (b8.mono c0_7.size)
            have c2_8 := c2_7.trans (b8.mono c2_7.size)
            have c4_8 := c4_7.trans (b8.mono c4_7.size)
            have c6_8 := c6_7.trans (b8.mono c6_7.size)
            have c8_8 := Below.refl w8.heap.size w8
            refine ⟨c0_8, ?_⟩
            simp only [Act.put, List.setIfInBounds_toArray, List.set_cons_zero, List.set_cons_succ]
            refine Held.one 25 (by kernel_rfl) ?_
            refine Held.op_call 25 (some 45) 11 #[.agg (arr .u8 key), .slice (some ⟨p24, 0, none⟩) 1 1] rfl rfl rfl rfl (enters_of Tryd.func11 (by kernel_rfl) rfl) (by simp [Act.eval])
              (tag_1 key (some ⟨p24, 0, none⟩) A m c bs _ HK.out hkb (v24.below c8_8 |>.more c8_8.size) ((iz.below c0_8).more c0_8.size) hmc hcm (by omega) hbs (hT.below (b.trans (c0_8.mono b.size)) hT.lt)) ?_
            rintro e w9 ⟨rfl, b9⟩
            have c0_9 := c0_8.trans (b9.mono c0_8.size)
            have c2_9 := c2_8.trans (b9.mono c2_8.size)
            have c4_9 := c4_8.trans (b9.mono c4_8.size)
            have c6_9 := c6_8.trans (b9.mono c6_8.size)
            have c8_9 := b9
            refine ⟨_, rfl, c0_9, ?_⟩
            simp only [Act.put, List.setIfInBounds_toArray, List.set_cons_zero, List.set_cons_succ]
            refine Held.take (v := .bool true) 26 (some 46) rfl rfl (by kernel_rfl) (by kernel_rfl) (by kernel_rfl) (fun _ _ _ h => h) rfl (Held.y_eql rfl rfl rfl (by kernel_rfl) Tryd.underlying27 Tryd.underlying5 (by kernel_rfl) HPL.out) c0_9 ?_
            simp only [Act.put, List.setIfInBounds_toArray, List.set_cons_zero, List.set_cons_succ]
            refine Held.take (v := .bool true) 27 (some 47) rfl rfl (by kernel_rfl) (by kernel_rfl) (by kernel_rfl) (fun _ _ _ h => h) rfl (Held.y_pick rfl rfl rfl) c0_9 ?_
            simp only [Act.put, List.setIfInBounds_toArray, List.set_cons_zero, List.set_cons_succ]
            refine Held.take (v := .bool true) 28 (some 6) rfl rfl (by kernel_rfl) (by kernel_rfl) (by kernel_rfl) (fun _ _ _ h => h) rfl (Held.y_assign rfl rfl) c0_9 ?_
            simp only [Act.put, List.setIfInBounds_toArray, List.set_cons_zero, List.set_cons_succ]
            refine wpAnyH_done (by kernel_rfl) ?_ _
            go_wp2_with fail
            go_ret
            exact ⟨rfl, b.trans (c0_9.mono b.size)⟩
          · refine Held.op_build 24 (some 44) 23 25 1 (.slice none 0 0) 24 [.slice A m c] rfl rfl rfl rfl Tryd.underlying23 info_bytes (by simp [Act.eval]) (by simp [Value.cells]) (by simp [Value.oneCell']) rfl (by omega) (by omega) ?_
            intro p24 w7 v24 b7
            have c0_7 := c0_6.trans (b7.mono c0_6.size)
            have c2_7 := c2_6.trans (b7.mono c2_6.size)
            have c4_7 := c4_6.trans (b7.mono c4_6.size)
            have c6_7 := b7
            have c7_7 := Below.refl w7.heap.size w7
            refine ⟨c0_7, ?_⟩
            simp only [Act.put, List.setIfInBounds_toArray, List.set_cons_zero, List.set_cons_succ]
            refine Held.one 21 (by kernel_rfl) ?_
            refine Held.op_call 21 (some 41) 11 #[.agg (arr .u8 key), .slice (some ⟨p20, 0, none⟩) 3 3] rfl rfl rfl rfl (enters_of Tryd.func11 (by kernel_rfl) rfl) (by simp [Act.eval])
              (tag_3 key (some ⟨p20, 0, none⟩) A m c bs _ HK.out hkb (v20.below c6_7 |>.more c6_7.size) ((iz.below c0_7).more c0_7.size) hmc hcm (by omega) hbs (hT.below (b.trans (c0_7.mono b.size)) hT.lt)) ?_
            rintro e w8 ⟨rfl, b8⟩
            have c0_8 := c0_7.trans (b8.mono c0_7.size)
            have c2_8 := c2_7.trans (b8.mono c2_7.size)
            have c4_8 := c4_7.trans (b8.mono c4_7.size)
            have c6_8 := c6_7.trans (b8.mono c6_7.size)
            have c7_8 := b8
            refine ⟨_, rfl, c0_8, ?_⟩
            simp only [Act.put, List.setIfInBounds_toArray, List.set_cons_zero, List.set_cons_succ]
            refine Held.one 25 (by kernel_rfl) ?_
            refine Held.op_call 25 (some 45) 11 #[.agg (arr .u8 key), .slice (some ⟨p24, 0, none⟩) 1 1] rfl rfl rfl rfl (enters_of Tryd.func11 (by kernel_rfl) rfl) (by simp [Act.eval])
              (tag_1 key (some ⟨p24, 0, none⟩) A m c bs _ HK.out hkb (v24.below c7_8 |>.more c7_8.size) ((iz.below c0_8).more c0_8.size) hmc hcm (by omega) hbs (hT.below (b.trans (c0_8.mono b.size)) hT.lt)) ?_
            rintro e w9 ⟨rfl, b9⟩
            have c0_9 := c0_8.trans (b9.mono c0_8.size)
            have c2_9 := c2_8.trans (b9.mono c2_8.size)
            have c4_9 := c4_8.trans (b9.mono c4_8.size)
            have c6_9 := c6_8.trans (b9.mono c6_8.size)
            have c7_9 := c7_8.trans (b9.mono c7_8.size)
            refine ⟨_, rfl, c0_9, ?_⟩
            simp only [Act.put, List.setIfInBounds_toArray, List.set_cons_zero, List.set_cons_succ]
            refine Held.take (v := .bool true) 26 (some 46) rfl rfl (by kernel_rfl) (by kernel_rfl) (by kernel_rfl) (fun _ _ _ h => h) rfl (Held.y_eql rfl rfl rfl (by kernel_rfl) Tryd.underlying27 Tryd.underlying5 (by kernel_rfl) HPL.out) c0_9 ?_
            simp only [Act.put, List.setIfInBounds_toArray, List.set_cons_zero, List.set_cons_succ]
            refine Held.take (v := .bool true) 27 (some 47) rfl rfl (by kernel_rfl) (by kernel_rfl) (by kernel_rfl) (fun _ _ _ h => h) rfl (Held.y_pick rfl rfl rfl) c0_9 ?_
            simp only [Act.put, List.setIfInBounds_toArray, List.set_cons_zero, List.set_cons_succ]
            refine Held.take (v := .bool true) 28 (some 6) rfl rfl (by kernel_rfl) (by kernel_rfl) (by kernel_rfl) (fun _ _ _ h => h) rfl (Held.y_assign rfl rfl) c0_9 ?_
            simp only [Act.put, List.setIfInBounds_toArray, List.set_cons_zero, List.set_cons_succ]
            refine wpAnyH_done (by kernel_rfl) ?_ _
            go_wp2_with fail
            go_ret
            exact ⟨rfl, b.trans (c0_9.mono b.size)⟩
        · refine Held.op_build 24 (some 44) 23 25 1 (.slice none 0 0) 24 [.slice A m c] rfl rfl rfl rfl Tryd.underlying23 info_bytes (by simp [Act.eval]) (by simp [Value.cells]) (by simp [Value.oneCell']) rfl (by omega) (by omega) ?_
          intro p24 w6 v24 b6
          have c0_6 := c0_5.trans (b6.mono c0_5.size)
          have c2_6 := c2_5.trans (b6.mono c2_5.size)
          have c4_6 := c4_5.trans (b6.mono c4_5.size)
          have c6_6 := Below.refl w6.heap.size w6
          refine ⟨c0_6, ?_⟩
          simp only [Act.put, List.setIfInBounds_toArray, List.set_cons_zero, List.set_cons_succ]
          refine Held.one 20 (by kernel_rfl) ?_
          refine Held.op_build 20 (some 40) 23 25 3 (.slice none 0 0) 24 [(.slice none 0 0), .slice A m c, (.slice none 0 0)] rfl rfl rfl rfl Tryd.underlying23 info_bytes (by simp [Act.eval]) (by simp [Value.cells]) (by simp [Value.oneCell']) rfl (by omega) (by omega) ?_
          intro p20 w7 v20 b7
          have c0_7 := c0_6.trans (b7.mono c0_6.size)
          have c2_7 := c2_6.trans (b7.mono c2_6.size)
          have c4_7 := c4_6.trans (b7.mono c4_6.size)
          have c6_7 := b7
          have c7_7 := Below.refl w7.heap.size w7
          refine ⟨c0_7, ?_⟩
          simp only [Act.put, List.setIfInBounds_toArray, List.set_cons_zero, List.set_cons_succ]
          refine Held.one 21 (by kernel_rfl) ?_
          refine Held.op_call 21 (some 41) 11 #[.agg (arr .u8 key), .slice (some ⟨p20, 0, none⟩) 3 3] rfl rfl rfl rfl (enters_of Tryd.func11 (by kernel_rfl) rfl) (by simp [Act.eval])
            (tag_3 key (some ⟨p20, 0, none⟩) A m c bs _ HK.out hkb (v20.below c7_7 |>.more c7_7.size) ((iz.below c0_7).more c0_7.size) hmc hcm (by omega) hbs (hT.below (b.trans (c0_7.mono b.size)) hT.lt)) ?_
          rintro e w8 ⟨rfl, b8⟩
          have c0_8 := c0_7.trans (b8.mono c0_7.size)
          have c2_8 := c2_7.trans (b8.mono c2_7.size)
          have c4_8 := c4_7.trans (b8.mono c4_7.size)
          have c6_8 := c6_7.trans (b8.mono c6_7.size)
          have c7_8 := b8
          refine ⟨_, rfl, c0_8, ?_⟩
          simp only [Act.put, List.setIfInBounds_toArray, List.set_cons_zero, List.set_cons_succ]
          refine Held.one 25 (by kernel_rfl) ?_
          refine Held.op_call 25 (some 45) 11 #[.agg (arr .u8 key), .slice (some ⟨p24, 0, none⟩) 1 1] rfl rfl rfl rfl (enters_of Tryd.func11 (by kernel_rfl) rfl) (by simp [Act.eval])
            (tag_1 key (some ⟨p24, 0, none⟩) A m c bs _ HK.out hkb (v24.below c6_8 |>.more c6_8.size) ((iz.below c0_8).more c0_8.size) hmc hcm (by omega) hbs (hT.below (b.trans (c0_8.mono b.size)) hT.lt)) ?_
          rintro e w9 ⟨rfl, b9⟩
          have c0_9 := c0_8.trans (b9.mono c0_8.size)
          have c2_9 := c2_8.trans (b9.mono c2_8.size)
          have c4_9 := c4_8.trans (b9.mono c4_8.size)
          have c6_9 := c6_8.trans (b9.mono c6_8.size)
          have c7_9 := c7_8.trans (b9.mono c7_8.size)
          refine ⟨_, rfl, c0_9, ?_⟩
          simp only [Act.put, List.setIfInBounds_toArray, List.set_cons_zero, List.set_cons_succ]
          refine Held.take (v := .bool true) 26 (some 46) rfl rfl (by kernel_rfl) (by kernel_rfl) (by kernel_rfl) (fun _ _ _ h => h) rfl (Held.y_eql rfl rfl rfl (by kernel_rfl) Tryd.underlying27 Tryd.underlying5 (by kernel_rfl) HPL.out) c0_9 ?_
          simp only [Act.put, List.setIfInBounds_toArray, List.set_cons_zero, List.set_cons_succ]
          refine Held.take (v := .bool true) 27 (some 47) rfl rfl (by kernel_rfl) (by kernel_rfl) (by kernel_rfl) (fun _ _ _ h => h) rfl (Held.y_pick rfl rfl rfl) c0_9 ?_
          simp only [Act.put, List.setIfInBounds_toArray, List.set_cons_zero, List.set_cons_succ]
          refine Held.take (v := .bool true) 28 (some 6) rfl rfl (by kernel_rfl) (by kernel_rfl) (by kernel_rfl) (fun _ _ _ h => h) rfl (Held.y_assign rfl rfl) c0_9 ?_
          simp only [Act.put, List.setIfInBounds_toArray, List.set_cons_zero, List.set_cons_succ]
          refine wpAnyH_done (by kernel_rfl) ?_ _
          go_wp2_with fail
          go_ret
          exact ⟨rfl, b.trans (c0_9.mono b.size)⟩
      · refine Held.op_build 13 (some 33) 23 25 1 (.slice none 0 0) 24 [.slice A m c] rfl rfl rfl rfl Tryd.underlying23 info_bytes (by simp [Act.eval]) (by simp [Value.cells]) (by simp [Value.oneCell']) rfl (by omega) (by omega) ?_
        intro p13 w3 v13 b3
        have c0_3 := c0_2.trans (b3.mono c0_2.size)
        have c2_3 := b3
        have c3_3 := Below.refl w3.heap.size w3
        refine ⟨c0_3, ?_⟩
        simp only [Act.put, List.setIfInBounds_toArray, List.set_cons_zero, List.set_cons_succ]
        refine Held.one 10 (by kernel_rfl) ?_
        refine Held.op_call 10 (some 30) 11 #[.agg (arr .u8 key), .slice (some ⟨p9, 0, none⟩) 2 2] rfl rfl rfl rfl (enters_of Tryd.func11 (by kernel_rfl) rfl) (by simp [Act.eval])
          (tag_2 key (some ⟨p9, 0, none⟩) A Ab t (m - t) c (c - t) (bs.take t) (bs.drop t) bs _ HK.out hkb (v9.below c2_3 |>.more c2_3.size) ((iF.below c0_3).more c0_3.size) htc hcm ((ib.below c0_3).more c0_3.size) (by omega) (by omega) (List.take_append_drop _ _) HBL.out hbs (hT.below (b.trans (c0_3.mono b.size)) hT.lt)) ?_
        rintro e w4 ⟨rfl, b4⟩
        have c0_4 := c0_3.trans (b4.mono c0_3.size)
        have c2_4 := c2_3.trans (b4.mono c2_3.size)
        have c3_4 := b4
        refine ⟨_, rfl, c0_4, ?_⟩
        simp only [Act.put, List.setIfInBounds_toArray, List.set_cons_zero, List.set_cons_succ]
        refine Held.one 14 (by kernel_rfl) ?_
        refine Held.op_call 14 (some 34) 11 #[.agg (arr .u8 key), .slice (some ⟨p13, 0, none⟩) 1 1] rfl rfl rfl rfl (enters_of Tryd.func11 (by kernel_rfl) rfl) (by simp [Act.eval])
          (tag_1 key (some ⟨p13, 0, none⟩) A m c bs _ HK.out hkb (v13.below c3_4 |>.more c3_4.size) ((iz.below c0_4).more c0_4.size) hmc hcm (by omega) hbs (hT.below (b.trans (c0_4.mono b.size)) hT.lt)) ?_
        rintro e w5 ⟨rfl, b5⟩
        have c0_5 := c0_4.trans (b5.mono c0_4.size)
        have c2_5 := c2_4.trans (b5.mono c2_4.size)
        have c3_5 := c3_4.trans (b5.mono c3_4.size)
        refine ⟨_, rfl, c0_5, ?_⟩
        simp only [Act.put, List.setIfInBounds_toArray, List.set_cons_zero, List.set_cons_succ]
        refine Held.take (v := .bool true) 15 (some 35) rfl rfl (by kernel_rfl) (by kernel_rfl) (by kernel_rfl) (fun _ _ _ h => h) rfl (Held.y_eql rfl rfl rfl (by kernel_rfl) Tryd.underlying27 Tryd.underlying5 (by kernel_rfl) HPL.out) c0_5 ?_
        simp only [Act.put, List.setIfInBounds_toArray, List.set_cons_zero, List.set_cons_succ]
        refine Held.take (v := .bool true) 16 (some 36) rfl rfl (by kernel_rfl) (by kernel_rfl) (by kernel_rfl) (fun _ _ _ h => h) rfl (Held.y_pick rfl rfl rfl) c0_5 ?_
        simp only [Act.put, List.setIfInBounds_toArray, List.set_cons_zero, List.set_cons_succ]
        refine Held.take (v := .bool true) 17 (some 37) rfl rfl (by kernel_rfl) (by kernel_rfl) (by kernel_rfl) (fun _ _ _ h => h) rfl (Held.y_move rfl rfl) c0_5 ?_
        simp only [Act.put, List.setIfInBounds_toArray, List.set_cons_zero, List.set_cons_succ]
        refine Held.take (v := .agg (arr .u8 key)) 18 (some 38) rfl rfl (by kernel_rfl) (by kernel_rfl) (by kernel_rfl) (fun _ _ _ h => h) rfl (Held.y_load_Row (zs := key) rfl rfl Tryd.underlying22 info_key HK.out (fun W hW => Row.below kz hW kz.lt)) c0_5 ?_
        simp only [Act.put, List.setIfInBounds_toArray, List.set_cons_zero, List.set_cons_succ]
        refine Held.take (v := .slice A m c) 19 (some 39) rfl rfl (by kernel_rfl) (by kernel_rfl) (by kernel_rfl) (fun _ _ _ h => h) rfl (Held.y_move rfl rfl) c0_5 ?_
        simp only [Act.put, List.setIfInBounds_toArray, List.set_cons_zero, List.set_cons_succ]
        refine Held.take (v := .agg (arr .u8 key)) 22 (some 42) rfl rfl (by kernel_rfl) (by kernel_rfl) (by kernel_rfl) (fun _ _ _ h => h) rfl (Held.y_load_Row (zs := key) rfl rfl Tryd.underlying22 info_key HK.out (fun W hW => Row.below kz hW kz.lt)) c0_5 ?_
        simp only [Act.put, List.setIfInBounds_toArray, List.set_cons_zero, List.set_cons_succ]
        refine Held.take (v := .slice A m c) 23 (some 43) rfl rfl (by kernel_rfl) (by kernel_rfl) (by kernel_rfl) (fun _ _ _ h => h) rfl (Held.y_move rfl rfl) c0_5 ?_
        simp only [Act.put, List.setIfInBounds_toArray, List.set_cons_zero, List.set_cons_succ]
        refine Held.two 20 24 (by kernel_rfl) ?_ ?_
        · refine Held.op_build 20 (some 40) 23 25 3 (.slice none 0 0) 24 [(.slice none 0 0), .slice A m c, (.slice none 0 0)] rfl rfl rfl rfl Tryd.underlying23 info_bytes (by simp [Act.eval]) (by simp [Value.cells]) (by simp [Value.oneCell']) rfl (by omega) (by omega) ?_
          intro p20 w6 v20 b6
          have c0_6 := c0_5.trans (b6.mono c0_5.size)
          have c2_6 := c2_5.trans (b6.mono c2_5.size)
          have c3_6 := c3_5.trans (b6.mono c3_5.size)
          have c6_6 := Below.refl w6.heap.size w6
          refine ⟨c0_6, ?_⟩
          simp only [Act.put, List.setIfInBounds_toArray, List.set_cons_zero, List.set_cons_succ]
          refine Held.two 21 24 (by kernel_rfl) ?_ ?_
          · refine Held.op_call 21 (some 41) 11 #[.agg (arr .u8 key), .slice (some ⟨p20, 0, none⟩) 3 3] rfl rfl rfl rfl (enters_of Tryd.func11 (by kernel_rfl) rfl) (by simp [Act.eval])
              (tag_3 key (some ⟨p20, 0, none⟩) A m c bs _ HK.out hkb (v20.below c6_6 |>.more c6_6.size) ((iz.below c0_6).more c0_6.size) hmc hcm (by omega) hbs (hT.below (b.trans (c0_6.mono b.size)) hT.lt)) ?_
            rintro e w7 ⟨rfl, b7⟩
            have c0_7 := c0_6.trans (b7.mono c0_6.size)
            have c2_7 := c2_6.trans (b7.mono c2_6.size)
            have c3_7 := c3_6.trans (b7.mono c3_6.size)
            have c6_7 := b7
            refine ⟨_, rfl, c0_7, ?_⟩
            simp only [Act.put, List.setIfInBounds_toArray, List.set_cons_zero, List.set_cons_succ]
            refine Held.one 24 (by kernel_rfl) ?_
            refine Held.op_build 24 (some 44) 23 25 1 (.slice none 0 0) 24 [.slice A m c] rfl rfl rfl rfl Tryd.underlying23 info_bytes (by simp [Act.eval]) (by simp [Value.cells]) (by simp [Value.oneCell']) rfl (by omega) (by omega) ?_
            intro p24 w8 v24 b8
            have c0_8 := c0_7.trans (b8.mono c0_7.size)
            have c2_8 := c2_7.trans (b8.mono c2_7.size)
            have c3_8 := c3_7.trans (b8.mono c3_7.size)
            have c6_8 := c6_7.trans (b8.mono c6_7.size)
            have c8_8 := Below.refl w8.heap.size w8
            refine ⟨c0_8, ?_⟩
            simp only [Act.put, List.setIfInBounds_toArray, List.set_cons_zero, List.set_cons_succ]
            refine Held.one 25 (by kernel_rfl) ?_
            refine Held.op_call 25 (some 45) 11 #[.agg (arr .u8 key), .slice (some ⟨p24, 0, none⟩) 1 1] rfl rfl rfl rfl (enters_of Tryd.func11 (by kernel_rfl) rfl) (by simp [Act.eval])
              (tag_1 key (some ⟨p24, 0, none⟩) A m c bs _ HK.out hkb (v24.below c8_8 |>.more c8_8.size) ((iz.below c0_8).more c0_8.size) hmc hcm (by omega) hbs (hT.below (b.trans (c0_8.mono b.size)) hT.lt)) ?_
            rintro e w9 ⟨rfl, b9⟩
            have c0_9 := c0_8.trans (b9.mono c0_8.size)
            have c2_9 := c2_8.trans (b9.mono c2_8.size)
            have c3_9 := c3_8.trans (b9.mono c3_8.size)
            have c6_9 := c6_8.trans (b9.mono c6_8.size)
            have c8_9 := b9
            refine ⟨_, rfl, c0_9, ?_⟩
            simp only [Act.put, List.setIfInBounds_toArray, List.set_cons_zero, List.set_cons_succ]
            refine Held.take (v := .bool true) 26 (some 46) rfl rfl (by kernel_rfl) (by kernel_rfl) (by kernel_rfl) (fun _ _ _ h => h) rfl (Held.y_eql rfl rfl rfl (by kernel_rfl) Tryd.underlying27 Tryd.underlying5 (by kernel_rfl) HPL.out) c0_9 ?_
            simp only [Act.put, List.setIfInBounds_toArray, List.set_cons_zero, List.set_cons_succ]
            refine Held.take (v := .bool true) 27 (some 47) rfl rfl (by kernel_rfl) (by kernel_rfl) (by kernel_rfl) (fun _ _ _ h => h) rfl (Held.y_pick rfl rfl rfl) c0_9 ?_
            simp only [Act.put, List.setIfInBounds_toArray, List.set_cons_zero, List.set_cons_succ]
            refine Held.take (v := .bool true) 28 (some 6) rfl rfl (by kernel_rfl) (by kernel_rfl) (by kernel_rfl) (fun _ _ _ h => h) rfl (Held.y_assign rfl rfl) c0_9 ?_
            simp only [Act.put, List.setIfInBounds_toArray, List.set_cons_zero, List.set_cons_succ]
            refine wpAnyH_done (by kernel_rfl) ?_ _
            go_wp2_with fail
            go_ret
            exact ⟨rfl, b.trans (c0_9.mono b.size)⟩
          · refine Held.op_build 24 (some 44) 23 25 1 (.slice none 0 0) 24 [.slice A m c] rfl rfl rfl rfl Tryd.underlying23 info_bytes (by simp [Act.eval]) (by simp [Value.cells]) (by simp [Value.oneCell']) rfl (by omega) (by omega) ?_
            intro p24 w7 v24 b7
            have c0_7 := c0_6.trans (b7.mono c0_6.size)
            have c2_7 := c2_6.trans (b7.mono c2_6.size)
            have c3_7 := c3_6.trans (b7.mono c3_6.size)
            have c6_7 := b7
            have c7_7 := Below.refl w7.heap.size w7
            refine ⟨c0_7, ?_⟩
            simp only [Act.put, List.setIfInBounds_toArray, List.set_cons_zero, List.set_cons_succ]
            refine Held.one 21 (by kernel_rfl) ?_
            refine Held.op_call 21 (some 41) 11 #[.agg (arr .u8 key), .slice (some ⟨p20, 0, none⟩) 3 3] rfl rfl rfl rfl (enters_of Tryd.func11 (by kernel_rfl) rfl) (by simp [Act.eval])
              (tag_3 key (some ⟨p20, 0, none⟩) A m c bs _ HK.out hkb (v20.below c6_7 |>.more c6_7.size) ((iz.below c0_7).more c0_7.size) hmc hcm (by omega) hbs (hT.below (b.trans (c0_7.mono b.size)) hT.lt)) ?_
            rintro e w8 ⟨rfl, b8⟩
            have c0_8 := c0_7.trans (b8.mono c0_7.size)
            have c2_8 := c2_7.trans (b8.mono c2_7.size)
            have c3_8 := c3_7.trans (b8.mono c3_7.size)
            have c6_8 := c6_7.trans (b8.mono c6_7.size)
            have c7_8 := b8
            refine ⟨_, rfl, c0_8, ?_⟩
            simp only [Act.put, List.setIfInBounds_toArray, List.set_cons_zero, List.set_cons_succ]
            refine Held.one 25 (by kernel_rfl) ?_
            refine Held.op_call 25 (some 45) 11 #[.agg (arr .u8 key), .slice (some ⟨p24, 0, none⟩) 1 1] rfl rfl rfl rfl (enters_of Tryd.func11 (by kernel_rfl) rfl) (by simp [Act.eval])
              (tag_1 key (some ⟨p24, 0, none⟩) A m c bs _ HK.out hkb (v24.below c7_8 |>.more c7_8.size) ((iz.below c0_8).more c0_8.size) hmc hcm (by omega) hbs (hT.below (b.trans (c0_8.mono b.size)) hT.lt)) ?_
            rintro e w9 ⟨rfl, b9⟩
            have c0_9 := c0_8.trans (b9.mono c0_8.size)
            have c2_9 := c2_8.trans (b9.mono c2_8.size)
            have c3_9 := c3_8.trans (b9.mono c3_8.size)
            have c6_9 := c6_8.trans (b9.mono c6_8.size)
            have c7_9 := c7_8.trans (b9.mono c7_8.size)
            refine ⟨_, rfl, c0_9, ?_⟩
            simp only [Act.put, List.setIfInBounds_toArray, List.set_cons_zero, List.set_cons_succ]
            refine Held.take (v := .bool true) 26 (some 46) rfl rfl (by kernel_rfl) (by kernel_rfl) (by kernel_rfl) (fun _ _ _ h => h) rfl (Held.y_eql rfl rfl rfl (by kernel_rfl) Tryd.underlying27 Tryd.underlying5 (by kernel_rfl) HPL.out) c0_9 ?_
            simp only [Act.put, List.setIfInBounds_toArray, List.set_cons_zero, List.set_cons_succ]
            refine Held.take (v := .bool true) 27 (some 47) rfl rfl (by kernel_rfl) (by kernel_rfl) (by kernel_rfl) (fun _ _ _ h => h) rfl (Held.y_pick rfl rfl rfl) c0_9 ?_
            simp only [Act.put, List.setIfInBounds_toArray, List.set_cons_zero, List.set_cons_succ]
            refine Held.take (v := .bool true) 28 (some 6) rfl rfl (by kernel_rfl) (by kernel_rfl) (by kernel_rfl) (fun _ _ _ h => h) rfl (Held.y_assign rfl rfl) c0_9 ?_
            simp only [Act.put, List.setIfInBounds_toArray, List.set_cons_zero, List.set_cons_succ]
            refine wpAnyH_done (by kernel_rfl) ?_ _
            go_wp2_with fail
            go_ret
            exact ⟨rfl, b.trans (c0_9.mono b.size)⟩
        · refine Held.op_build 24 (some 44) 23 25 1 (.slice none 0 0) 24 [.slice A m c] rfl rfl rfl rfl Tryd.underlying23 info_bytes (by simp [Act.eval]) (by simp [Value.cells]) (by simp [Value.oneCell']) rfl (by omega) (by omega) ?_
          intro p24 w6 v24 b6
          have c0_6 := c0_5.trans (b6.mono c0_5.size)
          have c2_6 := c2_5.trans (b6.mono c2_5.size)
          have c3_6 := c3_5.trans (b6.mono c3_5.size)
          have c6_6 := Below.refl w6.heap.size w6
          refine ⟨c0_6, ?_⟩
          simp only [Act.put, List.setIfInBounds_toArray, List.set_cons_zero, List.set_cons_succ]
          refine Held.one 20 (by kernel_rfl) ?_
          refine Held.op_build 20 (some 40) 23 25 3 (.slice none 0 0) 24 [(.slice none 0 0), .slice A m c, (.slice none 0 0)] rfl rfl rfl rfl Tryd.underlying23 info_bytes (by simp [Act.eval]) (by simp [Value.cells]) (by simp [Value.oneCell']) rfl (by omega) (by omega) ?_
          intro p20 w7 v20 b7
          have c0_7 := c0_6.trans (b7.mono c0_6.size)
          have c2_7 := c2_6.trans (b7.mono c2_6.size)
          have c3_7 := c3_6.trans (b7.mono c3_6.size)
          have c6_7 := b7
          have c7_7 := Below.refl w7.heap.size w7
          refine ⟨c0_7, ?_⟩
          simp only [Act.put, List.setIfInBounds_toArray, List.set_cons_zero, List.set_cons_succ]
          refine Held.one 21 (by kernel_rfl) ?_
          refine Held.op_call 21 (some 41) 11 #[.agg (arr .u8 key), .slice (some ⟨p20, 0, none⟩) 3 3] rfl rfl rfl rfl (enters_of Tryd.func11 (by kernel_rfl) rfl) (by simp [Act.eval])
            (tag_3 key (some ⟨p20, 0, none⟩) A m c bs _ HK.out hkb (v20.below c7_7 |>.more c7_7.size) ((iz.below c0_7).more c0_7.size) hmc hcm (by omega) hbs (hT.below (b.trans (c0_7.mono b.size)) hT.lt)) ?_
          rintro e w8 ⟨rfl, b8⟩
          have c0_8 := c0_7.trans (b8.mono c0_7.size)
          have c2_8 := c2_7.trans (b8.mono c2_7.size)
          have c3_8 := c3_7.trans (b8.mono c3_7.size)
          have c6_8 := c6_7.trans (b8.mono c6_7.size)
          have c7_8 := b8
          refine ⟨_, rfl, c0_8, ?_⟩
          simp only [Act.put, List.setIfInBounds_toArray, List.set_cons_zero, List.set_cons_succ]
          refine Held.one 25 (by kernel_rfl) ?_
          refine Held.op_call 25 (some 45) 11 #[.agg (arr .u8 key), .slice (some ⟨p24, 0, none⟩) 1 1] rfl rfl rfl rfl (enters_of Tryd.func11 (by kernel_rfl) rfl) (by simp [Act.eval])
            (tag_1 key (some ⟨p24, 0, none⟩) A m c bs _ HK.out hkb (v24.below c6_8 |>.more c6_8.size) ((iz.below c0_8).more c0_8.size) hmc hcm (by omega) hbs (hT.below (b.trans (c0_8.mono b.size)) hT.lt)) ?_
          rintro e w9 ⟨rfl, b9⟩
          have c0_9 := c0_8.trans (b9.mono c0_8.size)
          have c2_9 := c2_8.trans (b9.mono c2_8.size)
          have c3_9 := c3_8.trans (b9.mono c3_8.size)
          have c6_9 := c6_8.trans (b9.mono c6_8.size)
          have c7_9 := c7_8.trans (b9.mono c7_8.size)
          refine ⟨_, rfl, c0_9, ?_⟩
          simp only [Act.put, List.setIfInBounds_toArray, List.set_cons_zero, List.set_cons_succ]
          refine Held.take (v := .bool true) 26 (some 46) rfl rfl (by kernel_rfl) (by kernel_rfl) (by kernel_rfl) (fun _ _ _ h => h) rfl (Held.y_eql rfl rfl rfl (by kernel_rfl) Tryd.underlying27 Tryd.underlying5 (by kernel_rfl) HPL.out) c0_9 ?_
          simp only [Act.put, List.setIfInBounds_toArray, List.set_cons_zero, List.set_cons_succ]
          refine Held.take (v := .bool true) 27 (some 47) rfl rfl (by kernel_rfl) (by kernel_rfl) (by kernel_rfl) (fun _ _ _ h => h) rfl (Held.y_pick rfl rfl rfl) c0_9 ?_
          simp only [Act.put, List.setIfInBounds_toArray, List.set_cons_zero, List.set_cons_succ]
          refine Held.take (v := .bool true) 28 (some 6) rfl rfl (by kernel_rfl) (by kernel_rfl) (by kernel_rfl) (fun _ _ _ h => h) rfl (Held.y_assign rfl rfl) c0_9 ?_
          simp only [Act.put, List.setIfInBounds_toArray, List.set_cons_zero, List.set_cons_succ]
          refine wpAnyH_done (by kernel_rfl) ?_ _
          go_wp2_with fail
          go_ret
          exact ⟨rfl, b.trans (c0_9.mono b.size)⟩
    · refine Held.op_build 13 (some 33) 23 25 1 (.slice none 0 0) 24 [.slice A m c] rfl rfl rfl rfl Tryd.underlying23 info_bytes (by simp [Act.eval]) (by simp [Value.cells]) (by simp [Value.oneCell']) rfl (by omega) (by omega) ?_
      intro p13 w2 v13 b2
      have c0_2 := c0_1.trans (b2.mono c0_1.size)
      have c2_2 := Below.refl w2.heap.size w2
      refine ⟨c0_2, ?_⟩
      simp only [Act.put, List.setIfInBounds_toArray, List.set_cons_zero, List.set_cons_succ]
      refine Held.one 9 (by kernel_rfl) ?_
      refine Held.op_build 9 (some 29) 23 25 2 (.slice none 0 0) 24 [.slice A t c, .slice Ab (m - t) (c - t)] rfl rfl rfl rfl Tryd.underlying23 info_bytes (by simp [Act.eval]) (by simp [Value.cells]) (by simp [Value.oneCell']) rfl (by omega) (by omega) ?_
      intro p9 w3 v9 b3
      have c0_3 := c0_2.trans (b3.mono c0_2.size)
      have c2_3 := b3
      have c3_3 := Below.refl w3.heap.size w3
      refine ⟨c0_3, ?_⟩
      simp only [Act.put, List.setIfInBounds_toArray, List.set_cons_zero, List.set_cons_succ]
      refine Held.one 10 (by kernel_rfl) ?_
      refine Held.op_call 10 (some 30) 11 #[.agg (arr .u8 key), .slice (some ⟨p9, 0, none⟩) 2 2] rfl rfl rfl rfl (enters_of Tryd.func11 (by kernel_rfl) rfl) (by simp [Act.eval])
        (tag_2 key (some ⟨p9, 0, none⟩) A Ab t (m - t) c (c - t) (bs.take t) (bs.drop t) bs _ HK.out hkb (v9.below c3_3 |>.more c3_3.size) ((iF.below c0_3).more c0_3.size) htc hcm ((ib.below c0_3).more c0_3.size) (by omega) (by omega) (List.take_append_drop _ _) HBL.out hbs (hT.below (b.trans (c0_3.mono b.size)) hT.lt)) ?_
      rintro e w4 ⟨rfl, b4⟩
      have c0_4 := c0_3.trans (b4.mono c0_3.size)
      have c2_4 := c2_3.trans (b4.mono c2_3.size)
      have c3_4 := b4
      refine ⟨_, rfl, c0_4, ?_⟩
      simp only [Act.put, List.setIfInBounds_toArray, List.set_cons_zero, List.set_cons_succ]
      refine Held.one 14 (by kernel_rfl) ?_
      refine Held.op_call 14 (some 34) 11 #[.agg (arr .u8 key), .slice (some ⟨p13, 0, none⟩) 1 1] rfl rfl rfl rfl (enters_of Tryd.func11 (by kernel_rfl) rfl) (by simp [Act.eval])
        (tag_1 key (some ⟨p13, 0, none⟩) A m c bs _ HK.out hkb (v13.below c2_4 |>.more c2_4.size) ((iz.below c0_4).more c0_4.size) hmc hcm (by omega) hbs (hT.below (b.trans (c0_4.mono b.size)) hT.lt)) ?_
      rintro e w5 ⟨rfl, b5⟩
      have c0_5 := c0_4.trans (b5.mono c0_4.size)
      have c2_5 := c2_4.trans (b5.mono c2_4.size)
      have c3_5 := c3_4.trans (b5.mono c3_4.size)
      refine ⟨_, rfl, c0_5, ?_⟩
      simp only [Act.put, List.setIfInBounds_toArray, List.set_cons_zero, List.set_cons_succ]
      refine Held.take (v := .bool true) 15 (some 35) rfl rfl (by kernel_rfl) (by kernel_rfl) (by kernel_rfl) (fun _ _ _ h => h) rfl (Held.y_eql rfl rfl rfl (by kernel_rfl) Tryd.underlying27 Tryd.underlying5 (by kernel_rfl) HPL.out) c0_5 ?_
      simp only [Act.put, List.setIfInBounds_toArray, List.set_cons_zero, List.set_cons_succ]
      refine Held.take (v := .bool true) 16 (some 36) rfl rfl (by kernel_rfl) (by kernel_rfl) (by kernel_rfl) (fun _ _ _ h => h) rfl (Held.y_pick rfl rfl rfl) c0_5 ?_
      simp only [Act.put, List.setIfInBounds_toArray, List.set_cons_zero, List.set_cons_succ]
      refine Held.take (v := .bool true) 17 (some 37) rfl rfl (by kernel_rfl) (by kernel_rfl) (by kernel_rfl) (fun _ _ _ h => h) rfl (Held.y_move rfl rfl) c0_5 ?_
      simp only [Act.put, List.setIfInBounds_toArray, List.set_cons_zero, List.set_cons_succ]
      refine Held.take (v := .agg (arr .u8 key)) 18 (some 38) rfl rfl (by kernel_rfl) (by kernel_rfl) (by kernel_rfl) (fun _ _ _ h => h) rfl (Held.y_load_Row (zs := key) rfl rfl Tryd.underlying22 info_key HK.out (fun W hW => Row.below kz hW kz.lt)) c0_5 ?_
      simp only [Act.put, List.setIfInBounds_toArray, List.set_cons_zero, List.set_cons_succ]
      refine Held.take (v := .slice A m c) 19 (some 39) rfl rfl (by kernel_rfl) (by kernel_rfl) (by kernel_rfl) (fun _ _ _ h => h) rfl (Held.y_move rfl rfl) c0_5 ?_
      simp only [Act.put, List.setIfInBounds_toArray, List.set_cons_zero, List.set_cons_succ]
      refine Held.take (v := .agg (arr .u8 key)) 22 (some 42) rfl rfl (by kernel_rfl) (by kernel_rfl) (by kernel_rfl) (fun _ _ _ h => h) rfl (Held.y_load_Row (zs := key) rfl rfl Tryd.underlying22 info_key HK.out (fun W hW => Row.below kz hW kz.lt)) c0_5 ?_
      simp only [Act.put, List.setIfInBounds_toArray, List.set_cons_zero, List.set_cons_succ]
      refine Held.take (v := .slice A m c) 23 (some 43) rfl rfl (by kernel_rfl) (by kernel_rfl) (by kernel_rfl) (fun _ _ _ h => h) rfl (Held.y_move rfl rfl) c0_5 ?_
      simp only [Act.put, List.setIfInBounds_toArray, List.set_cons_zero, List.set_cons_succ]
      refine Held.two 20 24 (by kernel_rfl) ?_ ?_
      · refine Held.op_build 20 (some 40) 23 25 3 (.slice none 0 0) 24 [(.slice none 0 0), .slice A m c, (.slice none 0 0)] rfl rfl rfl rfl Tryd.underlying23 info_bytes (by simp [Act.eval]) (by simp [Value.cells]) (by simp [Value.oneCell']) rfl (by omega) (by omega) ?_
        intro p20 w6 v20 b6
        have c0_6 := c0_5.trans (b6.mono c0_5.size)
        have c2_6 := c2_5.trans (b6.mono c2_5.size)
        have c3_6 := c3_5.trans (b6.mono c3_5.size)
        have c6_6 := Below.refl w6.heap.size w6
        refine ⟨c0_6, ?_⟩
        simp only [Act.put, List.setIfInBounds_toArray, List.set_cons_zero, List.set_cons_succ]
        refine Held.two 21 24 (by kernel_rfl) ?_ ?_
        · refine Held.op_call 21 (some 41) 11 #[.agg (arr .u8 key), .slice (some ⟨p20, 0, none⟩) 3 3] rfl rfl rfl rfl (enters_of Tryd.func11 (by kernel_rfl) rfl) (by simp [Act.eval])
            (tag_3 key (some ⟨p20, 0, none⟩) A m c bs _ HK.out hkb (v20.below c6_6 |>.more c6_6.size) ((iz.below c0_6).more c0_6.size) hmc hcm (by omega) hbs (hT.below (b.trans (c0_6.mono b.size)) hT.lt)) ?_
          rintro e w7 ⟨rfl, b7⟩
          have c0_7 := c0_6.trans (b7.mono c0_6.size)
          have c2_7 := c2_6.trans (b7.mono c2_6.size)
          have c3_7 := c3_6.trans (b7.mono c3_6.size)
          have c6_7 := b7
          refine ⟨_, rfl, c0_7, ?_⟩
          simp only [Act.put, List.setIfInBounds_toArray, List.set_cons_zero, List.set_cons_succ]
          refine Held.one 24 (by kernel_rfl) ?_
          refine Held.op_build 24 (some 44) 23 25 1 (.slice none 0 0) 24 [.slice A m c] rfl rfl rfl rfl Tryd.underlying23 info_bytes (by simp [Act.eval]) (by simp [Value.cells]) (by simp [Value.oneCell']) rfl (by omega) (by omega) ?_
          intro p24 w8 v24 b8
          have c0_8 := c0_7.trans (b8.mono c0_7.size)
          have c2_8 := c2_7.trans (b8.mono c2_7.size)
          have c3_8 := c3_7.trans (b8.mono c3_7.size)
          have c6_8 := c6_7.trans (b8.mono c6_7.size)
          have c8_8 := Below.refl w8.heap.size w8
          refine ⟨c0_8, ?_⟩
          simp only [Act.put, List.setIfInBounds_toArray, List.set_cons_zero, List.set_cons_succ]
          refine Held.one 25 (by kernel_rfl) ?_
          refine Held.op_call 25 (some 45) 11 #[.agg (arr .u8 key), .slice (some ⟨p24, 0, none⟩) 1 1] rfl rfl rfl rfl (enters_of Tryd.func11 (by kernel_rfl) rfl) (by simp [Act.eval])
            (tag_1 key (some ⟨p24, 0, none⟩) A m c bs _ HK.out hkb (v24.below c8_8 |>.more c8_8.size) ((iz.below c0_8).more c0_8.size) hmc hcm (by omega) hbs (hT.below (b.trans (c0_8.mono b.size)) hT.lt)) ?_
          rintro e w9 ⟨rfl, b9⟩
          have c0_9 := c0_8.trans (b9.mono c0_8.size)
          have c2_9 := c2_8.trans (b9.mono c2_8.size)
          have c3_9 := c3_8.trans (b9.mono c3_8.size)
          have c6_9 := c6_8.trans (b9.mono c6_8.size)
          have c8_9 := b9
          refine ⟨_, rfl, c0_9, ?_⟩
          simp only [Act.put, List.setIfInBounds_toArray, List.set_cons_zero, List.set_cons_succ]
          refine Held.take (v := .bool true) 26 (some 46) rfl rfl (by kernel_rfl) (by kernel_rfl) (by kernel_rfl) (fun _ _ _ h => h) rfl (Held.y_eql rfl rfl rfl (by kernel_rfl) Tryd.underlying27 Tryd.underlying5 (by kernel_rfl) HPL.out) c0_9 ?_
          simp only [Act.put, List.setIfInBounds_toArray, List.set_cons_zero, List.set_cons_succ]
          refine Held.take (v := .bool true) 27 (some 47) rfl rfl (by kernel_rfl) (by kernel_rfl) (by kernel_rfl) (fun _ _ _ h => h) rfl (Held.y_pick rfl rfl rfl) c0_9 ?_
          simp only [Act.put, List.setIfInBounds_toArray, List.set_cons_zero, List.set_cons_succ]
          refine Held.take (v := .bool true) 28 (some 6) rfl rfl (by kernel_rfl) (by kernel_rfl) (by kernel_rfl) (fun _ _ _ h => h) rfl (Held.y_assign rfl rfl) c0_9 ?_
          simp only [Act.put, List.setIfInBounds_toArray, List.set_cons_zero, List.set_cons_succ]
          refine wpAnyH_done (by kernel_rfl) ?_ _
          go_wp2_with fail
          go_ret
          exact ⟨rfl, b.trans (c0_9.mono b.size)⟩
        · refine Held.op_build 24 (some 44) 23 25 1 (.slice none 0 0) 24 [.slice A m c] rfl rfl rfl rfl Tryd.underlying23 info_bytes (by simp [Act.eval]) (by simp [Value.cells]) (by simp [Value.oneCell']) rfl (by omega) (by omega) ?_
          intro p24 w7 v24 b7
          have c0_7 := c0_6.trans (b7.mono c0_6.size)
          have c2_7 := c2_6.trans (b7.mono c2_6.size)
          have c3_7 := c3_6.trans (b7.mono c3_6.size)
          have c6_7 := b7
          have c7_7 := Below.refl w7.heap.size w7
          refine ⟨c0_7, ?_⟩
          simp only [Act.put, List.setIfInBounds_toArray, List.set_cons_zero, List.set_cons_succ]
          refine Held.one 21 (by kernel_rfl) ?_
          refine Held.op_call 21 (some 41) 11 #[.agg (arr .u8 key), .slice (some ⟨p20, 0, none⟩) 3 3] rfl rfl rfl rfl (enters_of Tryd.func11 (by kernel_rfl) rfl) (by simp [Act.eval])
            (tag_3 key (some ⟨p20, 0, none⟩) A m c bs _ HK.out hkb (v20.below c6_7 |>.more c6_7.size) ((iz.below c0_7).more c0_7.size) hmc hcm (by omega) hbs (hT.below (b.trans (c0_7.mono b.size)) hT.lt)) ?_
          rintro e w8 ⟨rfl, b8⟩
          have c0_8 := c0_7.trans (b8.mono c0_7.size)
          have c2_8 := c2_7.trans (b8.mono c2_7.size)
          have c3_8 := c3_7.trans (b8.mono c3_7.size)
          have c6_8 := c6_7.trans (b8.mono c6_7.size)
          have c7_8 := b8
          refine ⟨_, rfl, c0_8, ?_⟩
          simp only [Act.put, List.setIfInBounds_toArray, List.set_cons_zero, List.set_cons_succ]
          refine Held.one 25 (by kernel_rfl) ?_
          refine Held.op_call 25 (some 45) 11 #[.agg (arr .u8 key), .slice (some ⟨p24, 0, none⟩) 1 1] rfl rfl rfl rfl (enters_of Tryd.func11 (by kernel_rfl) rfl) (by simp [Act.eval])
            (tag_1 key (some ⟨p24, 0, none⟩) A m c bs _ HK.out hkb (v24.below c7_8 |>.more c7_8.size) ((iz.below c0_8).more c0_8.size) hmc hcm (by omega) hbs (hT.below (b.trans (c0_8.mono b.size)) hT.lt)) ?_
          rintro e w9 ⟨rfl, b9⟩
          have c0_9 := c0_8.trans (b9.mono c0_8.size)
          have c2_9 := c2_8.trans (b9.mono c2_8.size)
          have c3_9 := c3_8.trans (b9.mono c3_8.size)
          have c6_9 := c6_8.trans (b9.mono c6_8.size)
          have c7_9 := c7_8.trans (b9.mono c7_8.size)
          refine ⟨_, rfl, c0_9, ?_⟩
          simp only [Act.put, List.setIfInBounds_toArray, List.set_cons_zero, List.set_cons_succ]
          refine Held.take (v := .bool true) 26 (some 46) rfl rfl (by kernel_rfl) (by kernel_rfl) (by kernel_rfl) (fun _ _ _ h => h) rfl (Held.y_eql rfl rfl rfl (by kernel_rfl) Tryd.underlying27 Tryd.underlying5 (by kernel_rfl) HPL.out) c0_9 ?_
          simp only [Act.put, List.setIfInBounds_toArray, List.set_cons_zero, List.set_cons_succ]
          refine Held.take (v := .bool true) 27 (some 47) rfl rfl (by kernel_rfl) (by kernel_rfl) (by kernel_rfl) (fun _ _ _ h => h) rfl (Held.y_pick rfl rfl rfl) c0_9 ?_
          simp only [Act.put, List.setIfInBounds_toArray, List.set_cons_zero, List.set_cons_succ]
          refine Held.take (v := .bool true) 28 (some 6) rfl rfl (by kernel_rfl) (by kernel_rfl) (by kernel_rfl) (fun _ _ _ h => h) rfl (Held.y_assign rfl rfl) c0_9 ?_
          simp only [Act.put, List.setIfInBounds_toArray, List.set_cons_zero, List.set_cons_succ]
          refine wpAnyH_done (by kernel_rfl) ?_ _
          go_wp2_with fail
          go_ret
          exact ⟨rfl, b.trans (c0_9.mono b.size)⟩
      · refine Held.op_build 24 (some 44) 23 25 1 (.slice none 0 0) 24 [.slice A m c] rfl rfl rfl rfl Tryd.underlying23 info_bytes (by simp [Act.eval]) (by simp [Value.cells]) (by simp [Value.oneCell']) rfl (by omega) (by omega) ?_
        intro p24 w6 v24 b6
        have c0_6 := c0_5.trans (b6.mono c0_5.size)
        have c2_6 := c2_5.trans (b6.mono c2_5.size)
        have c3_6 := c3_5.trans (b6.mono c3_5.size)
        have c6_6 := Below.refl w6.heap.size w6
        refine ⟨c0_6, ?_⟩
        simp only [Act.put, List.setIfInBounds_toArray, List.set_cons_zero, List.set_cons_succ]
        refine Held.one 20 (by kernel_rfl) ?_
        refine Held.op_build 20 (some 40) 23 25 3 (.slice none 0 0) 24 [(.slice none 0 0), .slice A m c, (.slice none 0 0)] rfl rfl rfl rfl Tryd.underlying23 info_bytes (by simp [Act.eval]) (by simp [Value.cells]) (by simp [Value.oneCell']) rfl (by omega) (by omega) ?_
        intro p20 w7 v20 b7
        have c0_7 := c0_6.trans (b7.mono c0_6.size)
        have c2_7 := c2_6.trans (b7.mono c2_6.size)
        have c3_7 := c3_6.trans (b7.mono c3_6.size)
        have c6_7 := b7
        have c7_7 := Below.refl w7.heap.size w7
        refine ⟨c0_7, ?_⟩
        simp only [Act.put, List.setIfInBounds_toArray, List.set_cons_zero, List.set_cons_succ]
        refine Held.one 21 (by kernel_rfl) ?_
        refine Held.op_call 21 (some 41) 11 #[.agg (arr .u8 key), .slice (some ⟨p20, 0, none⟩) 3 3] rfl rfl rfl rfl (enters_of Tryd.func11 (by kernel_rfl) rfl) (by simp [Act.eval])
          (tag_3 key (some ⟨p20, 0, none⟩) A m c bs _ HK.out hkb (v20.below c7_7 |>.more c7_7.size) ((iz.below c0_7).more c0_7.size) hmc hcm (by omega) hbs (hT.below (b.trans (c0_7.mono b.size)) hT.lt)) ?_
        rintro e w8 ⟨rfl, b8⟩
        have c0_8 := c0_7.trans (b8.mono c0_7.size)
        have c2_8 := c2_7.trans (b8.mono c2_7.size)
        have c3_8 := c3_7.trans (b8.mono c3_7.size)
        have c6_8 := c6_7.trans (b8.mono c6_7.size)
        have c7_8 := b8
        refine ⟨_, rfl, c0_8, ?_⟩
        simp only [Act.put, List.setIfInBounds_toArray, List.set_cons_zero, List.set_cons_succ]
        refine Held.one 25 (by kernel_rfl) ?_
        refine Held.op_call 25 (some 45) 11 #[.agg (arr .u8 key), .slice (some ⟨p24, 0, none⟩) 1 1] rfl rfl rfl rfl (enters_of Tryd.func11 (by kernel_rfl) rfl) (by simp [Act.eval])
          (tag_1 key (some ⟨p24, 0, none⟩) A m c bs _ HK.out hkb (v24.below c6_8 |>.more c6_8.size) ((iz.below c0_8).more c0_8.size) hmc hcm (by omega) hbs (hT.below (b.trans (c0_8.mono b.size)) hT.lt)) ?_
        rintro e w9 ⟨rfl, b9⟩
        have c0_9 := c0_8.trans (b9.mono c0_8.size)
        have c2_9 := c2_8.trans (b9.mono c2_8.size)
        have c3_9 := c3_8.trans (b9.mono c3_8.size)
        have c6_9 := c6_8.trans (b9.mono c6_8.size)
        have c7_9 := c7_8.trans (b9.mono c7_8.size)
        refine ⟨_, rfl, c0_9, ?_⟩
        simp only [Act.put, List.setIfInBounds_toArray, List.set_cons_zero, List.set_cons_succ]
        refine Held.take (v := .bool true) 26 (some 46) rfl rfl (by kernel_rfl) (by kernel_rfl) (by kernel_rfl) (fun _ _ _ h => h) rfl (Held.y_eql rfl rfl rfl (by kernel_rfl) Tryd.underlying27 Tryd.underlying5 (by kernel_rfl) HPL.out) c0_9 ?_
        simp only [Act.put, List.setIfInBounds_toArray, List.set_cons_zero, List.set_cons_succ]
        refine Held.take (v := .bool true) 27 (some 47) rfl rfl (by kernel_rfl) (by kernel_rfl) (by kernel_rfl) (fun _ _ _ h => h) rfl (Held.y_pick rfl rfl rfl) c0_9 ?_
        simp only [Act.put, List.setIfInBounds_toArray, List.set_cons_zero, List.set_cons_succ]
        refine Held.take (v := .bool true) 28 (some 6) rfl rfl (by kernel_rfl) (by kernel_rfl) (by kernel_rfl) (fun _ _ _ h => h) rfl (Held.y_assign rfl rfl) c0_9 ?_
        simp only [Act.put, List.setIfInBounds_toArray, List.set_cons_zero, List.set_cons_succ]
        refine wpAnyH_done (by kernel_rfl) ?_ _
        go_wp2_with fail
        go_ret
        exact ⟨rfl, b.trans (c0_9.mono b.size)⟩

theorem walk (z0 : List Int) (a1 : Option Addr) (len1 cap1 : Nat) (z1 : List Int) (a2 : Int) (w : World) (zl0 : z0.length = 32) (zw0 : ∀ z ∈ z0, (Lit.int .u8 z).wf = true) (w1 : IsRow .u8 w a1 len1 cap1 z1) (w2 : (Lit.int .i64 a2).wf = true) (hL : laidMetH Tryd.prog laidList w) :
    Calls Tryd.prog 8 #[.agg (Mem.arr .u8 z0), .slice a1 len1 cap1, .int .i64 a2] w fun e w' => e = .returned (.bool true) ∧ Below w.heap.size w w' := by
  obtain ⟨h, hl, hm⟩ := ints_of_row w1
  exact start z0 a1 len1 cap1 _ a2 w h hl hm (flat_of_row w1) zl0 (bs_of_wf zw0) (poly_of_laid hL)

set_option maxRecDepth 100000 in
theorem door_met (os : Os) (args : Array Value) : laidMetH Tryd.prog laidList ((World.doorLaid Tryd.prog 400 os).forCall (fun _ _ => 0) ⟨#[], args, []⟩).memory :=
  laidMetH_of_parts3 (fuel := 8) (laidMet_of_run' 8 (by kernel_rfl) (by kernel_rfl)) (by kernel_rfl) (by kernel_rfl)

set_option maxRecDepth 100000 in
theorem lifted (os : Os) (started : os.Started) (H : Type) (enc : TypeId × Value → H) :
    ReturnsInHanded {} Tryd.checked os 8 .any (fun w args => (Rows.polyPartsSpec.pre enc Tryd.prog Tryd.f8 [] false w args ∧ laidMetH Tryd.prog laidList w) ∧ sizedMet enc Tryd.prog Tryd.f8 (OpenSpec.ofChange Rows.polyPartsSpec) false w args)
      (Rows.polyPartsSpec.post enc Tryd.prog Tryd.f8 false true false false) := by
  refine returnsInHanded_of_change_and (C := Tryd.checked) (X := fun w _ => laidMetH Tryd.prog laidList w) (fun _ _ _ hh h => h.of_heap hh) own started (by kernel_rfl) Tryd.func8
    (ChangeSpec.witness_shaped (enc := enc) (C := Tryd.checked) (os := os) (X := fun w _ => laidMetH Tryd.prog laidList w) false (World.doorLaid Tryd.prog 400 os) #[.agg (Array.replicate 32 (.int .u8 0)), .slice none 0 0, .int .i64 0] 8 rfl (World.shaped_of_RefB (by kernel_rfl) (by kernel_rfl)) (by kernel_rfl) (by kernel_rfl) (by kernel_rfl) (door_met os _)) ?_
  intro W base args ds gs before hval0 hW _ _ hL _
  have hval : ∀ (j : Nat) t v, Tryd.f8.params[j]? = some t → args[j]? = some v → Value.okWide Tryd.prog W .any base t v := hval0
  have hW' := hW
  obtain ⟨p, q, hA0, hV, rfl, hfz, hnd⟩ := hW
  have hA : DataW.TrodAll enc Tryd.prog W 0 (fun _ => true) true Tryd.f8.params.toList args.toList ds p := hA0
  rw [Tryd.params8] at hA hval
  obtain ⟨v0, vs0, d0, ds0, p0, q0, hargs, rfl, rfl, h0, r0⟩ := trodAll_cons hA
  obtain ⟨v1, vs1, d1, ds1, p1, q1, rfl, rfl, rfl, h1, r1⟩ := trodAll_cons r0
  obtain ⟨v2, vs2, d2, ds2, p2, q2, rfl, rfl, rfl, h2, r2⟩ := trodAll_cons r1
  obtain ⟨rfl, rfl, rfl⟩ := trodAll_nil r2
  obtain rfl : args = #[v0, v1, v2] := by cases args; simp_all
  obtain ⟨rfl, rfl⟩ := trodVars_none hV
  have k0 := h0
  have lt0 : ∀ x ∈ p0, x.block < W.heap.size := by obtain ⟨m, hm⟩ := k0; exact DataW.trod_lt m _ _ _ hm
  obtain ⟨z0, rfl, zl0, zw0⟩ := Mem.open_arr Tryd.underlying22 Tryd.underlying5 (by kernel_rfl) (by kernel_rfl) (hval 0 22 v0 rfl rfl) h0
  obtain ⟨a1, len1, cap1, rfl⟩ := okWide_slice Tryd.underlying25 (hval 1 25 v1 rfl rfl)
  have k1 := h1
  have lt1 : ∀ x ∈ p1, x.block < W.heap.size := by obtain ⟨m, hm⟩ := k1; exact DataW.trod_lt m _ _ _ hm
  obtain ⟨z1, w1⟩ : ∃ zs, IsRow .u8 W a1 len1 cap1 zs := by
    obtain ⟨fuel, hf⟩ := h1
    rcases open_ints Tryd.underlying25 Tryd.underlying5 (by kernel_rfl) hf with ⟨hcs, _⟩ | ⟨x, l, c, zs, hcs, _, hl, hm, hz, _, hcell, hwz⟩
    · simp [Value.cells] at hcs
      obtain ⟨rfl, rfl, rfl⟩ := hcs
      exact ⟨[], .inl ⟨rfl, rfl, rfl, rfl⟩⟩
    · simp [Value.cells] at hcs
      obtain ⟨rfl, rfl, rfl⟩ := hcs
      exact ⟨zs, .inr ⟨_, rfl, hl, hm, by simpa using hz, hcell, hwz⟩⟩
  obtain ⟨a2, rfl, rfl, rfl, w2⟩ := open_int Tryd.underlying3 (hval 2 3 v2 rfl rfl) h2
  clear hA0 hval0
  refine (walk z0 a1 len1 cap1 z1 a2 W zl0 zw0 w1 w2 hL).mono fun e W' ⟨he, bel⟩ => ?_
  subst he
  exact ⟨_, rfl, _, _, _, [], _, [], hW', trodAll_mk1 (shut_bool Tryd.underlying4 _), (trodAll_cons_mk (Below.trod laidOut (by kernel_rfl) (of_decide_eq_true (by kernel_rfl)) k0 bel lt0) (trodAll_cons_mk (Below.trod laidOut (by kernel_rfl) (of_decide_eq_true (by kernel_rfl)) k1 bel lt1) (trodAll_cons_mk (shut_int Tryd.underlying3 w2) trodAll_mk0))), rfl, bel.frame _, fun h => by cases h⟩

theorem over : Rows.polyPartsRow.holds Tryd.pinned (OpenSpec.ofChange Rows.polyPartsSpec) :=
  OpenClaim.holds_of_wide 8 Tryd.f8 rfl rfl rfl rfl rfl rfl rfl ⟨rfl, rfl, rfl, rfl, rfl⟩ rfl rfl rfl rfl rfl (by kernel_rfl) Tryd.func8 (by kernel_rfl)
    (of_decide_eq_true (by kernel_rfl)) (by unfold Func.isWrapper; first | (rw [if_pos (by decide +kernel)]; kernel_rfl) | (rw [if_neg (by decide +kernel)]; exact ⟨rfl, rfl⟩))
    (fun os started H enc _ => lifted os started H enc)

/-- the statement -/
theorem proved : Rows.PolyPartsCardSaid :=
  Claim7.holds_tied_plain_at .later [] [.data] true (true, "9d09f719a415488d530ca78bf13ef0359f19f2341467271f1f7cb433901f189e") false
    over (fun _ h => by cases h) (by kernel_rfl) (fun _ h => by cases h) polyParts_row_tie rfl ⟨rfl, rfl⟩ (by kernel_rfl) rfl
    (fun f fn hf hfn => by
      obtain rfl : f = 8 := Option.some.inj ((show Tryd.prog.funcNamed "domino/dominolaw06.PolyParts" = some 8 by kernel_rfl).symm.trans hf) |>.symm
      obtain rfl : fn = Tryd.f8 := (Option.some.inj (Tryd.func8.symm.trans hfn)).symm
      exact ⟨by kernel_rfl, fun j t ht => by
        rw [Tryd.params8] at ht
        have hm : t ∈ [22, 25, 3] := by simpa using Array.mem_of_getElem? ht
        have hall : ([22, 25, 3].all fun u => !Tryd.prog.wantsStandIn u) = true := by kernel_rfl
        exact (show Tryd.prog.wantsStandIn t = false by simpa using List.all_eq_true.1 hall t hm)⟩)
    (by kernel_rfl)
#print axioms proved
end Go.Proofs.YtebkicikpeicmaaDoor.polyParts
