/-
  The law MacLong of package dominolaw03 returns true for every two texts and every number: a key of up to 64 bytes is the same with zeros behind it; a longer one is as its sum. The tables of package sha hold what the program's text lays.
-/
import Derived.Test.YtaggpecikiknkaaDoorRows
import Derived.Test.YtaggpecikiknkaaDoorCards
import Derived.Test.YtaggpecikiknkaaDoorTie
import Derived.SevenTiedAt
import Derived.WalkKit
import Derived.ProofKit
import Derived.OpenShut
import Derived.ShutString
import Derived.ChangeOld
import Derived.Below
import Derived.LaidMore
import Derived.Stop.Joined
import Derived.Test.YtaggpecikiknkaaDoorMacB
import Derived.Test.YtaggpecikiknkaaDoorLaid
import Derived.Test.YtaggpecikiknkaaDoorHeld
import Derived.Test.YtaggpecikiknkaaDoorShaR
namespace Go.Proofs.YtaggpecikiknkaaDoor.macLong
open Go.ChangeShapes Go.WideShapes Go.ChangeAt Go.RowKit
open Go.ChangeMaps (open_string shut_string)
open Go.Shelf Go.Proofs.YtaggpecikiknkaaDoor.Mem Go.Proofs.YtaggpecikiknkaaDoor.Help Go.Proofs.YtaggpecikiknkaaDoor.Sum Go.Proofs.YtaggpecikiknkaaDoor.Sha Go.Proofs.YtaggpecikiknkaaDoor.Mac
set_option linter.unusedVariables false

theorem own : ownKnob Tryd.prog.godebug = none := by kernel_rfl
theorem laidOut : laidOutB Tryd.prog = true := by kernel_rfl

/-- what a slice that came in leads to -/
def IsRow (k : IntKind) (w : World) (a : Option Addr) (len cap : Nat) (zs : List Int) : Prop :=
  (a = none ∧ len = 0 ∧ cap = 0 ∧ zs = []) ∨
  ∃ x, a = some x ∧ len ≤ cap ∧ cap ≤ maxLen ∧ zs.length = cap ∧ (∀ i, i < zs.length → w.cell? (x.add i) = some (.int k (zs.getD i 0))) ∧ ∀ n ∈ zs, (Lit.int k n).wf = true

def laidList : List (String × DataW Unit) := [("domino/sha.start", Rows.laid_domino_sha_start), ("domino/sha.words", Rows.laid_domino_sha_words)]

theorem tag_long (key msg : List Int) (h : 64 < key.length) : tag key msg = tag (Sum.sha key) msg := by
  have e1 : fit key = Sum.sha key := by unfold fit; rw [if_pos h]
  have e2 : fit (Sum.sha key) = Sum.sha key := by unfold fit; rw [if_neg (by rw [Mac.sha_length]; omega)]
  unfold tag blk
  rw [e1, e2]
theorem tag_zeros (key msg : List Int) (q : Nat) (h : key.length + q ≤ 64) : tag (key ++ List.replicate q 0) msg = tag key msg := by
  have e1 : fit key = key := by unfold fit; rw [if_neg (by omega)]
  have e2 : fit (key ++ List.replicate q 0) = key ++ List.replicate q 0 := by unfold fit; rw [if_neg (by rw [List.length_append, List.length_replicate]; omega)]
  have e3 : blk (key ++ List.replicate q 0) = blk key := by
    unfold blk
    rw [e1, e2, List.append_assoc, List.replicate_append_replicate, List.length_append, List.length_replicate]
    congr 2
    omega
  unfold tag
  rw [e3]
theorem zero_32b : (Tryd.prog.info? 26).bind (·.zero) = some (.agg (arr .u8 (List.replicate 32 0))) := by kernel_rfl

set_option maxRecDepth 100000 in
set_option maxHeartbeats 16000000 in
theorem start (AK A : Option Addr) (n ck m c : Nat) (zs ys : List Int) (x : Int) (w : World) (hk : Ints w .u8 w.heap.size AK n zs) (hc1 : n ≤ ck) (hc1m : ck ≤ maxLen) (ht : Ints w .u8 w.heap.size A m ys) (hc2 : m ≤ c) (hc2m : c ≤ maxLen)
    (hT : Tab w 0 Sum.H0 ∧ Tab w 1 Sum.K) :
    Calls Tryd.prog 7 #[.slice AK n ck, .slice A m c, .int .i64 x] w fun e w' => e = .returned (.bool true) ∧ Below w.heap.size w w' := by
  by_cases hbig : 1000 < n ∨ 1000 < m
  · rcases (by omega : 1000 < n ∨ (¬ 1000 < n ∧ 1000 < m)) with hb | ⟨hb, hb'⟩
    · have q1 : (1000 : Int) < (n : Int) := by omega
      go_enter Tryd.func7, Tryd.ntmps7
      go_wp2_with (go_at_call 15; refine (awake3_any _ hT.1 hT.2).mono ?_; rintro e w' ⟨rfl, hb⟩)
      go_ret
      exact ⟨rfl, hb⟩
    · have q1 : ¬ (1000 : Int) < (n : Int) := by omega
      have q2 : (1000 : Int) < (m : Int) := by omega
      go_enter Tryd.func7, Tryd.ntmps7
      go_wp2_with (go_at_call 15; refine (awake3_any _ hT.1 hT.2).mono ?_; rintro e w' ⟨rfl, hb⟩)
      go_ret
      exact ⟨rfl, hb⟩
  have hn1 : ¬ (1000 : Int) < (n : Int) := by omega
  have hm1 : ¬ (1000 : Int) < (m : Int) := by omega
  have HX := Lib.hid (show [ys].flatten = ys by simp)
  by_cases h64 : 64 < n
  · have h64' : (64 : Int) < (n : Int) := by omega
    have HTL := Lib.hid (tag_long zs ys (by rw [hk.1]; exact h64))
    go_enter Tryd.func7, Tryd.ntmps7
    go_wp2_with fail
    refine (rsum_any _ AK n ck zs _ hk (Nat.le_refl _) (by omega)).mono ?_
    rintro e w1 ⟨rfl, b1⟩
    go_wp2_with (first
      | (refine wpList_alloc_Row (w := w1) rfl 26 rfl .u8 32 zero_32b ?_; intro w2 r2 g2 z2)
      | (refine wpList_store_RowTo (w := w2) rfl 26 _ _ rfl w1.heap.size rfl 26 .u8 _ (Sum.sha zs) rfl r2 32 info_32 (Mac.sha_length _) (by simp) (fun z hz => wf_of_byte (Mac.sha_bytes _ z hz)) ?_; intro wS r3 g3 z3))
    have bS : Below w.heap.size w wS := (b1.grown g2 b1.size (by simp)).grown g3 (by have := g2.size; have := b1.size; omega) (fun r e => by have := b1.size; cases e; omega)
    obtain ⟨g, hg⟩ : ∃ g, w1.heap.size = g := ⟨_, rfl⟩
    rw [hg] at r3 ⊢
    have hsI := r3.ints (n := 32) (by rw [Mac.sha_length]; omega)
    rw [List.take_of_length_le (by rw [Mac.sha_length]; omega)] at hsI
    have hkI := (hk.below bS).more bS.size
    have htI := (ht.below bS).more bS.size
    have hT1 := hT.1.below bS hT.1.lt
    have hT2 := hT.2.below bS hT.2.lt
    have TT := Texts.one htI hc2 hc2m
    clear r2 g2 z2 g3 z3 hg b1
    refine wp_region_held (S := fun W => Below wS.heap.size wS W) (by kernel_rfl) ?_
    change wpAnyH _ _ _ _ _ _ _ _ wS.drew
    have c0_0 := (Below.refl wS.heap.size wS).drew
    refine Held.one 0 (by kernel_rfl) ?_
    refine Held.op_call 0 (some 23) 15 #[] rfl rfl rfl rfl (enters_of Tryd.func15 (by kernel_rfl) rfl) (by simp [Act.eval])
      (awake3_any _ (hT1.below c0_0 hT1.lt) (hT2.below c0_0 hT2.lt)) ?_
    rintro e w1 ⟨rfl, b1⟩
    have c0_1 := c0_0.trans (b1.mono c0_0.size)
    refine ⟨_, rfl, c0_1, ?_⟩
    simp only [Act.put, List.setIfInBounds_toArray, List.set_cons_zero, List.set_cons_succ]
    refine Held.take (v := .bool true) 1 (some 24) rfl rfl (by kernel_rfl) (by kernel_rfl) (by kernel_rfl) (fun _ _ _ h => h) rfl (Held.y_move rfl rfl) c0_1 ?_
    simp only [Act.put, List.setIfInBounds_toArray, List.set_cons_zero, List.set_cons_succ]
    refine Held.take (v := .slice AK n ck) 2 (some 25) rfl rfl (by kernel_rfl) (by kernel_rfl) (by kernel_rfl) (fun _ _ _ h => h) rfl (Held.y_move rfl rfl) c0_1 ?_
    simp only [Act.put, List.setIfInBounds_toArray, List.set_cons_zero, List.set_cons_succ]
    refine Held.take (v := .slice A m c) 3 (some 26) rfl rfl (by kernel_rfl) (by kernel_rfl) (by kernel_rfl) (fun _ _ _ h => h) rfl (Held.y_move rfl rfl) c0_1 ?_
    simp only [Act.put, List.setIfInBounds_toArray, List.set_cons_zero, List.set_cons_succ]
    refine Held.take (v := .slice (some ⟨g, 0, none⟩) 32 32) 6 (some 29) rfl rfl (by kernel_rfl) (by kernel_rfl) (by kernel_rfl) (fun _ _ _ h => h) rfl (Held.y_slice rfl (fun W => run_slice_arr_all (P := Tryd.prog) 26 5 32 g W Tryd.underlying26 (by kernel_rfl) (by omega))) c0_1 ?_
    simp only [Act.put, List.setIfInBounds_toArray, List.set_cons_zero, List.set_cons_succ]
    refine Held.take (v := .slice A m c) 7 (some 30) rfl rfl (by kernel_rfl) (by kernel_rfl) (by kernel_rfl) (fun _ _ _ h => h) rfl (Held.y_move rfl rfl) c0_1 ?_
    simp only [Act.put, List.setIfInBounds_toArray, List.set_cons_zero, List.set_cons_succ]
    refine Held.two 4 8 (by kernel_rfl) ?_ ?_
    · refine Held.op_build 4 (some 27) 22 24 1 (.slice none 0 0) 24 [.slice A m c] rfl rfl rfl rfl Tryd.underlying22 info_bytes (by simp [Act.eval]) (by simp [Value.cells]) (by simp [Value.oneCell']) rfl (by omega) (by omega) ?_
      intro p4 w2 v4 b2
      have c0_2 := c0_1.trans (b2.mono c0_1.size)
      have c2_2 := Below.refl w2.heap.size w2
      refine ⟨c0_2, ?_⟩
      simp only [Act.put, List.setIfInBounds_toArray, List.set_cons_zero, List.set_cons_succ]
      refine Held.two 5 8 (by kernel_rfl) ?_ ?_
      · refine Held.op_call 5 (some 28) 16 #[.slice AK n ck, .slice (some ⟨p4, 0, none⟩) 1 1] rfl rfl rfl rfl (enters_of Tryd.func16 (by kernel_rfl) rfl) (by simp [Act.eval])
          (tag_any _ _ _ _ _ _ _ _ _ _ _ _ (hkI.below c0_2) hc1 hc1m (by omega) (v4.below c2_2) ((TT.below c0_2).more c0_2.size) c0_2.size c2_2.size (by omega) (by rw [HX.out, htI.1]; omega) (hT1.below c0_2 hT1.lt) (hT2.below c0_2 hT2.lt)) ?_
        rw [HX.out]
        rintro e w3 ⟨rfl, b3⟩
        have c0_3 := c0_2.trans (b3.mono c0_2.size)
        have c2_3 := b3
        refine ⟨_, rfl, c0_3, ?_⟩
        simp only [Act.put, List.setIfInBounds_toArray, List.set_cons_zero, List.set_cons_succ]
        refine Held.one 8 (by kernel_rfl) ?_
        refine Held.op_build 8 (some 31) 22 24 1 (.slice none 0 0) 24 [.slice A m c] rfl rfl rfl rfl Tryd.underlying22 info_bytes (by simp [Act.eval]) (by simp [Value.cells]) (by simp [Value.oneCell']) rfl (by omega) (by omega) ?_
        intro p8 w4 v8 b4
        have c0_4 := c0_3.trans (b4.mono c0_3.size)
        have c2_4 := c2_3.trans (b4.mono c2_3.size)
        have c4_4 := Below.refl w4.heap.size w4
        refine ⟨c0_4, ?_⟩
        simp only [Act.put, List.setIfInBounds_toArray, List.set_cons_zero, List.set_cons_succ]
        refine Held.one 9 (by kernel_rfl) ?_
        refine Held.op_call 9 (some 32) 16 #[.slice (some ⟨g, 0, none⟩) 32 32, .slice (some ⟨p8, 0, none⟩) 1 1] rfl rfl rfl rfl (enters_of Tryd.func16 (by kernel_rfl) rfl) (by simp [Act.eval])
          (tag_any _ _ _ _ _ _ _ _ _ _ _ _ (hsI.below c0_4) (Nat.le_refl 32) (by simp [maxLen]) (by omega) (v8.below c4_4) ((TT.below c0_4).more c0_4.size) c0_4.size c4_4.size (by omega) (by rw [HX.out, htI.1]; omega) (hT1.below c0_4 hT1.lt) (hT2.below c0_4 hT2.lt)) ?_
        rw [HX.out, ← HTL.out]
        rintro e w5 ⟨rfl, b5⟩
        have c0_5 := c0_4.trans (b5.mono c0_4.size)
        have c2_5 := c2_4.trans (b5.mono c2_4.size)
        have c4_5 := b5
        refine ⟨_, rfl, c0_5, ?_⟩
        simp only [Act.put, List.setIfInBounds_toArray, List.set_cons_zero, List.set_cons_succ]
        refine Held.take (v := .bool true) 10 (some 33) rfl rfl (by kernel_rfl) (by kernel_rfl) (by kernel_rfl) (fun _ _ _ h => h) rfl (Held.y_eql rfl rfl rfl (by kernel_rfl) Tryd.underlying26 Tryd.underlying5 (by kernel_rfl) (tag_length _ _)) c0_5 ?_
        simp only [Act.put, List.setIfInBounds_toArray, List.set_cons_zero, List.set_cons_succ]
        refine Held.take (v := .bool true) 11 (some 34) rfl rfl (by kernel_rfl) (by kernel_rfl) (by kernel_rfl) (fun _ _ _ h => h) rfl (Held.y_pick rfl rfl rfl) c0_5 ?_
        simp only [Act.put, List.setIfInBounds_toArray, List.set_cons_zero, List.set_cons_succ]
        refine Held.take (v := .bool true) 12 (some 6) rfl rfl (by kernel_rfl) (by kernel_rfl) (by kernel_rfl) (fun _ _ _ h => h) rfl (Held.y_assign rfl rfl) c0_5 ?_
        simp only [Act.put, List.setIfInBounds_toArray, List.set_cons_zero, List.set_cons_succ]
        refine wpAnyH_done (by kernel_rfl) ?_ _
        go_wp2_with fail
        go_ret
        exact ⟨rfl, bS.trans (c0_5.mono bS.size)⟩
      · refine Held.op_build 8 (some 31) 22 24 1 (.slice none 0 0) 24 [.slice A m c] rfl rfl rfl rfl Tryd.underlying22 info_bytes (by simp [Act.eval]) (by simp [Value.cells]) (by simp [Value.oneCell']) rfl (by omega) (by omega) ?_
        intro p8 w3 v8 b3
        have c0_3 := c0_2.trans (b3.mono c0_2.size)
        have c2_3 := b3
        have c3_3 := Below.refl w3.heap.size w3
        refine ⟨c0_3, ?_⟩
        simp only [Act.put, List.setIfInBounds_toArray, List.set_cons_zero, List.set_cons_succ]
        refine Held.one 5 (by kernel_rfl) ?_
        refine Held.op_call 5 (some 28) 16 #[.slice AK n ck, .slice (some ⟨p4, 0, none⟩) 1 1] rfl rfl rfl rfl (enters_of Tryd.func16 (by kernel_rfl) rfl) (by simp [Act.eval])
          (tag_any _ _ _ _ _ _ _ _ _ _ _ _ (hkI.below c0_3) hc1 hc1m (by omega) (v4.below c2_3) ((TT.below c0_3).more c0_2.size) c0_3.size c2_3.size (by omega) (by rw [HX.out, htI.1]; omega) (hT1.below c0_3 hT1.lt) (hT2.below c0_3 hT2.lt)) ?_
        rw [HX.out]
        rintro e w4 ⟨rfl, b4⟩
        have c0_4 := c0_3.trans (b4.mono c0_3.size)
        have c2_4 := c2_3.trans (b4.mono c2_3.size)
        have c3_4 := b4
        refine ⟨_, rfl, c0_4, ?_⟩
        simp only [Act.put, List.setIfInBounds_toArray, List.set_cons_zero, List.set_cons_succ]
        refine Held.one 9 (by kernel_rfl) ?_
        refine Held.op_call 9 (some 32) 16 #[.slice (some ⟨g, 0, none⟩) 32 32, .slice (some ⟨p8, 0, none⟩) 1 1] rfl rfl rfl rfl (enters_of Tryd.func16 (by kernel_rfl) rfl) (by simp [Act.eval])
          (tag_any _ _ _ _ _ _ _ _ _ _ _ _ (hsI.below c0_4) (Nat.le_refl 32) (by simp [maxLen]) (by omega) (v8.below c3_4) ((TT.below c0_4).more c0_3.size) c0_4.size c3_4.size (by omega) (by rw [HX.out, htI.1]; omega) (hT1.below c0_4 hT1.lt) (hT2.below c0_4 hT2.lt)) ?_
        rw [HX.out, ← HTL.out]
        rintro e w5 ⟨rfl, b5⟩
        have c0_5 := c0_4.trans (b5.mono c0_4.size)
        have c2_5 := c2_4.trans (b5.mono c2_4.size)
        have c3_5 := c3_4.trans (b5.mono c3_4.size)
        refine ⟨_, rfl, c0_5, ?_⟩
        simp only [Act.put, List.setIfInBounds_toArray, List.set_cons_zero, List.set_cons_succ]
        refine Held.take (v := .bool true) 10 (some 33) rfl rfl (by kernel_rfl) (by kernel_rfl) (by kernel_rfl) (fun _ _ _ h => h) rfl (Held.y_eql rfl rfl rfl (by kernel_rfl) Tryd.underlying26 Tryd.underlying5 (by kernel_rfl) (tag_length _ _)) c0_5 ?_
        simp only [Act.put, List.setIfInBounds_toArray, List.set_cons_zero, List.set_cons_succ]
        refine Held.take (v := .bool true) 11 (some 34) rfl rfl (by kernel_rfl) (by kernel_rfl) (by kernel_rfl) (fun _ _ _ h => h) rfl (Held.y_pick rfl rfl rfl) c0_5 ?_
        simp only [Act.put, List.setIfInBounds_toArray, List.set_cons_zero, List.set_cons_succ]
        refine Held.take (v := .bool true) 12 (some 6) rfl rfl (by kernel_rfl) (by kernel_rfl) (by kernel_rfl) (fun _ _ _ h => h) rfl (Held.y_assign rfl rfl) c0_5 ?_
        simp only [Act.put, List.setIfInBounds_toArray, List.set_cons_zero, List.set_cons_succ]
        refine wpAnyH_done (by kernel_rfl) ?_ _
        go_wp2_with fail
        go_ret
        exact ⟨rfl, bS.trans (c0_5.mono bS.size)⟩
    · refine Held.op_build 8 (some 31) 22 24 1 (.slice none 0 0) 24 [.slice A m c] rfl rfl rfl rfl Tryd.underlying22 info_bytes (by simp [Act.eval]) (by simp [Value.cells]) (by simp [Value.oneCell']) rfl (by omega) (by omega) ?_
      intro p8 w2 v8 b2
      have c0_2 := c0_1.trans (b2.mono c0_1.size)
      have c2_2 := Below.refl w2.heap.size w2
      refine ⟨c0_2, ?_⟩
      simp only [Act.put, List.setIfInBounds_toArray, List.set_cons_zero, List.set_cons_succ]
      refine Held.one 4 (by kernel_rfl) ?_
      refine Held.op_build 4 (some 27) 22 24 1 (.slice none 0 0) 24 [.slice A m c] rfl rfl rfl rfl Tryd.underlying22 info_bytes (by simp [Act.eval]) (by simp [Value.cells]) (by simp [Value.oneCell']) rfl (by omega) (by omega) ?_
      intro p4 w3 v4 b3
      have c0_3 := c0_2.trans (b3.mono c0_2.size)
      have c2_3 := b3
      have c3_3 := Below.refl w3.heap.size w3
      refine ⟨c0_3, ?_⟩
      simp only [Act.put, List.setIfInBounds_toArray, List.set_cons_zero, List.set_cons_succ]
      refine Held.one 5 (by kernel_rfl) ?_
      refine Held.op_call 5 (some 28) 16 #[.slice AK n ck, .slice (some ⟨p4, 0, none⟩) 1 1] rfl rfl rfl rfl (enters_of Tryd.func16 (by kernel_rfl) rfl) (by simp [Act.eval])
        (tag_any _ _ _ _ _ _ _ _ _ _ _ _ (hkI.below c0_3) hc1 hc1m (by omega) (v4.below c3_3) ((TT.below c0_3).more c0_3.size) c0_3.size c3_3.size (by omega) (by rw [HX.out, htI.1]; omega) (hT1.below c0_3 hT1.lt) (hT2.below c0_3 hT2.lt)) ?_
      rw [HX.out]
      rintro e w4 ⟨rfl, b4⟩
      have c0_4 := c0_3.trans (b4.mono c0_3.size)
      have c2_4 := c2_3.trans (b4.mono c2_3.size)
      have c3_4 := b4
      refine ⟨_, rfl, c0_4, ?_⟩
      simp only [Act.put, List.setIfInBounds_toArray, List.set_cons_zero, List.set_cons_succ]
      refine Held.one 9 (by kernel_rfl) ?_
      refine Held.op_call 9 (some 32) 16 #[.slice (some ⟨g, 0, none⟩) 32 32, .slice (some ⟨p8, 0, none⟩) 1 1] rfl rfl rfl rfl (enters_of Tryd.func16 (by kernel_rfl) rfl) (by simp [Act.eval])
        (tag_any _ _ _ _ _ _ _ _ _ _ _ _ (hsI.below c0_4) (Nat.le_refl 32) (by simp [maxLen]) (by omega) (v8.below c2_4) ((TT.below c0_4).more c0_2.size) c0_4.size c2_4.size (by omega) (by rw [HX.out, htI.1]; omega) (hT1.below c0_4 hT1.lt) (hT2.below c0_4 hT2.lt)) ?_
      rw [HX.out, ← HTL.out]
      rintro e w5 ⟨rfl, b5⟩
      have c0_5 := c0_4.trans (b5.mono c0_4.size)
      have c2_5 := c2_4.trans (b5.mono c2_4.size)
      have c3_5 := c3_4.trans (b5.mono c3_4.size)
      refine ⟨_, rfl, c0_5, ?_⟩
      simp only [Act.put, List.setIfInBounds_toArray, List.set_cons_zero, List.set_cons_succ]
      refine Held.take (v := .bool true) 10 (some 33) rfl rfl (by kernel_rfl) (by kernel_rfl) (by kernel_rfl) (fun _ _ _ h => h) rfl (Held.y_eql rfl rfl rfl (by kernel_rfl) Tryd.underlying26 Tryd.underlying5 (by kernel_rfl) (tag_length _ _)) c0_5 ?_
      simp only [Act.put, List.setIfInBounds_toArray, List.set_cons_zero, List.set_cons_succ]
      refine Held.take (v := .bool true) 11 (some 34) rfl rfl (by kernel_rfl) (by kernel_rfl) (by kernel_rfl) (fun _ _ _ h => h) rfl (Held.y_pick rfl rfl rfl) c0_5 ?_
      simp only [Act.put, List.setIfInBounds_toArray, List.set_cons_zero, List.set_cons_succ]
      refine Held.take (v := .bool true) 12 (some 6) rfl rfl (by kernel_rfl) (by kernel_rfl) (by kernel_rfl) (fun _ _ _ h => h) rfl (Held.y_assign rfl rfl) c0_5 ?_
      simp only [Act.put, List.setIfInBounds_toArray, List.set_cons_zero, List.set_cons_succ]
      refine wpAnyH_done (by kernel_rfl) ?_ _
      go_wp2_with fail
      go_ret
      exact ⟨rfl, bS.trans (c0_5.mono bS.size)⟩
  · have h64' : ¬ (64 : Int) < (n : Int) := by omega
    have hu0 : 0 ≤ IntKind.u64.wrap x := by rw [IntKind.wrap_u64]; omega
    have hw65 : IntKind.i64.wrap (65 - (n : Int)) = 65 - (n : Int) := by rw [IntKind.wrap_i64]; omega
    have hu65 : IntKind.u64.wrap (65 - (n : Int)) = 65 - (n : Int) := by rw [IntKind.wrap_u64]; omega
    have hne65 : 65 - (n : Int) ≠ 0 := by omega
    have hu1 : 0 ≤ IntKind.u64.wrap x % (65 - (n : Int)) := Int.emod_nonneg _ hne65
    have hu2 : IntKind.u64.wrap x % (65 - (n : Int)) < 65 - (n : Int) := Int.emod_lt_of_pos _ (by omega)
    obtain ⟨q, hq⟩ : ∃ q : Nat, IntKind.u64.wrap x % (65 - (n : Int)) = (q : Int) := ⟨(IntKind.u64.wrap x % (65 - (n : Int))).toNat, by omega⟩
    have hrm : (IntKind.u64.wrap x).tmod (65 - (n : Int)) = (q : Int) := by rw [Int.tmod_eq_emod_of_nonneg hu0]; exact hq
    have hqn : n + q ≤ 64 := by omega
    have hqi : IntKind.i64.wrap (q : Int) = (q : Int) := by rw [IntKind.wrap_i64]; omega
    clear hu0 hu1 hu2 hq
    go_enter Tryd.func7, Tryd.ntmps7
    go_wp2_with fail
    refine wp_region_held (S := fun W => Below w.heap.size w W) (by kernel_rfl) ?_
    change wpAnyH _ _ _ _ _ _ _ _ w.drew
    have c0_0 := (Below.refl w.heap.size w).drew
    refine Held.take (v := .slice AK n ck) 0 (some 35) rfl rfl (by kernel_rfl) (by kernel_rfl) (by kernel_rfl) (fun _ _ _ h => h) rfl (Held.y_move rfl rfl) c0_0 ?_
    simp only [Act.put, List.setIfInBounds_toArray, List.set_cons_zero, List.set_cons_succ]
    refine Held.take (v := .int .i64 x) 2 (some 37) rfl rfl (by kernel_rfl) (by kernel_rfl) (by kernel_rfl) (fun _ _ _ h => h) rfl (Held.y_move rfl rfl) c0_0 ?_
    simp only [Act.put, List.setIfInBounds_toArray, List.set_cons_zero, List.set_cons_succ]
    refine Held.take (v := .int .u64 (IntKind.u64.wrap x)) 3 (some 38) rfl rfl (by kernel_rfl) (by kernel_rfl) (by kernel_rfl) (fun _ _ _ h => h) rfl (Held.y_convert rfl rfl (by rfl) Tryd.underlying31 rfl) c0_0 ?_
    simp only [Act.put, List.setIfInBounds_toArray, List.set_cons_zero, List.set_cons_succ]
    refine Held.take (v := .slice AK n ck) 4 (some 39) rfl rfl (by kernel_rfl) (by kernel_rfl) (by kernel_rfl) (fun _ _ _ h => h) rfl (Held.y_move rfl rfl) c0_0 ?_
    simp only [Act.put, List.setIfInBounds_toArray, List.set_cons_zero, List.set_cons_succ]
    refine Held.take (v := .int .i64 (n : Int)) 5 (some 40) rfl rfl (by kernel_rfl) (by kernel_rfl) (by kernel_rfl) (fun _ _ _ h => h) rfl (Held.y_len rfl rfl (by kernel_rfl)) c0_0 ?_
    simp only [Act.put, List.setIfInBounds_toArray, List.set_cons_zero, List.set_cons_succ]
    refine Held.take (v := .int .i64 (65 - (n : Int))) 6 (some 41) rfl rfl (by kernel_rfl) (by kernel_rfl) (by kernel_rfl) (fun _ _ _ h => h) rfl (Held.y_int rfl rfl rfl (Held.run_sub _ _ hw65)) c0_0 ?_
    simp only [Act.put, List.setIfInBounds_toArray, List.set_cons_zero, List.set_cons_succ]
    refine Held.take (v := .int .u64 (65 - (n : Int))) 7 (some 42) rfl rfl (by kernel_rfl) (by kernel_rfl) (by kernel_rfl) (fun _ _ _ h => h) rfl (Held.y_convert rfl rfl (by rfl) Tryd.underlying31 hu65) c0_0 ?_
    simp only [Act.put, List.setIfInBounds_toArray, List.set_cons_zero, List.set_cons_succ]
    refine Held.take (v := .int .u64 (q : Int)) 8 (some 43) rfl rfl (by kernel_rfl) (by kernel_rfl) (by kernel_rfl) (fun _ _ _ h => h) rfl (Held.y_int rfl rfl rfl (Held.run_rem _ _ hne65 hrm)) c0_0 ?_
    simp only [Act.put, List.setIfInBounds_toArray, List.set_cons_zero, List.set_cons_succ]
    refine Held.take (v := .int .i64 (q : Int)) 9 (some 44) rfl rfl (by kernel_rfl) (by kernel_rfl) (by kernel_rfl) (fun _ _ _ h => h) rfl (Held.y_convert rfl rfl (by rfl) Tryd.underlying3 hqi) c0_0 ?_
    simp only [Act.put, List.setIfInBounds_toArray, List.set_cons_zero, List.set_cons_succ]
    refine Held.one 1 (by kernel_rfl) ?_
    refine Held.op_call 1 (some 36) 14 #[.slice AK n ck] rfl rfl rfl rfl (enters_of Tryd.func14 (by kernel_rfl) rfl) (by simp [Act.eval])
      (copy_any _ AK n ck zs _ (hk.below c0_0) (by omega)) ?_
    rintro e w1 ⟨v1, rfl, own1, b1⟩
    have c0_1 := c0_0.trans (b1.mono c0_0.size)
    refine ⟨_, rfl, c0_1, ?_⟩
    simp only [Act.put, List.setIfInBounds_toArray, List.set_cons_zero, List.set_cons_succ]
    refine Held.one 10 (by kernel_rfl) ?_
    refine Held.op_append_zeros 10 (some 45) 24 3 rfl rfl rfl rfl w.heap.size 5 .u8 .i64 .i64 1 Tryd.underlying24 Tryd.underlying3 info_u8 v1 zs q rfl rfl own1 (by rw [hk.1]; omega) (by omega) c0_1.size ?_
    intro v2 w2 own2 g2
    have c0_2 : Below w.heap.size w w2 := c0_1.grown g2 c0_1.size (fun r e => (own1.2.lt r e).1)
    refine ⟨c0_2, ?_⟩
    simp only [Act.put, List.setIfInBounds_toArray, List.set_cons_zero, List.set_cons_succ]
    refine Held.take (v := v2) 11 (some 8) rfl rfl (by kernel_rfl) (by kernel_rfl) (by kernel_rfl) (fun _ _ _ h => h) rfl (Held.y_assign rfl rfl) c0_2 ?_
    simp only [Act.put, List.setIfInBounds_toArray, List.set_cons_zero, List.set_cons_succ]
    refine wpAnyH_done (by kernel_rfl) ?_ _
    have b8 := c0_2
    have hzb : (zs ++ List.replicate q 0).length = n + q := by rw [List.length_append, hk.1, List.length_replicate]
    have HTZ := Lib.hid (tag_zeros zs ys q (by rw [hk.1]; omega))
    obtain ⟨A8, c8, rfl, hc8, hc8m, i8⟩ := own2.form
    rw [hzb] at hc8 i8 ⊢
    have hu := fun W => eql_arr (P := Tryd.prog) W 26 5 32 .u8 (tag zs ys) Tryd.underlying26 Tryd.underlying5 rfl (tag_length _ _)
    clear hzb own2 own1 g2 b1 c0_0 c0_1 c0_2 hw65 hu65 hrm hqi hne65
    go_wp2_with fail
    refine (awake3_any _ (hT.1.below b8 hT.1.lt) (hT.2.below b8 hT.2.lt)).mono ?_
    rintro e w4 ⟨rfl, hb4⟩
    have b4 := b8.trans (hb4.mono b8.size)
    have i4 := i8.below hb4
    have s4 := hb4.size
    go_wp2_with fail
    refine (tag_one _ _ _ AK A n ck m c _ zs ys (hk.below b4) b4.size hc1 hc1m (by omega) (ht.below b4) b4.size hc2 hc2m (by omega) (hT.1.below b4 hT.1.lt) (hT.2.below b4 hT.2.lt)).mono ?_
    rintro e w5 ⟨rfl, hb5⟩
    have b5 := b4.trans (hb5.mono b4.size)
    have i5 := i4.below (hb5.mono s4)
    have s5 := hb5.size
    go_wp2_with fail
    refine (tag_one _ _ _ A8 A (n + q) c8 m c _ (zs ++ List.replicate q 0) ys i5 (by omega) hc8 hc8m (by omega) (ht.below b5) b5.size hc2 hc2m (by omega) (hT.1.below b5 hT.1.lt) (hT.2.below b5 hT.2.lt)).mono ?_
    rw [HTZ.out]
    rintro e w6 ⟨rfl, hb6⟩
    have b6 := b5.trans (hb6.mono b5.size)
    go_wp2_with fail
    go_ret
    exact ⟨rfl, b6⟩

theorem walk (a0 : Option Addr) (len0 cap0 : Nat) (z0 : List Int) (a1 : Option Addr) (len1 cap1 : Nat) (z1 : List Int) (a2 : Int) (w : World) (w0 : IsRow .u8 w a0 len0 cap0 z0) (w1 : IsRow .u8 w a1 len1 cap1 z1) (w2 : (Lit.int .i64 a2).wf = true) (hL : laidMetH Tryd.prog laidList w) :
    Calls Tryd.prog 7 #[.slice a0 len0 cap0, .slice a1 len1 cap1, .int .i64 a2] w fun e w' => e = .returned (.bool true) ∧ Below w.heap.size w w' := by
  obtain ⟨h, hl, hm⟩ := ints_of_row w0
  obtain ⟨h', hl', hm'⟩ := ints_of_row w1
  exact start a0 a1 len0 cap0 len1 cap1 _ _ a2 w h hl hm h' hl' hm' (sha_of_laid hL)

set_option maxRecDepth 100000 in
theorem door_met (os : Os) (args : Array Value) : laidMetH Tryd.prog laidList ((World.doorLaid Tryd.prog 400 os).forCall (fun _ _ => 0) ⟨#[], args, []⟩).memory :=
  laidMetH_of_parts3 (fuel := 8) (laidMet_of_run' 8 (by kernel_rfl) (by kernel_rfl)) (by kernel_rfl) (by kernel_rfl)

set_option maxRecDepth 100000 in
theorem lifted (os : Os) (started : os.Started) (H : Type) (enc : TypeId × Value → H) :
    ReturnsInHanded {} Tryd.checked os 7 .any (fun w args => (Rows.macLongSpec.pre enc Tryd.prog Tryd.f7 [] false w args ∧ laidMetH Tryd.prog laidList w) ∧ sizedMet enc Tryd.prog Tryd.f7 (OpenSpec.ofChange Rows.macLongSpec) false w args)
      (Rows.macLongSpec.post enc Tryd.prog Tryd.f7 false true false false) := by
  refine returnsInHanded_of_change_and (C := Tryd.checked) (X := fun w _ => laidMetH Tryd.prog laidList w) (fun _ _ _ hh h => h.of_heap hh) own started (by kernel_rfl) Tryd.func7
    (ChangeSpec.witness_shaped (enc := enc) (C := Tryd.checked) (os := os) (X := fun w _ => laidMetH Tryd.prog laidList w) false (World.doorLaid Tryd.prog 400 os) #[.slice none 0 0, .slice none 0 0, .int .i64 0] 8 rfl (World.shaped_of_RefB (by kernel_rfl) (by kernel_rfl)) (by kernel_rfl) (by kernel_rfl) (by kernel_rfl) (door_met os _)) ?_
  intro W base args ds gs before hval0 hW _ _ hL _
  have hval : ∀ (j : Nat) t v, Tryd.f7.params[j]? = some t → args[j]? = some v → Value.okWide Tryd.prog W .any base t v := hval0
  have hW' := hW
  obtain ⟨p, q, hA0, hV, rfl, hfz, hnd⟩ := hW
  have hA : DataW.TrodAll enc Tryd.prog W 0 (fun _ => true) true Tryd.f7.params.toList args.toList ds p := hA0
  rw [Tryd.params7] at hA hval
  obtain ⟨v0, vs0, d0, ds0, p0, q0, hargs, rfl, rfl, h0, r0⟩ := trodAll_cons hA
  obtain ⟨v1, vs1, d1, ds1, p1, q1, rfl, rfl, rfl, h1, r1⟩ := trodAll_cons r0
  obtain ⟨v2, vs2, d2, ds2, p2, q2, rfl, rfl, rfl, h2, r2⟩ := trodAll_cons r1
  obtain ⟨rfl, rfl, rfl⟩ := trodAll_nil r2
  obtain rfl : args = #[v0, v1, v2] := by cases args; simp_all
  obtain ⟨rfl, rfl⟩ := trodVars_none hV
  obtain ⟨a0, len0, cap0, rfl⟩ := okWide_slice Tryd.underlying24 (hval 0 24 v0 rfl rfl)
  have k0 := h0
  have lt0 : ∀ x ∈ p0, x.block < W.heap.size := by obtain ⟨m, hm⟩ := k0; exact DataW.trod_lt m _ _ _ hm
  obtain ⟨z0, w0⟩ : ∃ zs, IsRow .u8 W a0 len0 cap0 zs := by
    obtain ⟨fuel, hf⟩ := h0
    rcases open_ints Tryd.underlying24 Tryd.underlying5 (by kernel_rfl) hf with ⟨hcs, _⟩ | ⟨x, l, c, zs, hcs, _, hl, hm, hz, _, hcell, hwz⟩
    · simp [Value.cells] at hcs
      obtain ⟨rfl, rfl, rfl⟩ := hcs
      exact ⟨[], .inl ⟨rfl, rfl, rfl, rfl⟩⟩
    · simp [Value.cells] at hcs
      obtain ⟨rfl, rfl, rfl⟩ := hcs
      exact ⟨zs, .inr ⟨_, rfl, hl, hm, by simpa using hz, hcell, hwz⟩⟩
  obtain ⟨a1, len1, cap1, rfl⟩ := okWide_slice Tryd.underlying24 (hval 1 24 v1 rfl rfl)
  have k1 := h1
  have lt1 : ∀ x ∈ p1, x.block < W.heap.size := by obtain ⟨m, hm⟩ := k1; exact DataW.trod_lt m _ _ _ hm
  obtain ⟨z1, w1⟩ : ∃ zs, IsRow .u8 W a1 len1 cap1 zs := by
    obtain ⟨fuel, hf⟩ := h1
    rcases open_ints Tryd.underlying24 Tryd.underlying5 (by kernel_rfl) hf with ⟨hcs, _⟩ | ⟨x, l, c, zs, hcs, _, hl, hm, hz, _, hcell, hwz⟩
    · simp [Value.cells] at hcs
      obtain ⟨rfl, rfl, rfl⟩ := hcs
      exact ⟨[], .inl ⟨rfl, rfl, rfl, rfl⟩⟩
    · simp [Value.cells] at hcs
      obtain ⟨rfl, rfl, rfl⟩ := hcs
      exact ⟨zs, .inr ⟨_, rfl, hl, hm, by simpa using hz, hcell, hwz⟩⟩
  obtain ⟨a2, rfl, rfl, rfl, w2⟩ := open_int Tryd.underlying3 (hval 2 3 v2 rfl rfl) h2
  clear hA0 hval0
  refine (walk a0 len0 cap0 z0 a1 len1 cap1 z1 a2 W w0 w1 w2 hL).mono fun e W' ⟨he, bel⟩ => ?_
  subst he
  exact ⟨_, rfl, _, _, _, [], _, [], hW', trodAll_mk1 (shut_bool Tryd.underlying4 _), (trodAll_cons_mk (Below.trod laidOut (by kernel_rfl) (of_decide_eq_true (by kernel_rfl)) k0 bel lt0) (trodAll_cons_mk (Below.trod laidOut (by kernel_rfl) (of_decide_eq_true (by kernel_rfl)) k1 bel lt1) (trodAll_cons_mk (shut_int Tryd.underlying3 w2) trodAll_mk0))), rfl, bel.frame _, fun h => by cases h⟩

theorem over : Rows.macLongRow.holds Tryd.pinned (OpenSpec.ofChange Rows.macLongSpec) :=
  OpenClaim.holds_of_wide 7 Tryd.f7 rfl rfl rfl rfl rfl rfl rfl ⟨rfl, rfl, rfl, rfl, rfl⟩ rfl rfl rfl rfl rfl (by kernel_rfl) Tryd.func7 (by kernel_rfl)
    (of_decide_eq_true (by kernel_rfl)) (by unfold Func.isWrapper; first | (rw [if_pos (by decide +kernel)]; kernel_rfl) | (rw [if_neg (by decide +kernel)]; exact ⟨rfl, rfl⟩))
    (fun os started H enc _ => lifted os started H enc)

/-- the statement -/
theorem proved : Rows.MacLongCardSaid :=
  Claim7.holds_tied_plain_at .later [] [.data, .data] true (true, "74715a686186f48c3dd40144d148d95e47866ac8009af2670855dcda67169850") false
    over (fun _ h => by cases h) (by kernel_rfl) (fun _ h => by cases h) macLong_row_tie rfl ⟨rfl, rfl⟩ (by kernel_rfl) rfl
    (fun f fn hf hfn => by
      obtain rfl : f = 7 := Option.some.inj ((show Tryd.prog.funcNamed "domino/dominolaw03.MacLong" = some 7 by kernel_rfl).symm.trans hf) |>.symm
      obtain rfl : fn = Tryd.f7 := (Option.some.inj (Tryd.func7.symm.trans hfn)).symm
      exact ⟨by kernel_rfl, fun j t ht => by
        rw [Tryd.params7] at ht
        have hm : t ∈ [24, 24, 3] := by simpa using Array.mem_of_getElem? ht
        have hall : ([24, 24, 3].all fun u => !Tryd.prog.wantsStandIn u) = true := by kernel_rfl
        exact (show Tryd.prog.wantsStandIn t = false by simpa using List.all_eq_true.1 hall t hm)⟩)
    (by kernel_rfl)
#print axioms proved
end Go.Proofs.YtaggpecikiknkaaDoor.macLong
